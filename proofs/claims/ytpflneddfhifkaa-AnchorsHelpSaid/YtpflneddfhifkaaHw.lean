/-
All truths, as the specification makes them, and how many are quiet.
-/
import Derived.Test.YtpflneddfhifkaaHv
namespace Go.Proofs.Ytpflneddfhifkaa.S
open Go Go.Am Go.Proofs.Ytpflneddfhifkaa.T
set_option maxRecDepth 100000
set_option linter.unusedSimpArgs false
set_option linter.unusedVariables false

theorem mapM_pt {α β : Type} {f : AV → Option β} {g : α → β} {d : AV} {e : α} : ∀ {vs : List AV} {L : List α}, vs.length = L.length → (∀ i, i < L.length → f (vs.getD i d) = some (g (L.getD i e))) → vs.mapM f = some (L.map g)
  | [], [], _, _ => rfl
  | v :: vs, a :: L, hl, h => by
    have h0 := h 0 (by simp)
    have ih := mapM_pt (f := f) (g := g) (d := d) (e := e) (vs := vs) (L := L) (by simpa using hl) (fun i hi => h (i + 1) (by simpa using hi))
    simp only [get0] at h0
    simp only [List.mapM_cons, h0, ih, Option.bind_eq_bind, Option.bind_some, Option.pure_def, List.map_cons]
  | [], _ :: _, hl, _ => by simp at hl
  | _ :: _, [], hl, _ => by simp at hl

def gripsL (n : Net) : List (List Int) := exts n n.grips.length []
def resE (l : List Int) : List AV := [resL l]
theorem resE_len (l : List Int) : (resE l).length = 1 := rfl
theorem resE_map : ∀ L : List (List Int), L.map resL = L.flatMap resE
  | [] => rfl
  | a :: l => by simp only [List.map_cons, List.flatMap_cons, resE_map l]; rfl
theorem s118 {n : Net} {g a w : AV} (H : NetOk n g a w) (hv : n.valid = true) (st : Bool) : Iso E 118 [netV n g a w, .nils] st = some (slV 1 resE (gripsL n)) := by
  obtain ⟨v, h', hr, _, ho⟩ := r118 H hv n.grips.length [] .nils [] 0 (by simp) (.inl ⟨rfl, rfl⟩) (Nat.zero_le _)
  have hne := (exts_len hv (d := n.grips.length) (F := []) (by simp)).2
  rcases ho with ⟨e, _⟩ | ⟨_, o, vs, _, rfl, hc, hl, hrd⟩
  · exact absurd e hne
  have e1 : vs.mapM (view st h' 7) = some ((gripsL n).map resL) := mapM_pt (d := .undef) (e := []) hl fun i hi => (hrd i hi).view
  rw [resE_map] at e1
  simp only [Iso, hr, view_ms, rowOf_ms, Am.rowAt, hc, Option.bind_some, AO.row?, List.drop_zero, Nat.mul_one, ← hl, List.take_length, if_true]
  rw [e1, hl]
  rfl

/-! truths, one after the other -/
def Tru.e (t : Tru) : List AV := [I t.wind, I t.cur, resL t.grips]
theorem Tru.el (t : Tru) : t.e.length = 3 := rfl
instance : Inhabited Tru := ⟨⟨0, 0, []⟩⟩
def trL (n : Net) (w c : Int) (i : Nat) : List Tru := ((gripsL n).take i).map fun l => ⟨w, c, l⟩
def trC (n : Net) (w : Int) : Nat → List Tru
  | 0 => []
  | j + 1 => trC n w j ++ trL n w (n.cur.lo + (j : Int)) (gripsL n).length
def spanN (s : Spn) : Nat := (s.hi - s.lo + 1).toNat
def trW (n : Net) : Nat → List Tru
  | 0 => []
  | k + 1 => trW n k ++ trC n (n.wind.lo + (k : Int)) (spanN n.cur)
def truths (n : Net) : List Tru := trW n (spanN n.wind)
theorem trL_succ {n : Net} {w c : Int} {i : Nat} (h : i < (gripsL n).length) : trL n w c (i + 1) = trL n w c i ++ [⟨w, c, (gripsL n).getD i []⟩] := by
  unfold trL
  rw [List.take_succ_eq_append_getElem h, List.map_append]
  simp [List.getD_eq_getElem?_getD, h]
theorem grips_le {n : Net} (hv : n.valid = true) : (gripsL n).length ≤ 1000 ∧ gripsL n ≠ [] := by
  have e := exts_len hv (d := n.grips.length) (F := []) (by simp)
  have lg := (netB hv).lg
  have : 10 ^ n.grips.length ≤ 1000 := by
    match n.grips.length, lg with
    | 0, _ => decide
    | 1, _ => decide
    | 2, _ => decide
    | 3, _ => decide
  exact ⟨Nat.le_trans e.1 this, e.2⟩
theorem trL_le {n : Net} (hv : n.valid = true) {w c : Int} {i : Nat} : (trL n w c i).length ≤ 1000 := by
  have := (grips_le hv).1
  simp only [trL, List.length_map, List.length_take]; omega
theorem trC_le {n : Net} (hv : n.valid = true) {w : Int} : ∀ {j : Nat}, (trC n w j).length ≤ j * 1000
  | 0 => by simp [trC]
  | j + 1 => by
    have := trC_le hv (w := w) (j := j)
    have := trL_le hv (w := w) (c := n.cur.lo + (j : Int)) (i := (gripsL n).length)
    rw [trC, List.length_append]; omega
theorem span_le {n : Net} (hv : n.valid = true) : spanN n.cur ≤ 21 ∧ spanN n.wind ≤ 21 ∧ 0 < spanN n.cur ∧ 0 < spanN n.wind := by
  have B := netB hv
  have := B.w0; have := B.w1; have := B.w2; have := B.c0; have := B.c1; have := B.c2
  unfold spanN; omega
theorem trW_le {n : Net} (hv : n.valid = true) : ∀ {k : Nat}, (trW n k).length ≤ k * 21000
  | 0 => by simp [trW]
  | k + 1 => by
    have := trW_le hv (k := k)
    have := trC_le hv (w := n.wind.lo + (k : Int)) (j := spanN n.cur)
    have := (span_le hv).1
    rw [trW, List.length_append]; omega

theorem mem_trC {n : Net} {w : Int} {t : Tru} : ∀ {j : Nat}, t ∈ trC n w j ↔ t.wind = w ∧ (∃ i : Nat, i < j ∧ t.cur = n.cur.lo + (i : Int)) ∧ t.grips ∈ gripsL n
  | 0 => by simp [trC]
  | j + 1 => by
    rw [trC, List.mem_append, mem_trC (j := j)]
    simp only [trL, List.take_length, List.mem_map]
    constructor
    · rintro (⟨h1, ⟨i, hi, h2⟩, h3⟩ | ⟨l, hl, rfl⟩)
      · exact ⟨h1, ⟨i, by omega, h2⟩, h3⟩
      · exact ⟨rfl, ⟨j, by omega, rfl⟩, hl⟩
    · rintro ⟨h1, ⟨i, hi, h2⟩, h3⟩
      by_cases e : i = j
      · subst e; exact .inr ⟨t.grips, h3, by rw [← h1, ← h2]⟩
      · exact .inl ⟨h1, ⟨i, by omega, h2⟩, h3⟩
theorem mem_trW {n : Net} {t : Tru} : ∀ {k : Nat}, t ∈ trW n k ↔ (∃ i : Nat, i < k ∧ t.wind = n.wind.lo + (i : Int)) ∧ (∃ i : Nat, i < spanN n.cur ∧ t.cur = n.cur.lo + (i : Int)) ∧ t.grips ∈ gripsL n
  | 0 => by simp [trW]
  | k + 1 => by
    rw [trW, List.mem_append, mem_trW (k := k), mem_trC]
    constructor
    · rintro (⟨⟨i, hi, h1⟩, h2⟩ | ⟨h1, h2⟩)
      · exact ⟨⟨i, by omega, h1⟩, h2⟩
      · exact ⟨⟨k, by omega, h1⟩, h2⟩
    · rintro ⟨⟨i, hi, h1⟩, h2⟩
      by_cases e : i = k
      · subst e; exact .inr ⟨h1, h2⟩
      · exact .inl ⟨⟨i, by omega, h1⟩, h2⟩
/-- what the specification lists are the truths -/
theorem mem_truths {n : Net} {t : Tru} : t ∈ truths n ↔ truthOk n t = true := by
  unfold truths
  rw [mem_trW]
  unfold gripsL
  rw [mem_exts]
  simp only [truthOk, Bool.and_eq_true, inR_iff, decide_eq_true_eq, List.all_eq_true, List.mem_range, spanN]
  constructor
  · rintro ⟨⟨i, hi, h1⟩, ⟨j, hj, h2⟩, T, h3, h4, h5⟩
    rw [List.nil_append] at h3
    subst h3
    refine ⟨⟨⟨by omega, by omega⟩, h4⟩, fun x hx => ?_⟩
    have := h5 x (by omega)
    simpa using this
  · rintro ⟨⟨⟨h1, h2⟩, h3⟩, h4⟩
    refine ⟨⟨(t.wind - n.wind.lo).toNat, by omega, by omega⟩, ⟨(t.cur - n.cur.lo).toNat, by omega, by omega⟩, t.grips, rfl, h3, fun x hx => ?_⟩
    have := h4 x (by omega)
    simpa using this
theorem rough_mem {n : Net} (hv : n.valid = true) : rough n ∈ truths n := mem_truths.2 (rough_good hv).tr
theorem calm_mem {n : Net} (hv : n.valid = true) : calm n ∈ truths n := mem_truths.2 (calm_good hv).tr
theorem truths_good {n : Net} (hv : n.valid = true) {t : Tru} (h : t ∈ truths n) : Good n t := good_of hv (mem_truths.1 h)

/-- a list that is being made, of whatever -/
def OutE {α : Type} (enc : α → List AV) (esz b : Nat) (h : List AO) (v : AV) (l : List α) : Prop := (l = [] ∧ v = .nils) ∨ (l ≠ [] ∧ ∃ o, b ≤ o ∧ v = .ms esz o 0 l.length ∧ h[o]? = some (.cells (l.flatMap enc) false))
theorem outE_app {α : Type} {enc : α → List AV} {esz eb : Nat} (he : ∀ a, (enc a).length = esz) (hs : ∀ a, (enc a).all AV.scalar = true) (h1 : 1 ≤ esz) (heb : 1 ≤ eb) (hb : eb ≤ 1000) {pre J : List AO} {v : AV} {l : List α} {lim : Nat} (H : OutE enc esz pre.length (pre ++ J) v l) (hlim : lim ≤ pre.length) (hl : l.length ≤ 1000000) (x : α) :
    ∃ v' J', appV lim (pre ++ J) esz eb v (.cs esz 1 (enc x)) = some (v', pre ++ J') ∧ OutE enc esz pre.length (pre ++ J') v' (l ++ [x]) := by
  have hx : (enc x).length = 1 * esz := by rw [he]; omega
  rcases H with ⟨rfl, rfl⟩ | ⟨hne, o, ho, rfl, hc⟩
  · refine ⟨_, J ++ [AO.cells (enc x) false], ?_, .inr ⟨by simp, (pre ++ J).length, by simp, rfl, ?_⟩⟩
    · rw [appV_nil (n := 1) (xs := enc x) rfl rfl hx (hs x) (by omega) heb, if_neg (by omega)]
      simp
    · simp only [← List.append_assoc, List.nil_append, List.flatMap_cons, List.flatMap_nil, List.append_nil]
      exact atE
  · have ho' : o < (pre ++ J).length := (List.getElem?_eq_some_iff.1 hc).1
    refine ⟨_, J.set (o - pre.length) .tomb ++ [AO.cells ((l ++ [x]).flatMap enc) false], ?_, .inr ⟨by simp, (pre ++ J).length, by simp, rfl, ?_⟩⟩
    · have hbb : (l.length + 1) * eb ≤ 1099511627776 := by
        have := Nat.mul_le_mul (show l.length + 1 ≤ 1000001 by omega) hb
        omega
      rw [appV_ms (n := 1) (xs := enc x) (c := l.flatMap enc) (sh := false) hc (by rw [flat_len he]) rfl rfl hx (hs x) hbb heb (by omega), if_neg (by omega)]
      rw [List.set_append_right _ _ ho]
      simp
    · have e : (pre ++ J).length = (pre ++ J.set (o - pre.length) .tomb).length := by simp
      rw [e, ← List.append_assoc]
      exact atE
theorem outE_view {α : Type} {enc : α → List AV} {esz b : Nat} {h : List AO} {v : AV} {l : List α} (he : ∀ a, (enc a).length = esz) (H : OutE enc esz b h v l) (hne : l ≠ []) {st : Bool} {k : Nat} (hvw : ∀ a, (enc a).mapM (view st h k) = some (enc a)) : view st h (k + 1) v = some (slV esz enc l) := by
  rcases H with ⟨e, _⟩ | ⟨_, o, ho, rfl, hc⟩
  · exact absurd e hne
  · have e := flat_take (l := l) he
    have e2 : (l.flatMap enc).mapM (view st h k) = some (l.flatMap enc) := by
      apply mapM_view
      intro x hx
      obtain ⟨a, _, hx⟩ := List.mem_flatMap.1 hx
      exact mapM_fix (hvw a) x hx
    simp only [view_ms, rowOf_ms, Am.rowAt, hc, Option.bind_some, AO.row?, List.drop_zero, e, flat_len he, if_true, e2]
    rfl
where
  mapM_fix {f : AV → Option AV} : ∀ {c : List AV}, c.mapM f = some c → ∀ x ∈ c, f x = some x
    | [], _, x, hx => by simp at hx
    | a :: c, h, x, hx => by
      simp only [List.mapM_cons, Option.bind_eq_bind, Option.bind_eq_some_iff, Option.pure_def, Option.some.injEq, List.cons.injEq] at h
      obtain ⟨y, h1, ys, h2, rfl, rfl⟩ := h
      rcases List.mem_cons.1 hx with rfl | hx
      · exact h1
      · exact mapM_fix h2 x hx
theorem Tru.sc (t : Tru) : t.e.all AV.scalar = true := by
  simp only [Tru.e, List.all_cons, List.all_nil, resL_sc]; rfl

set_option maxHeartbeats 2000000 in
theorem s91 {n : Net} {g a w : AV} (H : NetOk n g a w) (hv : n.valid = true) : Iso E 91 [netV n g a w] false = some (slV 3 Tru.e (truths n)) := by
  refine Iso_of (es _ _ _ _) e91 ?_
  simp only [f91, netV]
  have G1 := grips_le hv
  have S := span_le hv
  have q := fun st => s118 H hv st
  obtain ⟨L, hL⟩ : ∃ L, L = gripsL n := ⟨_, rfl⟩
  have LL : IsSl 1 resE L (slV 1 resE L) := slV_is
  simp only [← hL] at q G1
  simp only [netV] at q
  have eW : (spanN n.wind : Int) = n.wind.hi - n.wind.lo + 1 := by have := S.2.2.2; unfold spanN at *; omega
  have eC : (spanN n.cur : Int) = n.cur.hi - n.cur.lo + 1 := by have := S.2.2.1; unfold spanN at *; omega
  obtain ⟨NW, hNW⟩ : ∃ NW, NW = spanN n.wind := ⟨_, rfl⟩
  obtain ⟨NC, hNC⟩ : ∃ NC, NC = spanN n.cur := ⟨_, rfl⟩
  have B := netB hv
  have := B.w0; have := B.w1; have := B.w2; have := B.c0; have := B.c1; have := B.c2
  rw [← hNW] at eW
  rw [← hNC] at eC
  rw [← hNW, ← hNC] at S
  simp (disch := first | assumption | omega | (simp only [az]; done)) only [ru, eq_self, if_true, if_false, BEq.rfl, binI, AO.row?, splice, fillL, mmAll, loadV, storeV, zeros, Am.rowAt, Am.part, addOff, Nat.reduceAdd, Nat.reduceMul, Nat.reduceLeDiff, Nat.reduceSub, Nat.reduceLT, Int.reduceEq, Int.reduceLT, Int.reduceLE, Int.reduceGT, Int.reduceGE, Int.reduceAdd, Int.reduceSub, Int.reduceMul, Int.reduceNeg, Int.reduceToNat, reduceCtorEq, reduceIte, lenV_sl H.g, lenV_sl H.a, lenV_sl H.w, elem_sl Spn.el H.g, elem_sl Anc.el H.a, elem_sl Wal.el H.w, view_sl H.g, view_sl H.a, view_sl H.w, scalar_sl H.g, scalar_sl H.a, scalar_sl H.w, cells_sl H.g, cells_sl H.a, cells_sl H.w, pure_sl H.g, pure_sl H.a, pure_sl H.w, Spn.e, Anc.e, Wal.e, Spn.eta, Anc.eta, Wal.eta, Int.toNat_natCast, q]
  refine G_loop_ind (fun m ts h mk => ∃ (k : Nat) (J : List AO) (o : AV), k ≤ NW ∧ m = NW - k ∧ ts.length = 47 ∧ ts.getD 1 .undef = .ptr 0 0 ∧ ts.getD 3 .undef = o ∧ ts.getD 4 .undef = slV 1 resE L ∧ ts.getD 5 .undef = I (n.wind.lo + (k : Int)) ∧
    OutE Tru.e 3 1 (.cells [I n.wind.lo, I n.wind.hi, I n.cur.lo, I n.cur.hi, g, a, w] false :: J) o (trW n k) ∧ h = .cells [I n.wind.lo, I n.wind.hi, I n.cur.lo, I n.cur.hi, g, a, w] false :: J ∧ mk = []) ?_ _ _ _ _ ⟨0, [], .nils, Nat.zero_le _, rfl, rfl, rfl, rfl, rfl, by simp, .inl ⟨rfl, rfl⟩, rfl, rfl⟩
  rintro m ts h mk ihW ⟨k, J, o, hk, rfl, hl, q1, q3, q4, q5, ho, rfl, rfl⟩
  rw [lit_all hl]
  simp only [lit0, litS, Nat.reduceAdd, q1, q3, q4, q5]
  simp (disch := first | assumption | omega | (simp only [az]; done)) only [ru, eq_self, if_true, if_false, BEq.rfl, binI, AO.row?, splice, fillL, mmAll, loadV, storeV, zeros, Am.rowAt, Am.part, addOff, Nat.reduceAdd, Nat.reduceMul, Nat.reduceLeDiff, Nat.reduceSub, Nat.reduceLT, Int.reduceEq, Int.reduceLT, Int.reduceLE, Int.reduceGT, Int.reduceGE, Int.reduceAdd, Int.reduceSub, Int.reduceMul, Int.reduceNeg, Int.reduceToNat, reduceCtorEq, reduceIte, lenV_sl H.g, lenV_sl H.a, lenV_sl H.w, elem_sl Spn.el H.g, elem_sl Anc.el H.a, elem_sl Wal.el H.w, view_sl H.g, view_sl H.a, view_sl H.w, scalar_sl H.g, scalar_sl H.a, scalar_sl H.w, cells_sl H.g, cells_sl H.a, cells_sl H.w, pure_sl H.g, pure_sl H.a, pure_sl H.w, Spn.e, Anc.e, Wal.e, Spn.eta, Anc.eta, Wal.eta, Int.toNat_natCast]
  by_cases hltW : n.wind.lo + (k : Int) ≤ n.wind.hi
  case pos =>
    simp (disch := first | assumption | omega | (simp only [az]; done)) only [ru, eq_self, if_true, if_false, BEq.rfl, binI, AO.row?, splice, fillL, mmAll, loadV, storeV, zeros, Am.rowAt, Am.part, addOff, Nat.reduceAdd, Nat.reduceMul, Nat.reduceLeDiff, Nat.reduceSub, Nat.reduceLT, Int.reduceEq, Int.reduceLT, Int.reduceLE, Int.reduceGT, Int.reduceGE, Int.reduceAdd, Int.reduceSub, Int.reduceMul, Int.reduceNeg, Int.reduceToNat, reduceCtorEq, reduceIte, hltW, lenV_sl H.g, lenV_sl H.a, lenV_sl H.w, elem_sl Spn.el H.g, elem_sl Anc.el H.a, elem_sl Wal.el H.w, view_sl H.g, view_sl H.a, view_sl H.w, scalar_sl H.g, scalar_sl H.a, scalar_sl H.w, cells_sl H.g, cells_sl H.a, cells_sl H.w, pure_sl H.g, pure_sl H.a, pure_sl H.w, Spn.e, Anc.e, Wal.e, Spn.eta, Anc.eta, Wal.eta, Int.toNat_natCast]
    clear hl q1 q3 q4 q5
    refine G_loop_ind (fun m ts h mk => ∃ (j : Nat) (J : List AO) (o : AV), j ≤ NC ∧ m = NC - j ∧ ts.length = 47 ∧ ts.getD 1 .undef = .ptr 0 0 ∧ ts.getD 3 .undef = o ∧ ts.getD 4 .undef = slV 1 resE L ∧ ts.getD 5 .undef = I (n.wind.lo + (k : Int)) ∧ ts.getD 6 .undef = I (n.cur.lo + (j : Int)) ∧
      OutE Tru.e 3 1 (.cells [I n.wind.lo, I n.wind.hi, I n.cur.lo, I n.cur.hi, g, a, w] false :: J) o (trW n k ++ trC n (n.wind.lo + (k : Int)) j) ∧ h = .cells [I n.wind.lo, I n.wind.hi, I n.cur.lo, I n.cur.hi, g, a, w] false :: J ∧ mk = []) ?_ _ _ _ _ ⟨0, J, o, Nat.zero_le _, rfl, rfl, rfl, rfl, rfl, rfl, by simp, by simpa [trC] using ho, rfl, rfl⟩
    clear ho o J
    rintro m ts h mk ihC ⟨j, J, o, hj, rfl, hl, q1, q3, q4, q5, q6, ho, rfl, rfl⟩
    rw [lit_all hl]
    simp only [lit0, litS, Nat.reduceAdd, q1, q3, q4, q5, q6]
    simp (disch := first | assumption | omega | (simp only [az]; done)) only [ru, eq_self, if_true, if_false, BEq.rfl, binI, AO.row?, splice, fillL, mmAll, loadV, storeV, zeros, Am.rowAt, Am.part, addOff, Nat.reduceAdd, Nat.reduceMul, Nat.reduceLeDiff, Nat.reduceSub, Nat.reduceLT, Int.reduceEq, Int.reduceLT, Int.reduceLE, Int.reduceGT, Int.reduceGE, Int.reduceAdd, Int.reduceSub, Int.reduceMul, Int.reduceNeg, Int.reduceToNat, reduceCtorEq, reduceIte, lenV_sl H.g, lenV_sl H.a, lenV_sl H.w, elem_sl Spn.el H.g, elem_sl Anc.el H.a, elem_sl Wal.el H.w, view_sl H.g, view_sl H.a, view_sl H.w, scalar_sl H.g, scalar_sl H.a, scalar_sl H.w, cells_sl H.g, cells_sl H.a, cells_sl H.w, pure_sl H.g, pure_sl H.a, pure_sl H.w, Spn.e, Anc.e, Wal.e, Spn.eta, Anc.eta, Wal.eta, Int.toNat_natCast]
    by_cases hltC : n.cur.lo + (j : Int) ≤ n.cur.hi
    case pos =>
      simp (disch := first | assumption | omega | (simp only [az]; done)) only [ru, eq_self, if_true, if_false, BEq.rfl, binI, AO.row?, splice, fillL, mmAll, loadV, storeV, zeros, Am.rowAt, Am.part, addOff, Nat.reduceAdd, Nat.reduceMul, Nat.reduceLeDiff, Nat.reduceSub, Nat.reduceLT, Int.reduceEq, Int.reduceLT, Int.reduceLE, Int.reduceGT, Int.reduceGE, Int.reduceAdd, Int.reduceSub, Int.reduceMul, Int.reduceNeg, Int.reduceToNat, reduceCtorEq, reduceIte, hltC, lenV_sl H.g, lenV_sl H.a, lenV_sl H.w, elem_sl Spn.el H.g, elem_sl Anc.el H.a, elem_sl Wal.el H.w, view_sl H.g, view_sl H.a, view_sl H.w, scalar_sl H.g, scalar_sl H.a, scalar_sl H.w, cells_sl H.g, cells_sl H.a, cells_sl H.w, pure_sl H.g, pure_sl H.a, pure_sl H.w, Spn.e, Anc.e, Wal.e, Spn.eta, Anc.eta, Wal.eta, Int.toNat_natCast]
      clear hl q1 q3 q4 q5 q6
      refine G_loop_ind (fun m ts h mk => ∃ (i : Nat) (J : List AO) (o : AV), i ≤ L.length ∧ m = L.length - i ∧ ts.length = 47 ∧ ts.getD 1 .undef = .ptr 0 0 ∧ ts.getD 3 .undef = o ∧ ts.getD 4 .undef = slV 1 resE L ∧ ts.getD 5 .undef = I (n.wind.lo + (k : Int)) ∧ ts.getD 6 .undef = I (n.cur.lo + (j : Int)) ∧ ts.getD 7 .undef = I i ∧
        OutE Tru.e 3 1 (.cells [I n.wind.lo, I n.wind.hi, I n.cur.lo, I n.cur.hi, g, a, w] false :: J) o ((trW n k ++ trC n (n.wind.lo + (k : Int)) j) ++ trL n (n.wind.lo + (k : Int)) (n.cur.lo + (j : Int)) i) ∧ h = .cells [I n.wind.lo, I n.wind.hi, I n.cur.lo, I n.cur.hi, g, a, w] false :: J ∧ mk = []) ?_ _ _ _ _ ⟨0, J, o, Nat.zero_le _, rfl, rfl, rfl, rfl, rfl, rfl, rfl, rfl, by simpa [trL] using ho, rfl, rfl⟩
      clear ho o J
      rintro m ts h mk ihL ⟨i, J, o, hi, rfl, hl, q1, q3, q4, q5, q6, q7, ho, rfl, rfl⟩
      rw [lit_all hl]
      simp only [lit0, litS, Nat.reduceAdd, q1, q3, q4, q5, q6, q7]
      simp (disch := first | assumption | omega | (simp only [az]; done)) only [ru, eq_self, if_true, if_false, BEq.rfl, binI, AO.row?, splice, fillL, mmAll, loadV, storeV, zeros, Am.rowAt, Am.part, addOff, Nat.reduceAdd, Nat.reduceMul, Nat.reduceLeDiff, Nat.reduceSub, Nat.reduceLT, Int.reduceEq, Int.reduceLT, Int.reduceLE, Int.reduceGT, Int.reduceGE, Int.reduceAdd, Int.reduceSub, Int.reduceMul, Int.reduceNeg, Int.reduceToNat, reduceCtorEq, reduceIte, lenV_sl LL]
      by_cases hlt : (i : Int) < L.length
      case pos =>
        have hi' : i < L.length := by omega
        have b1 := trW_le hv (k := k)
        have b2 := trC_le hv (w := n.wind.lo + (k : Int)) (j := j)
        have b3 := trL_le hv (w := n.wind.lo + (k : Int)) (c := n.cur.lo + (j : Int)) (i := i)
        obtain ⟨v', J', ha, ho'⟩ := outE_app (pre := [(.cells [I n.wind.lo, I n.wind.hi, I n.cur.lo, I n.cur.hi, g, a, w] false : AO)]) (J := J) (eb := 40) (lim := 0) Tru.el Tru.sc (by omega) (by omega) (by omega) ho (Nat.zero_le _) (by simp only [List.length_append]; omega) ⟨n.wind.lo + (k : Int), n.cur.lo + (j : Int), L.getD i default⟩
        simp only [apC, apN, lenS, len0, Nat.zero_add, Tru.e] at ha ho'
        simp (disch := first | assumption | omega | (simp only [az]; done)) only [ru, eq_self, if_true, if_false, BEq.rfl, binI, AO.row?, splice, fillL, mmAll, loadV, storeV, zeros, Am.rowAt, Am.part, addOff, Nat.reduceAdd, Nat.reduceMul, Nat.reduceLeDiff, Nat.reduceSub, Nat.reduceLT, Int.reduceEq, Int.reduceLT, Int.reduceLE, Int.reduceGT, Int.reduceGE, Int.reduceAdd, Int.reduceSub, Int.reduceMul, Int.reduceNeg, Int.reduceToNat, reduceCtorEq, reduceIte, hlt, elem_sl resE_len LL, Int.toNat_natCast, resE, exOp_litS, resL_sc, resL_ce, resL_pu, ha]
        refine ihL (L.length - (i + 1)) _ _ _ (by omega) ⟨i + 1, J', v', by omega, rfl, rfl, rfl, rfl, rfl, rfl, rfl, rfl, ?_, rfl, rfl⟩
        rw [trL_succ (by rw [← hL]; exact hi'), ← List.append_assoc, ← hL]
        exact ho'
      obtain rfl : i = L.length := by omega
      simp (disch := first | assumption | omega | (simp only [az]; done)) only [ru, eq_self, if_true, if_false, BEq.rfl, binI, AO.row?, splice, fillL, mmAll, loadV, storeV, zeros, Am.rowAt, Am.part, addOff, Nat.reduceAdd, Nat.reduceMul, Nat.reduceLeDiff, Nat.reduceSub, Nat.reduceLT, Int.reduceEq, Int.reduceLT, Int.reduceLE, Int.reduceGT, Int.reduceGE, Int.reduceAdd, Int.reduceSub, Int.reduceMul, Int.reduceNeg, Int.reduceToNat, reduceCtorEq, reduceIte, hlt]
      refine ihC (NC - (j + 1)) _ _ _ (by omega) ⟨j + 1, J, o, by omega, rfl, rfl, rfl, rfl, rfl, rfl, ?_, ?_, rfl, rfl⟩
      · show I _ = I _; congr 1; omega
      · rw [trC, ← hL, ← List.append_assoc]; exact ho
    obtain rfl : j = NC := by omega
    simp (disch := first | assumption | omega | (simp only [az]; done)) only [ru, eq_self, if_true, if_false, BEq.rfl, binI, AO.row?, splice, fillL, mmAll, loadV, storeV, zeros, Am.rowAt, Am.part, addOff, Nat.reduceAdd, Nat.reduceMul, Nat.reduceLeDiff, Nat.reduceSub, Nat.reduceLT, Int.reduceEq, Int.reduceLT, Int.reduceLE, Int.reduceGT, Int.reduceGE, Int.reduceAdd, Int.reduceSub, Int.reduceMul, Int.reduceNeg, Int.reduceToNat, reduceCtorEq, reduceIte, hltC]
    refine ihW (NW - (k + 1)) _ _ _ (by omega) ⟨k + 1, J, o, by omega, rfl, rfl, rfl, rfl, rfl, ?_, ?_, rfl, rfl⟩
    · show I _ = I _; congr 1; omega
    · rw [trW, ← hNC]; exact ho
  obtain rfl : k = NW := by omega
  simp (disch := first | assumption | omega | (simp only [az]; done)) only [ru, eq_self, if_true, if_false, BEq.rfl, binI, AO.row?, splice, fillL, mmAll, loadV, storeV, zeros, Am.rowAt, Am.part, addOff, Nat.reduceAdd, Nat.reduceMul, Nat.reduceLeDiff, Nat.reduceSub, Nat.reduceLT, Int.reduceEq, Int.reduceLT, Int.reduceLE, Int.reduceGT, Int.reduceGE, Int.reduceAdd, Int.reduceSub, Int.reduceMul, Int.reduceNeg, Int.reduceToNat, reduceCtorEq, reduceIte, hltW]
  have hne : truths n ≠ [] := List.ne_nil_of_mem (rough_mem hv)
  rw [hNW] at ho
  exact outE_view Tru.el ho hne (fun t => by simp only [Tru.e]; simp (disch := first | assumption | omega | (simp only [az]; done)) only [ru, eq_self, if_true, if_false, BEq.rfl, binI, AO.row?, splice, fillL, mmAll, loadV, storeV, zeros, Am.rowAt, Am.part, addOff, Nat.reduceAdd, Nat.reduceMul, Nat.reduceLeDiff, Nat.reduceSub, Nat.reduceLT, Int.reduceEq, Int.reduceLT, Int.reduceLE, Int.reduceGT, Int.reduceGE, Int.reduceAdd, Int.reduceSub, Int.reduceMul, Int.reduceNeg, Int.reduceToNat, reduceCtorEq, reduceIte, resL_vi])
end Go.Proofs.Ytpflneddfhifkaa.S
