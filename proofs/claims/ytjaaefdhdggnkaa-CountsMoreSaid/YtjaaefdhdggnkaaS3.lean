/-
The functions of both sides of stage 1, one after another (S3).
-/
import Derived.Test.YtjaaefdhdggnkaaS2
import Derived.Test.YtjaaefdhdggnkaaAmY

/-
A trap in new memory: Copy.
-/
namespace Go.Proofs.Ytjaaefdhdggnkaa.S
open Go Go.Am Go.Proofs.Ytjaaefdhdggnkaa.T
set_option maxRecDepth 100000
set_option linter.unusedSimpArgs false
set_option linter.unusedVariables false

/-! appends in a region of open order -/
noncomputable def appG (keep : Bool) (lim p esz eb : Nat) (h : List AO) (s x : AV) : Option (AV × List AO) := exOp (fun _ _ _ _ => none) lim (some p) (fun o => match o with | .t 0 => s | _ => x) h (.append keep esz eb (.t 0) (.t 1))
theorem appG_zero {keep : Bool} {lim p esz eb sl : Nat} {h : List AO} {s x : AV} (hs : lenOf s = some sl) (hx : lenOf x = some 0) (hr : Am.rowOf h x = some []) : appG keep lim p esz eb h s x = some (s, h) := by
  simp only [appG, exOp, hs, hx, hr, List.length_nil, Nat.zero_mul, if_true]
theorem appG_nil {keep : Bool} {lim p esz eb n : Nat} {h : List AO} {x : AV} {xs : List AV} (hn : n ≠ 0) (hx : lenOf x = some n) (hr : Am.rowOf h x = some xs) (hl : xs.length = n * esz) (hs : xs.all AV.scalar = true) (hb : n * eb ≤ 140737488355328) (heb : 1 ≤ eb) :
    appG keep lim p esz eb h .nils x = some (.ms esz p 0 n, h.set p (.cells xs false)) := by
  simp only [appG, exOp, lenOf_nils, hx, hr, hl, hn, hs, hb, heb, Nat.zero_add, if_true, if_false, and_self, newAt, Option.getD_some]
theorem appG_ms {keep : Bool} {lim p esz eb n o len : Nat} {h : List AO} {x : AV} {c xs : List AV} (hn : n ≠ 0) (ho : h[o]? = some (.cells c false)) (hc : len * esz = c.length) (hx : lenOf x = some n) (hr : Am.rowOf h x = some xs) (hl : xs.length = n * esz) (hs : xs.all AV.scalar = true)
    (hb : (len + n) * eb ≤ 140737488355328) (heb : 1 ≤ eb) (hlim : lim ≤ o) :
    appG keep lim p esz eb h (.ms esz o 0 len) x = some (.ms esz p 0 (len + n), (h.set o (if keep then .ro c else .tomb)).set p (.cells (c ++ xs) (keep && len != 0))) := by
  simp only [appG, exOp, lenOf_ms, hx, hr, hl, hn, hs, hb, heb, ho, hc, hlim, if_true, if_false, and_self, true_and, true_or, newObj', Option.getD_some, List.take_length, Bool.or_false]
theorem GO_mapp {X : Cx} {base : Nat} {k : List KF} {ts : List AV} {h : List AO} {mk : List Nat} {r : List AOper} {d : Option Nat} {kp : Bool} {e eb s : Nat} {a x : Opd} {m : List Nat} :
    GO X base (⟨d, .append kp e eb a x, none, some s, m⟩ :: r) k ts h mk = GX X base ((appG kp X.lim (base + s) e eb (hide base m h) (a.ev ts) (x.ev ts)).map fun y => (y.1, unhide base h m y.2)) d r k ts mk := by
  rw [GO_slot]
  congr 1
  show exMask (R X.E) X.lim base (some (base + s)) (Opd.ev ts) h (.append kp e eb a x) m = _
  rw [exMask_eq]; rfl
theorem unhN {b : Nat} {h g : List AO} : unhide b h [] g = g := id rfl
theorem unhC {b s : Nat} {r : List Nat} {h g : List AO} : unhide b h (s :: r) g = (unhide b h r g).set (b + s) (h.getD (b + s) .tomb) := id rfl
theorem intSc (n : Int) : (intL n).all AV.scalar = true := rfl
theorem flat1 (l : List Int) : (l.flatMap intL).length = l.length := by rw [flat_len intE]; omega
/-- the first append: a copy -/
theorem app_one {α : Type} {esz eb lim : Nat} {enc : α → List AV} {l : List α} {v : AV} {h J : List AO} (hv : IsSl esz enc l v) (he : ∀ a, (enc a).length = esz) (hs : ∀ a, (enc a).all AV.scalar = true) (hb : l.length * eb ≤ 140737488355328) (heb : 1 ≤ eb) (hlim : lim ≤ h.length) :
    ∃ q x0 x1, q < 2 ∧ appG true lim (h.length + 1) esz eb (h ++ .cells [] false :: .tomb :: J) (.ms esz h.length 0 0) v = some (.ms esz (h.length + q) 0 l.length, h ++ x0 :: x1 :: J) ∧ [x0, x1][q]? = some (.cells (l.flatMap enc) false) := by
  by_cases hz : l.length = 0
  · have e : l = [] := List.eq_nil_of_length_eq_zero hz
    subst e
    refine ⟨0, .cells [] false, .tomb, by omega, ?_, rfl⟩
    have hr : Am.rowOf (h ++ .cells [] false :: .tomb :: J) v = some [] := rowOf_sl hv _
    rw [appG_zero (sl := 0) rfl (lenOf_sl hv) hr]; rfl
  · refine ⟨1, .ro [], .cells (l.flatMap enc) false, by omega, ?_, rfl⟩
    rw [appG_ms (c := []) hz atA0 (by simp) (lenOf_sl hv) (rowOf_sl hv _) (flat_len he l) (scal_sl hs l) (by simpa using hb) heb hlim, setT0, setT]
    simp

/-! what lies in the heap -/
def WvH (h : List AO) (ow : Nat) (wv : AV) (ws : List Wd) : Prop := wv = .ms 4 ow 0 ws.length ∧ h[ow]? = some (.cells (ws.flatMap Wd.e) false)
/-- a list of numbers in the heap, not at two places -/
def LiH (h : List AO) (o ow : Nat) (u : AV) (l : List Int) : Prop := ∃ p, p ≠ o ∧ p ≠ ow ∧ u = .ms 1 p 0 l.length ∧ h[p]? = some (.cells (l.flatMap intL) false)
def OvH (h : List AO) (ow : Nat) (ov : AV) (L : List Ls) : Prop := (L = [] ∧ ov = .nils) ∨ (L ≠ [] ∧ ∃ o vs, o ≠ ow ∧ ov = .ms 1 o 0 L.length ∧ h[o]? = some (.cells vs false) ∧ vs.length = L.length ∧ ∀ i, i < L.length → LiH h o ow (vs.getD i .undef) (L.getD i default).list)
structure CpH (t : Trap) (h : List AO) (ow : Nat) (ov wv : AV) : Prop where
  o : OvH h ow ov t.op
  w : WvH h ow wv t.ws
theorem OvH.fr {h h' : List AO} {ow : Nat} {ov : AV} {L : List Ls} (H : OvH h ow ov L) (hf : ∀ k, k < h.length → k ≠ ow → h'[k]? = h[k]?) : OvH h' ow ov L := by
  rcases H with H | ⟨hne, o, vs, h1, rfl, ho, hl, hr⟩
  · exact .inl H
  · refine .inr ⟨hne, o, vs, h1, rfl, by rw [hf o (List.getElem?_eq_some_iff.1 ho).1 h1]; exact ho, hl, fun i hi => ?_⟩
    obtain ⟨p, p1, p2, e, hp⟩ := hr i hi
    exact ⟨p, p1, p2, e, by rw [hf p (List.getElem?_eq_some_iff.1 hp).1 p2]; exact hp⟩
theorem mapM_get {f : AV → Option AV} : ∀ {vs us : List AV}, vs.length = us.length → (∀ i, i < us.length → f (vs.getD i .undef) = some (us.getD i .undef)) → vs.mapM f = some us
  | [], [], _, _ => rfl
  | [], _ :: _, h, _ => by simp at h
  | _ :: _, [], h, _ => by simp at h
  | v :: vs, u :: us, h, hi => by
    have h0 := hi 0 (by simp)
    have ih := mapM_get (f := f) (vs := vs) (us := us) (by simpa using h) fun i hi' => by
      have := hi (i + 1) (by simpa using hi')
      simpa using this
    simp only [get0] at h0
    rw [List.mapM_cons, h0]
    show (do let y ← vs.mapM f; pure (u :: y)) = _
    rw [ih]; rfl
theorem ints_view {st : Bool} {h : List AO} {n : Nat} (l : List Int) : (l.flatMap intL).mapM (view st h n) = some (l.flatMap intL) := by
  induction l with
  | nil => rfl
  | cons a l ih =>
    show (I a :: l.flatMap intL).mapM (view st h n) = _
    rw [List.mapM_cons, view_int]
    show (do let y ← (l.flatMap intL).mapM (view st h n); pure (I a :: y)) = _
    rw [ih]; rfl
theorem wds_view {st : Bool} {h : List AO} {n : Nat} (l : List Wd) : (l.flatMap Wd.e).mapM (view st h n) = some (l.flatMap Wd.e) := by
  induction l with
  | nil => rfl
  | cons a l ih =>
    show (I a.time :: I a.ch :: I a.lo :: I a.hi :: l.flatMap Wd.e).mapM (view st h n) = _
    simp only [List.mapM_cons, view_int, ih]; rfl
theorem LiH.view {h : List AO} {o ow n : Nat} {u : AV} {l : List Int} (H : LiH h o ow u l) (st : Bool) : view st h (n + 1) u = some (slV 1 intL l) := by
  obtain ⟨p, _, _, rfl, hp⟩ := H
  rw [view_ms, rowOf_ms]
  simp only [Am.rowAt, hp, Option.bind_some, AO.row?, List.drop_zero]
  rw [List.take_of_length_le (by rw [flat1]; omega), if_pos (by rw [flat1]; omega)]
  simp only [ints_view, Option.map_some, slV]
theorem WvH.view {h : List AO} {n ow : Nat} {wv : AV} {ws : List Wd} (H : WvH h ow wv ws) (st : Bool) : view st h (n + 1) wv = some (slV 4 Wd.e ws) := by
  obtain ⟨rfl, hp⟩ := H
  have hl := flat_len Wd.el ws
  rw [view_ms, rowOf_ms]
  simp only [Am.rowAt, hp, Option.bind_some, AO.row?, List.drop_zero]
  rw [List.take_of_length_le (by omega), if_pos (by omega)]
  simp only [wds_view, Option.map_some, slV]
/-- the list of lists of a copy, as a value -/
def cpO (L : List Ls) : AV := if L = [] then .nils else slV 1 Ls.e (cpL L)
theorem cpO_is {L : List Ls} : IsSl 1 Ls.e (cpL L) (cpO L) := by
  unfold cpO
  split
  · rename_i e; subst e; exact .inr ⟨rfl, rfl⟩
  · exact slV_is
theorem OvH.view {h : List AO} {n ow : Nat} {ov : AV} {L : List Ls} (H : OvH h ow ov L) (st : Bool) : view st h (n + 2) ov = some (cpO L) := by
  unfold cpO
  rcases H with ⟨rfl, rfl⟩ | ⟨hne, o, vs, _, rfl, ho, hl, hr⟩
  · rw [if_pos rfl, view_nils]
  · rw [if_neg hne, view_ms, rowOf_ms]
    simp only [Am.rowAt, ho, Option.bind_some, AO.row?, List.drop_zero]
    rw [List.take_of_length_le (by omega), if_pos (by omega)]
    have hf : ((cpL L).flatMap Ls.e).length = L.length := by rw [flat_len Ls.el, cpL_len, Nat.mul_one]
    have hm : vs.mapM (Am.view st h (n + 1)) = some ((cpL L).flatMap Ls.e) := by
      refine mapM_get (by omega) fun i hi => ?_
      have hi' : i < L.length := by omega
      rw [(hr i hi').view st]
      congr 1
      have hc : i < (cpL L).length := by rw [cpL_len]; exact hi'
      have := flat_at Ls.el (cpL L) i hc
      have e2 : (cpL L)[i] = ⟨(L.getD i default).list, false⟩ := by
        have := cpL_at hi'
        rwa [List.getD_eq_getElem?_getD, List.getElem?_eq_getElem hc, Option.getD_some] at this
      rw [e2] at this
      have e3 : ((cpL L).flatMap Ls.e).getD i .undef = slV 1 intL (L.getD i default).list := by
        rw [Nat.mul_one] at this
        have h4 : (((cpL L).flatMap Ls.e).drop i).head? = some (slV 1 intL (L.getD i default).list) := by
          have := congrArg List.head? this
          rw [List.head?_take] at this
          simpa [Ls.e, Ls.v] using this
        rw [List.head?_drop] at h4
        rw [List.getD_eq_getElem?_getD, h4]; rfl
      exact e3.symm
    simp only [hm, Option.map_some, slV, cpL_len]
/-- a copy, as a value -/
abbrev cpV (t : Trap) : AV := trV t (cpO t.op) (slV 4 Wd.e t.ws)
theorem CpH.view {t : Trap} {h : List AO} {n ow : Nat} {ov wv : AV} (H : CpH t h ow ov wv) (st : Bool) : view st h (n + 3) (trV t ov wv) = some (cpV t) := by
  show ([I t.ch, I t.tm, ov, wv].mapM (Am.view st h (n + 2))).map AV.agg = _
  have h1 := H.o.view (n := n) st
  have h2 := H.w.view (n := n + 1) st
  simp only [List.mapM_cons, List.mapM_nil, view_int, h1, h2]
  rfl
theorem TrOk.cpv {t : Trap} {o w : AV} (H : TrOk t o w) : TrOk t.cp (cpO t.op) (slV 4 Wd.e t.ws) := H.cp cpO_is slV_is

end Go.Proofs.Ytjaaefdhdggnkaa.S

/-
One word more, one word less: what truths there are; each number between both ends is so in some truth.
-/
namespace Go.Proofs.Ytjaaefdhdggnkaa.S
open Go Go.Am Go.Proofs.Ytjaaefdhdggnkaa.T
set_option maxRecDepth 100000
set_option linter.unusedSimpArgs false
set_option linter.unusedVariables false

/-- one word more -/
def Trap.add (t : Trap) (w : Wd) : Trap := ⟨t.ch, t.tm, t.op, t.ws ++ [w]⟩
section
variable {t : Trap} {C T : Nat}
theorem add_C {w : Wd} : (t.add w).C = t.C := rfl
theorem add_T {w : Wd} : (t.add w).T = t.T := rfl
theorem allW {ws : List Wd} {x : Nat → Int} : (∀ k, k < ws.length → saysW C x (ws.getD k default)) ↔ ∀ y ∈ ws, saysW C x y := by
  constructor
  · intro h y hy
    obtain ⟨k, hk, rfl⟩ := List.mem_iff_getElem.1 hy
    have := h k hk
    rwa [List.getD_eq_getElem?_getD, List.getElem?_eq_getElem hk, Option.getD_some] at this
  · intro h k hk
    rw [List.getD_eq_getElem?_getD, List.getElem?_eq_getElem hk, Option.getD_some]
    exact h _ (List.getElem_mem hk)
theorem add_all {w : Wd} {x : Nat → Int} : AllS C T (t.add w) x ↔ AllS C T t x ∧ saysW C x w := by
  constructor
  · intro A
    have hw := allW.1 A.w
    exact ⟨⟨A.f, A.m, allW.2 fun y hy => hw y (by simp [Trap.add, hy])⟩, hw w (by simp [Trap.add])⟩
  · rintro ⟨A, h⟩
    refine ⟨A.f, A.m, allW.2 fun y hy => ?_⟩
    simp only [Trap.add, List.mem_append, List.mem_singleton] at hy
    rcases hy with hy | rfl
    · exact allW.1 A.w y hy
    · exact h
theorem add_trb {w : Wd} (V : TrB t) (h8 : t.ws.length ≤ 8) (hf : fitB t w = true) : TrB (t.add w) := by
  refine ⟨V.c0, V.c1, V.t0, V.t1, V.o, by simp [Trap.add]; omega, V.ro, fun y hy => ?_⟩
  simp only [Trap.add, List.mem_append, List.mem_singleton] at hy
  rcases hy with hy | rfl
  · exact V.fw y hy
  · exact hf
/-! truths -/
def Tr (t : Trap) (x : Nat → Int) : Prop := Sat 21 (bat wide) x ∧ AllS t.C t.T t x
theorem solv_tr : Solv t.C t.T t ↔ ∃ x, Tr t x := Iff.rfl
theorem tr_add {w : Wd} {x : Nat → Int} : Tr (t.add w) x ↔ Tr t x ∧ saysW t.C x w := by
  unfold Tr
  rw [add_C, add_T, add_all]; exact and_assoc.symm
theorem tr_cp {x : Nat → Int} : Tr t.cp x ↔ Tr t x := by
  unfold Tr
  rw [cp_C, cp_T, cp_all]
theorem xt_tr {f : (Nat → Int) → Int} {lo hi : Int} (X : Xt t f lo hi) : (∀ x, Tr t x → lo ≤ f x ∧ f x ≤ hi) ∧ (∃ x, Tr t x ∧ f x = lo) ∧ ∃ x, Tr t x ∧ f x = hi :=
  ⟨fun x hx => X.b x hx.1 hx.2, by obtain ⟨x, a, b, c⟩ := X.l; exact ⟨x, ⟨a, b⟩, c⟩, by obtain ⟨x, a, b, c⟩ := X.h; exact ⟨x, ⟨a, b⟩, c⟩⟩
theorem tr_xt {f : (Nat → Int) → Int} {lo hi : Int} (h1 : ∀ x, Tr t x → lo ≤ f x ∧ f x ≤ hi) (h2 : ∃ x, Tr t x ∧ f x = lo) (h3 : ∃ x, Tr t x ∧ f x = hi) : Xt t f lo hi :=
  ⟨fun x a b => h1 x ⟨a, b⟩, by obtain ⟨x, a, c⟩ := h2; exact ⟨x, a.1, a.2, c⟩, by obtain ⟨x, a, c⟩ := h3; exact ⟨x, a.1, a.2, c⟩⟩
/-! each number between -/
theorem mid0 {b : Bd} {N i j : Nat} (K : Cld N b) (hi : i < N) (hj : j < N) {n : Int} (h1 : - b j i ≤ n) (h2 : n ≤ b i j) : ∃ x, Sat N b x ∧ x i - x j = n := by
  have k1 := upd_cld K hi hj (m := n) (by omega)
  have e : upd b i j n i j = n := by
    have z1 := K.z i hi
    have z2 := K.z j hj
    unfold upd mn
    split <;> omega
  have k2 := upd_cld k1 hj hi (m := -n) (by omega)
  have s := leastSat k2 (by omega)
  have s1 := (upd_sat k1 hj hi).1 s
  have s2 := (upd_sat K hi hj).1 s1.1
  have a := s1.2
  have b := s2.2
  exact ⟨_, s2.1, by omega⟩
theorem Says.mid {B : List Int} (K : Ok B) (s : Says t.C t.T t B) {i j : Nat} (hi : i < 21) (hj : j < 21) {lo hi' n : Int} (X : Xt t (fun x => x i - x j) lo hi') (h1 : lo ≤ n) (h2 : n ≤ hi') : ∃ x, Tr t x ∧ x i - x j = n := by
  obtain ⟨e1, e2⟩ := X.uniq (s.xt K hi hj)
  obtain ⟨x, hx, e⟩ := mid0 K.cld hi hj (n := n) (by omega) (by omega)
  exact ⟨x, (s x).1 hx, e⟩
theorem exB {o w : AV} (H : TrOk t o w) (V : TrB t) (hs : Solv t.C t.T t) : ∃ B, Ok B ∧ Says t.C t.T t B := by
  obtain ⟨b, B, K, hr, hk, KB, y, n⟩ := r90 H V (trC V) (trT V)
  cases b
  · obtain ⟨x, h1, h2⟩ := hs
    exact absurd h2 (n rfl x h1)
  · exact ⟨B, KB, y rfl⟩
theorem midG {o w : AV} (H : TrOk t o w) (V : TrB t) {i c : Nat} (hi : i < t.T) (hc : c < t.C) {lo hi' n : Int} (X : Xt t (fun x => gap t.C x i c) lo hi') (h1 : lo ≤ n) (h2 : n ≤ hi') : ∃ x, Tr t x ∧ gap t.C x i c = n := by
  have hs : Solv t.C t.T t := by obtain ⟨x, a, b, _⟩ := X.l; exact ⟨x, a, b⟩
  obtain ⟨B, K, s⟩ := exB H V hs
  have v1 := V.c1; have v2 := V.t1; have e1 := trC V; have e2 := trT V
  exact s.mid K (sumN_lt (ch := t.C) (t := i) (c := c) (by omega) (by omega) (by omega)) (sumN_lt (ch := t.C) (t := i) (c := c + 1) (by omega) (by omega) (by omega)) X h1 h2
/-- the ends are numbers of fish -/
theorem gap_bd {x : Nat → Int} (hx : Tr t x) {i c : Nat} (hi : i < t.T) (hc : c < t.C) : 0 ≤ gap t.C x i c ∧ gap t.C x i c ≤ 40 := hx.2.f i c hi hc
theorem xt_bd {i c : Nat} (hi : i < t.T) (hc : c < t.C) {lo hi' : Int} (X : Xt t (fun x => gap t.C x i c) lo hi') : 0 ≤ lo ∧ lo ≤ hi' ∧ hi' ≤ 40 := by
  obtain ⟨a, ⟨x, b1, b2⟩, y, c1, c2⟩ := xt_tr X
  have h1 := gap_bd b1 hi hc
  have h2 := gap_bd c1 hi hc
  have h3 := a x b1
  try simp only at b2 c2 h3
  omega
end
end Go.Proofs.Ytjaaefdhdggnkaa.S

/-
What the program answers: judge and Judge, enough and Enough, doubt.
-/
namespace Go.Proofs.Ytjaaefdhdggnkaa.S
open Go Go.Am Go.Proofs.Ytjaaefdhdggnkaa.T
set_option maxRecDepth 100000
set_option linter.unusedSimpArgs false
set_option linter.unusedVariables false

/-- an answer, or an error -/
inductive AnsG {α : Type} (t : Trap) (fit : Bool) (D : Int → α) (P : α → Prop) : α → Prop
  | bad (h : t.valid = false) : AnsG t fit D P (D 10)
  | arg (h : t.valid = true) (hf : fit = false) : AnsG t fit D P (D 1)
  | none (h : t.valid = true) (hf : fit = true) (hn : ¬ Solv t.C t.T t) : AnsG t fit D P (D 3)
  | ok {v : α} (h : t.valid = true) (hf : fit = true) (hs : Solv t.C t.T t) (hp : P v) : AnsG t fit D P v
theorem AnsG.uniq {α : Type} {t : Trap} {fit : Bool} {D : Int → α} {P : α → Prop} (hu : t.valid = true → fit = true → Solv t.C t.T t → ∀ a b, P a → P b → a = b) {a b : α} (A : AnsG t fit D P a) (B : AnsG t fit D P b) : a = b := by
  cases A <;> cases B <;> first | rfl | (exfalso; simp_all; done) | (apply hu <;> assumption)
theorem AnsG.map {α : Type} {t : Trap} {fit : Bool} {D : Int → α} {P Q : α → Prop} {a : α} (A : AnsG t fit D P a) (h : t.valid = true → fit = true → Solv t.C t.T t → P a → Q a) : AnsG t fit D Q a := by
  cases A with
  | bad hv => exact .bad hv
  | arg hv hf => exact .arg hv hf
  | none hv hf hn => exact .none hv hf hn
  | ok hv hf hs hp => exact .ok hv hf hs (h hv hf hs hp)

/-- whether a word holds -/
def JudP (t : Trap) (y : Wd) (k : Int) : Prop :=
  (k = 1 ∧ ∀ x, Tr t x → saysW t.C x y) ∨ (k = 2 ∧ ∀ x, Tr t x → ¬ saysW t.C x y) ∨ (k = 3 ∧ (∃ x, Tr t x ∧ saysW t.C x y) ∧ ∃ x, Tr t x ∧ ¬ saysW t.C x y)
theorem JudP.uniq {t : Trap} {y : Wd} (hs : Solv t.C t.T t) {a b : Int} (A : JudP t y a) (B : JudP t y b) : a = b := by
  obtain ⟨x0, h0⟩ := solv_tr.1 hs
  rcases A with ⟨rfl, A⟩ | ⟨rfl, A⟩ | ⟨rfl, ⟨u, A1, A2⟩, v, A3, A4⟩ <;> rcases B with ⟨rfl, B⟩ | ⟨rfl, B⟩ | ⟨rfl, ⟨u', B1, B2⟩, v', B3, B4⟩ <;> first
    | rfl
    | exact absurd (A x0 h0) (B x0 h0)
    | exact absurd (B x0 h0) (A x0 h0)
    | exact absurd (A v' B3) B4
    | exact absurd B2 (A u' B1)
    | exact absurd (B v A3) A4
    | exact absurd A2 (B u A1)
def judV (lo hi : Int) (y : Wd) : Int := if y.lo ≤ lo ∧ hi ≤ y.hi then 1 else if y.hi < lo ∨ hi < y.lo then 2 else 3

section
variable {t : Trap} {o w : AV}
theorem judV_ok (H : TrOk t o w) (V : TrB t) {y : Wd} (hf : fitB t y = true) {lo hi' : Int} (X : Xt t (fun x => gap t.C x y.time.toNat y.ch.toNat) lo hi') : JudP t y (judV lo hi' y) := by
  simp only [fitB, placeB, Bool.and_eq_true, decide_eq_true_eq] at hf
  have e1 := trC V; have e2 := trT V
  have mid := fun {n : Int} (h1 : lo ≤ n) (h2 : n ≤ hi') => midG H V (i := y.time.toNat) (c := y.ch.toNat) (by omega) (by omega) X h1 h2
  have b := fun x hx => (xt_tr X).1 x hx
  try simp only at b
  obtain ⟨x1, t1, g1⟩ := (xt_tr X).2.1
  obtain ⟨x2, t2, g2⟩ := (xt_tr X).2.2
  try simp only at g1 g2
  have bb := b x1 t1
  unfold judV JudP saysW
  by_cases h1 : y.lo ≤ lo ∧ hi' ≤ y.hi
  · rw [if_pos h1]
    exact .inl ⟨rfl, fun x hx => by have := b x hx; omega⟩
  rw [if_neg h1]
  by_cases h2 : y.hi < lo ∨ hi' < y.lo
  · rw [if_pos h2]
    exact .inr (.inl ⟨rfl, fun x hx => by have := b x hx; omega⟩)
  rw [if_neg h2]
  refine .inr (.inr ⟨rfl, ?_, ?_⟩)
  · by_cases h3 : y.lo ≤ lo
    · exact ⟨x1, t1, by omega, by omega⟩
    · obtain ⟨x, hx, e⟩ := mid (n := y.lo) (by omega) (by omega)
      exact ⟨x, hx, by omega, by omega⟩
  · by_cases h3 : y.lo ≤ lo
    · exact ⟨x2, t2, by omega⟩
    · exact ⟨x1, t1, by omega⟩

/-- what is known of a place -/
theorem fishAt {h : List AO} {k : Nat} {B : List Int} (V : TrB t) (hk : h[k]? = some (.cells (wc t.C t.T o w B) false)) (hB : Ok B) (hs : Says t.C t.T t B) {i c : Nat} (hi : i < t.T) (hc : c < t.C) :
    ∃ lo hi', (∀ J, Ro E 82 [.ptr k 0, .agg [I i, I c]] (h ++ J) = some (.agg [I lo, I hi'])) ∧ Xt t (fun x => gap t.C x i c) lo hi' := by
  have v2 := V.c1; have v4 := V.t1
  have eC := trC V; have eT := trT V
  have ia := sumN_lt (ch := t.C) (t := i) (c := c) (by omega) (by omega) (by omega)
  have ib := sumN_lt (ch := t.C) (t := i) (c := c + 1) (by omega) (by omega) (by omega)
  have kl := (List.getElem?_eq_some_iff.1 hk).1
  exact ⟨_, _, fun J => s82 (by rw [at_ap kl]; exact hk) hB (t := i) (c := c) (by omega) (by omega) (by omega), hs.xt hB ia ib⟩

theorem s80 {h : List AO} {k : Nat} {B : List Int} (H : TrOk t o w) (V : TrB t) (hk : h[k]? = some (.cells (wc t.C t.T o w B) false)) (hB : Ok B) (hs : Says t.C t.T t B) {y : Wd} (hf : fitB t y = true) :
    ∃ v, (∀ J, Ro E 80 [.ptr k 0, .agg y.e] (h ++ J) = some (I v)) ∧ JudP t y v := by
  have hf2 := hf
  simp only [fitB, placeB, Bool.and_eq_true, decide_eq_true_eq] at hf2
  have eC := trC V; have eT := trT V
  obtain ⟨lo, hi', c82, X⟩ := fishAt V hk hB hs (i := y.time.toNat) (c := y.ch.toNat) (by omega) (by omega)
  have J1 := judV_ok H V hf X
  obtain ⟨ti, e1⟩ : ∃ ti : Nat, y.time = ti := ⟨y.time.toNat, by omega⟩
  obtain ⟨ci, e2⟩ : ∃ ci : Nat, y.ch = ci := ⟨y.ch.toNat, by omega⟩
  have kl := (List.getElem?_eq_some_iff.1 hk).1
  refine ⟨_, fun J => ?_, J1⟩
  obtain ⟨g, hg⟩ : ∃ g, g = h ++ J := ⟨_, rfl⟩
  have c82' : ∀ K, Ro E 82 [.ptr k 0, .agg [I ti, I ci]] (g ++ K) = some (.agg [I lo, I hi']) := fun K => by
    have := c82 (J ++ K)
    rw [e1, e2, Int.toNat_natCast, Int.toNat_natCast, ← List.append_assoc, ← hg] at this
    exact this
  rw [← hg]
  unfold judV
  refine Ro_of (es _ _ _ _) e80 ?_
  simp only [f80, Wd.e, e1, e2]
  simp (disch := first | assumption | omega | (simp only [az]; done)) only [ru, eq_self, if_true, if_false, BEq.rfl, binI, AO.row?, splice, fillL, mmAll, loadV, storeV, zeros, Am.rowAt, Am.part, addOff, Nat.reduceAdd, Nat.reduceMul, Nat.reduceLeDiff, Nat.reduceSub, Nat.reduceLT, Int.reduceEq, Int.reduceLT, Int.reduceLE, Int.reduceGT, Int.reduceGE, Int.reduceAdd, Int.reduceSub, Int.reduceMul, Int.reduceNeg, Int.reduceToNat, reduceCtorEq, reduceIte, List.append_assoc, lenE, setT, setT0, atT, atT0, getT, getT0, Nat.add_assoc, Nat.le_refl, Nat.le_add_right, c82']
  by_cases h1 : y.lo ≤ lo
  · by_cases h2 : hi' ≤ y.hi
    · simp (disch := first | assumption | omega | (simp only [az]; done)) only [ru, eq_self, if_true, if_false, BEq.rfl, binI, AO.row?, splice, fillL, mmAll, loadV, storeV, zeros, Am.rowAt, Am.part, addOff, Nat.reduceAdd, Nat.reduceMul, Nat.reduceLeDiff, Nat.reduceSub, Nat.reduceLT, Int.reduceEq, Int.reduceLT, Int.reduceLE, Int.reduceGT, Int.reduceGE, Int.reduceAdd, Int.reduceSub, Int.reduceMul, Int.reduceNeg, Int.reduceToNat, reduceCtorEq, reduceIte, List.append_assoc, lenE, setT, setT0, atT, atT0, getT, getT0, Nat.add_assoc, h1, h2]
      rfl
    · by_cases h3 : y.hi < lo
      · simp (disch := first | assumption | omega | (simp only [az]; done)) only [ru, eq_self, if_true, if_false, BEq.rfl, binI, AO.row?, splice, fillL, mmAll, loadV, storeV, zeros, Am.rowAt, Am.part, addOff, Nat.reduceAdd, Nat.reduceMul, Nat.reduceLeDiff, Nat.reduceSub, Nat.reduceLT, Int.reduceEq, Int.reduceLT, Int.reduceLE, Int.reduceGT, Int.reduceGE, Int.reduceAdd, Int.reduceSub, Int.reduceMul, Int.reduceNeg, Int.reduceToNat, reduceCtorEq, reduceIte, List.append_assoc, lenE, setT, setT0, atT, atT0, getT, getT0, Nat.add_assoc, h1, h2, h3, and_false, true_or]
        rfl
      · by_cases h4 : hi' < y.lo
        · simp (disch := first | assumption | omega | (simp only [az]; done)) only [ru, eq_self, if_true, if_false, BEq.rfl, binI, AO.row?, splice, fillL, mmAll, loadV, storeV, zeros, Am.rowAt, Am.part, addOff, Nat.reduceAdd, Nat.reduceMul, Nat.reduceLeDiff, Nat.reduceSub, Nat.reduceLT, Int.reduceEq, Int.reduceLT, Int.reduceLE, Int.reduceGT, Int.reduceGE, Int.reduceAdd, Int.reduceSub, Int.reduceMul, Int.reduceNeg, Int.reduceToNat, reduceCtorEq, reduceIte, List.append_assoc, lenE, setT, setT0, atT, atT0, getT, getT0, Nat.add_assoc, h1, h2, h3, h4, and_false, or_true]
          rfl
        · simp (disch := first | assumption | omega | (simp only [az]; done)) only [ru, eq_self, if_true, if_false, BEq.rfl, binI, AO.row?, splice, fillL, mmAll, loadV, storeV, zeros, Am.rowAt, Am.part, addOff, Nat.reduceAdd, Nat.reduceMul, Nat.reduceLeDiff, Nat.reduceSub, Nat.reduceLT, Int.reduceEq, Int.reduceLT, Int.reduceLE, Int.reduceGT, Int.reduceGE, Int.reduceAdd, Int.reduceSub, Int.reduceMul, Int.reduceNeg, Int.reduceToNat, reduceCtorEq, reduceIte, List.append_assoc, lenE, setT, setT0, atT, atT0, getT, getT0, Nat.add_assoc, h1, h2, h3, h4, and_false, or_self]
          rfl
  · by_cases h3 : y.hi < lo
    · simp (disch := first | assumption | omega | (simp only [az]; done)) only [ru, eq_self, if_true, if_false, BEq.rfl, binI, AO.row?, splice, fillL, mmAll, loadV, storeV, zeros, Am.rowAt, Am.part, addOff, Nat.reduceAdd, Nat.reduceMul, Nat.reduceLeDiff, Nat.reduceSub, Nat.reduceLT, Int.reduceEq, Int.reduceLT, Int.reduceLE, Int.reduceGT, Int.reduceGE, Int.reduceAdd, Int.reduceSub, Int.reduceMul, Int.reduceNeg, Int.reduceToNat, reduceCtorEq, reduceIte, List.append_assoc, lenE, setT, setT0, atT, atT0, getT, getT0, Nat.add_assoc, h1, h3, false_and, true_or, gUn]
      rfl
    · by_cases h4 : hi' < y.lo
      · simp (disch := first | assumption | omega | (simp only [az]; done)) only [ru, eq_self, if_true, if_false, BEq.rfl, binI, AO.row?, splice, fillL, mmAll, loadV, storeV, zeros, Am.rowAt, Am.part, addOff, Nat.reduceAdd, Nat.reduceMul, Nat.reduceLeDiff, Nat.reduceSub, Nat.reduceLT, Int.reduceEq, Int.reduceLT, Int.reduceLE, Int.reduceGT, Int.reduceGE, Int.reduceAdd, Int.reduceSub, Int.reduceMul, Int.reduceNeg, Int.reduceToNat, reduceCtorEq, reduceIte, List.append_assoc, lenE, setT, setT0, atT, atT0, getT, getT0, Nat.add_assoc, h1, h3, h4, false_and, or_true, gUn]
        rfl
      · simp (disch := first | assumption | omega | (simp only [az]; done)) only [ru, eq_self, if_true, if_false, BEq.rfl, binI, AO.row?, splice, fillL, mmAll, loadV, storeV, zeros, Am.rowAt, Am.part, addOff, Nat.reduceAdd, Nat.reduceMul, Nat.reduceLeDiff, Nat.reduceSub, Nat.reduceLT, Int.reduceEq, Int.reduceLT, Int.reduceLE, Int.reduceGT, Int.reduceGE, Int.reduceAdd, Int.reduceSub, Int.reduceMul, Int.reduceNeg, Int.reduceToNat, reduceCtorEq, reduceIte, List.append_assoc, lenE, setT, setT0, atT, atT0, getT, getT0, Nat.add_assoc, h1, h3, h4, false_and, or_self, gUn]
        rfl

/-- Judge -/
theorem s29 (H : TrOk t o w) (y : Wd) : ∃ v e, (∀ st, Iso E 29 [trV t o w, .agg y.e] st = some (.tup [I v, I e])) ∧ AnsG t (fitB t y) (fun e => (0, e)) (fun r => JudP t y r.1 ∧ r.2 = 0) (v, e) := by
  have c1 := fun st => s79 H y st
  obtain ⟨fit, hfit⟩ : ∃ fit, fit = fitB t y := ⟨_, rfl⟩
  rw [← hfit] at c1 ⊢
  obtain ⟨p, e, K, q, hs⟩ := call73 H fit [.cells [I t.ch, I t.tm, o, w] false, .cells y.e false]
  simp only [trV, Wd.e] at q c1 ⊢
  cases hs with
  | bad hv =>
    refine ⟨0, 10, fun st => ?_, .bad hv⟩
    refine Iso_of (es _ _ _ _) e29 ?_
    simp only [f29]
    simp (disch := first | assumption | omega | (simp only [az]; done)) only [ru, eq_self, if_true, if_false, BEq.rfl, binI, AO.row?, splice, fillL, mmAll, loadV, storeV, zeros, Am.rowAt, Am.part, addOff, Nat.reduceAdd, Nat.reduceMul, Nat.reduceLeDiff, Nat.reduceSub, Nat.reduceLT, Int.reduceEq, Int.reduceLT, Int.reduceLE, Int.reduceGT, Int.reduceGE, Int.reduceAdd, Int.reduceSub, Int.reduceMul, Int.reduceNeg, Int.reduceToNat, reduceCtorEq, reduceIte, lenV_sl H.o, lenV_sl H.w, elem_sl Ls.el H.o, elem_sl Wd.el H.w, view_sl H.o, view_sl H.w, scalar_sl H.o, scalar_sl H.w, cells_sl H.o, cells_sl H.w, pure_sl H.o, pure_sl H.w, Int.toNat_natCast, c1]
    rw [q rfl rfl]
    simp (disch := first | assumption | omega | (simp only [az]; done)) only [ru, eq_self, if_true, if_false, BEq.rfl, binI, AO.row?, splice, fillL, mmAll, loadV, storeV, zeros, Am.rowAt, Am.part, addOff, Nat.reduceAdd, Nat.reduceMul, Nat.reduceLeDiff, Nat.reduceSub, Nat.reduceLT, Int.reduceEq, Int.reduceLT, Int.reduceLE, Int.reduceGT, Int.reduceGE, Int.reduceAdd, Int.reduceSub, Int.reduceMul, Int.reduceNeg, Int.reduceToNat, reduceCtorEq, reduceIte, lenV_sl H.o, lenV_sl H.w, elem_sl Ls.el H.o, elem_sl Wd.el H.w, view_sl H.o, view_sl H.w, scalar_sl H.o, scalar_sl H.w, cells_sl H.o, cells_sl H.w, pure_sl H.o, pure_sl H.w, Int.toNat_natCast, List.cons_append, List.nil_append]
  | arg hv hf =>
    refine ⟨0, 1, fun st => ?_, .arg hv hf⟩
    refine Iso_of (es _ _ _ _) e29 ?_
    simp only [f29]
    simp (disch := first | assumption | omega | (simp only [az]; done)) only [ru, eq_self, if_true, if_false, BEq.rfl, binI, AO.row?, splice, fillL, mmAll, loadV, storeV, zeros, Am.rowAt, Am.part, addOff, Nat.reduceAdd, Nat.reduceMul, Nat.reduceLeDiff, Nat.reduceSub, Nat.reduceLT, Int.reduceEq, Int.reduceLT, Int.reduceLE, Int.reduceGT, Int.reduceGE, Int.reduceAdd, Int.reduceSub, Int.reduceMul, Int.reduceNeg, Int.reduceToNat, reduceCtorEq, reduceIte, lenV_sl H.o, lenV_sl H.w, elem_sl Ls.el H.o, elem_sl Wd.el H.w, view_sl H.o, view_sl H.w, scalar_sl H.o, scalar_sl H.w, cells_sl H.o, cells_sl H.w, pure_sl H.o, pure_sl H.w, Int.toNat_natCast, c1]
    rw [q rfl rfl]
    simp (disch := first | assumption | omega | (simp only [az]; done)) only [ru, eq_self, if_true, if_false, BEq.rfl, binI, AO.row?, splice, fillL, mmAll, loadV, storeV, zeros, Am.rowAt, Am.part, addOff, Nat.reduceAdd, Nat.reduceMul, Nat.reduceLeDiff, Nat.reduceSub, Nat.reduceLT, Int.reduceEq, Int.reduceLT, Int.reduceLE, Int.reduceGT, Int.reduceGE, Int.reduceAdd, Int.reduceSub, Int.reduceMul, Int.reduceNeg, Int.reduceToNat, reduceCtorEq, reduceIte, lenV_sl H.o, lenV_sl H.w, elem_sl Ls.el H.o, elem_sl Wd.el H.w, view_sl H.o, view_sl H.w, scalar_sl H.o, scalar_sl H.w, cells_sl H.o, cells_sl H.w, pure_sl H.o, pure_sl H.w, Int.toNat_natCast, List.cons_append, List.nil_append]
  | none hv hf hn =>
    refine ⟨0, 3, fun st => ?_, .none hv hf hn⟩
    refine Iso_of (es _ _ _ _) e29 ?_
    simp only [f29]
    simp (disch := first | assumption | omega | (simp only [az]; done)) only [ru, eq_self, if_true, if_false, BEq.rfl, binI, AO.row?, splice, fillL, mmAll, loadV, storeV, zeros, Am.rowAt, Am.part, addOff, Nat.reduceAdd, Nat.reduceMul, Nat.reduceLeDiff, Nat.reduceSub, Nat.reduceLT, Int.reduceEq, Int.reduceLT, Int.reduceLE, Int.reduceGT, Int.reduceGE, Int.reduceAdd, Int.reduceSub, Int.reduceMul, Int.reduceNeg, Int.reduceToNat, reduceCtorEq, reduceIte, lenV_sl H.o, lenV_sl H.w, elem_sl Ls.el H.o, elem_sl Wd.el H.w, view_sl H.o, view_sl H.w, scalar_sl H.o, scalar_sl H.w, cells_sl H.o, cells_sl H.w, pure_sl H.o, pure_sl H.w, Int.toNat_natCast, c1]
    rw [q rfl rfl]
    simp (disch := first | assumption | omega | (simp only [az]; done)) only [ru, eq_self, if_true, if_false, BEq.rfl, binI, AO.row?, splice, fillL, mmAll, loadV, storeV, zeros, Am.rowAt, Am.part, addOff, Nat.reduceAdd, Nat.reduceMul, Nat.reduceLeDiff, Nat.reduceSub, Nat.reduceLT, Int.reduceEq, Int.reduceLT, Int.reduceLE, Int.reduceGT, Int.reduceGE, Int.reduceAdd, Int.reduceSub, Int.reduceMul, Int.reduceNeg, Int.reduceToNat, reduceCtorEq, reduceIte, lenV_sl H.o, lenV_sl H.w, elem_sl Ls.el H.o, elem_sl Wd.el H.w, view_sl H.o, view_sl H.w, scalar_sl H.o, scalar_sl H.w, cells_sl H.o, cells_sl H.w, pure_sl H.o, pure_sl H.w, Int.toNat_natCast, List.cons_append, List.nil_append]
  | @ok B hv hf hk hB hs =>
    obtain ⟨v, c80, J⟩ := s80 H (valid_trb hv) hk hB hs (y := y) (by rw [← hfit]; exact hf)
    have c80' := c80 []
    simp only [Wd.e, List.append_nil, List.cons_append, List.nil_append, List.length_cons, List.length_nil, Nat.zero_add, Nat.reduceAdd] at c80'
    refine ⟨v, 0, fun st => ?_, .ok hv hf (hs.solv hB) ⟨J, rfl⟩⟩
    refine Iso_of (es _ _ _ _) e29 ?_
    simp only [f29]
    simp (disch := first | assumption | omega | (simp only [az]; done)) only [ru, eq_self, if_true, if_false, BEq.rfl, binI, AO.row?, splice, fillL, mmAll, loadV, storeV, zeros, Am.rowAt, Am.part, addOff, Nat.reduceAdd, Nat.reduceMul, Nat.reduceLeDiff, Nat.reduceSub, Nat.reduceLT, Int.reduceEq, Int.reduceLT, Int.reduceLE, Int.reduceGT, Int.reduceGE, Int.reduceAdd, Int.reduceSub, Int.reduceMul, Int.reduceNeg, Int.reduceToNat, reduceCtorEq, reduceIte, lenV_sl H.o, lenV_sl H.w, elem_sl Ls.el H.o, elem_sl Wd.el H.w, view_sl H.o, view_sl H.w, scalar_sl H.o, scalar_sl H.w, cells_sl H.o, cells_sl H.w, pure_sl H.o, pure_sl H.w, Int.toNat_natCast, c1]
    rw [q rfl rfl]
    simp (disch := first | assumption | omega | (simp only [az]; done)) only [ru, eq_self, if_true, if_false, BEq.rfl, binI, AO.row?, splice, fillL, mmAll, loadV, storeV, zeros, Am.rowAt, Am.part, addOff, Nat.reduceAdd, Nat.reduceMul, Nat.reduceLeDiff, Nat.reduceSub, Nat.reduceLT, Int.reduceEq, Int.reduceLT, Int.reduceLE, Int.reduceGT, Int.reduceGE, Int.reduceAdd, Int.reduceSub, Int.reduceMul, Int.reduceNeg, Int.reduceToNat, reduceCtorEq, reduceIte, lenV_sl H.o, lenV_sl H.w, elem_sl Ls.el H.o, elem_sl Wd.el H.w, view_sl H.o, view_sl H.w, scalar_sl H.o, scalar_sl H.w, cells_sl H.o, cells_sl H.w, pure_sl H.o, pure_sl H.w, Int.toNat_natCast, List.cons_append, List.nil_append, c80']
end
end Go.Proofs.Ytjaaefdhdggnkaa.S

/-
A trap in new memory: Copy runs.
-/
namespace Go.Proofs.Ytjaaefdhdggnkaa.S
open Go Go.Am Go.Proofs.Ytjaaefdhdggnkaa.T
set_option maxRecDepth 100000
set_option linter.unusedSimpArgs false
set_option linter.unusedVariables false

/-- a trap of any size that an input can have -/
structure TrUp (t : Trap) (o w : AV) : Prop where
  o : IsSl 1 Ls.e t.op o
  w : IsSl 4 Wd.e t.ws w
  so : t.op.length * 24 ≤ 140737488351232
  sw : t.ws.length * 32 ≤ 140737488351232
  sl : ∀ x ∈ t.op, x.list.length * 8 ≤ 140737488351232
theorem TrOk.up {t : Trap} {o w : AV} (H : TrOk t o w) : TrUp t o w := by
  have so := H.so; have sw := H.sw
  exact ⟨H.o, H.w, by omega, by omega, fun x hx => by have := H.sl x hx; omega⟩

set_option maxHeartbeats 400000 in
theorem r41u {t : Trap} {o w : AV} (H : TrUp t o w) : ∃ ow ov wv K, R E (.fn 41) [trV t o w] [] 0 = some (trV t ov wv, K) ∧ CpH t K ow ov wv := by
  have so := H.so; have sw := H.sw
  suffices hh : ∃ r K, R E (.fn 41) [trV t o w] [] 0 = some (r, K) ∧ ∃ ow ov wv, r = trV t ov wv ∧ CpH t K ow ov wv by
    obtain ⟨r, K, hr, ow, ov, wv, rfl, hh⟩ := hh
    exact ⟨ow, ov, wv, K, hr, hh⟩
  obtain ⟨q, x0, x1, hq, hA, hx⟩ := app_one (lim := 0) (eb := 32) (h := [.cells [I t.ch, I t.tm, o, w] false, .cells [I 0, I 0, .nils, .nils] false]) (J := [.tomb]) H.w Wd.el Wd.sc (by omega) (by omega) (by omega)
  simp only [List.cons_append, List.nil_append, List.length_cons, List.length_nil, Nat.zero_add, Nat.reduceAdd] at hA
  obtain ⟨wv, hwv⟩ : ∃ wv, wv = AV.ms 4 (2 + q) 0 t.ws.length := ⟨_, rfl⟩
  rw [← hwv] at hA
  have wc1 : wv.cells = [wv] := by rw [hwv]; rfl
  have ws1 : wv.scalar = true := by rw [hwv]; rfl
  refine R_of (f := 41) (vs := [trV t o w]) (h := []) (lim := 0) (fun r K => ∃ ow ov wv, r = trV t ov wv ∧ CpH t K ow ov wv) (es _ _ _ _) e41 ?_
  simp only [f41, trV]
  simp (disch := first | assumption | omega | (simp only [az]; done)) only [ru, eq_self, if_true, if_false, BEq.rfl, binI, AO.row?, splice, fillL, mmAll, loadV, storeV, zeros, Am.rowAt, Am.part, addOff, Nat.reduceAdd, Nat.reduceMul, Nat.reduceLeDiff, Nat.reduceSub, Nat.reduceLT, Int.reduceEq, Int.reduceLT, Int.reduceLE, Int.reduceGT, Int.reduceGE, Int.reduceAdd, Int.reduceSub, Int.reduceMul, Int.reduceNeg, Int.reduceToNat, reduceCtorEq, reduceIte, lenV_sl H.o, lenV_sl H.w, elem_sl Ls.el H.o, elem_sl Wd.el H.w, view_sl H.o, view_sl H.w, scalar_sl H.o, scalar_sl H.w, cells_sl H.o, cells_sl H.w, pure_sl H.o, pure_sl H.w, Int.toNat_natCast, GO_mapp, hA, unhN, unhC, wc1, ws1]
  refine G_loop_ind (fun m ts hk mk => ∃ (i : Nat) (ov : AV), i ≤ t.op.length ∧ m = t.op.length - i ∧ ts.length = 34 ∧ ts.getD 1 .undef = .ptr 0 0 ∧ ts.getD 2 .undef = .ptr 1 0 ∧ ts.getD 3 .undef = .ptr 4 0 ∧ ts.getD 4 .undef = I i ∧
    hk.length = 5 + 4 * i ∧ hk[0]? = some (.cells [I t.ch, I t.tm, o, w] false) ∧ hk[1]? = some (.cells [I 0, I 0, .nils, .nils] false) ∧ hk[2 + q]? = some (.cells (t.ws.flatMap Wd.e) false) ∧ hk[4]? = some (.cells [I t.ch, I t.tm, ov, wv] false) ∧
    (i = 0 ∧ ov = .nils ∨ 0 < i ∧ ∃ o vs, 5 ≤ o ∧ o < 5 + 4 * i ∧ ov = .ms 1 o 0 i ∧ hk[o]? = some (.cells vs false) ∧ vs.length = i ∧ ∀ j, j < i → ∃ p, 5 ≤ p ∧ p < 5 + 4 * i ∧ p ≠ o ∧ vs.getD j .undef = .ms 1 p 0 (t.op.getD j default).list.length ∧ hk[p]? = some (.cells ((t.op.getD j default).list.flatMap intL) false)) ∧ mk = []) ?_ _ _ _ _
    ⟨0, .nils, Nat.zero_le _, rfl, rfl, rfl, rfl, rfl, rfl, rfl, rfl, rfl, ?_, rfl, .inl ⟨rfl, rfl⟩, rfl⟩
  case refine_2 =>
    match q, hq with
    | 0, _ => exact hx
    | 1, _ => exact hx
  rintro m ts hk mk ih ⟨i, ov, hi, rfl, hl, q1, q2, q3, q4, lk, k0, k1, kw, k4, hov, rfl⟩
  rw [lit_all hl]
  simp only [lit0, litS, Nat.reduceAdd, q1, q2, q3, q4]
  simp (disch := first | assumption | omega | (simp only [az]; done)) only [ru, eq_self, if_true, if_false, BEq.rfl, binI, AO.row?, splice, fillL, mmAll, loadV, storeV, zeros, Am.rowAt, Am.part, addOff, Nat.reduceAdd, Nat.reduceMul, Nat.reduceLeDiff, Nat.reduceSub, Nat.reduceLT, Int.reduceEq, Int.reduceLT, Int.reduceLE, Int.reduceGT, Int.reduceGE, Int.reduceAdd, Int.reduceSub, Int.reduceMul, Int.reduceNeg, Int.reduceToNat, reduceCtorEq, reduceIte, lenV_sl H.o, lenV_sl H.w, elem_sl Ls.el H.o, elem_sl Wd.el H.w, view_sl H.o, view_sl H.w, scalar_sl H.o, scalar_sl H.w, cells_sl H.o, cells_sl H.w, pure_sl H.o, pure_sl H.w, Int.toNat_natCast, k0]
  have osc : ov.scalar = true ∧ ov.cells = [ov] := by
    rcases hov with ⟨_, rfl⟩ | ⟨_, o', vs, _, _, rfl, _⟩ <;> exact ⟨rfl, rfl⟩
  by_cases hlt : (i : Int) < t.op.length
  case neg =>
    have hi3 : i = t.op.length := by omega
    subst hi3
    simp (disch := first | assumption | omega | (simp only [az]; done)) only [ru, eq_self, if_true, if_false, BEq.rfl, binI, AO.row?, splice, fillL, mmAll, loadV, storeV, zeros, Am.rowAt, Am.part, addOff, Nat.reduceAdd, Nat.reduceMul, Nat.reduceLeDiff, Nat.reduceSub, Nat.reduceLT, Int.reduceEq, Int.reduceLT, Int.reduceLE, Int.reduceGT, Int.reduceGE, Int.reduceAdd, Int.reduceSub, Int.reduceMul, Int.reduceNeg, Int.reduceToNat, reduceCtorEq, reduceIte, hlt, k4, k1, osc.1, osc.2, wc1, ws1, Bool.and_self]
    rw [finC]
    have l5 : 1 < hk.length := by omega
    have e1 : (hk.set 1 (.cells [I t.ch, I t.tm, ov, wv] false))[1]? = some (.cells [I t.ch, I t.tm, ov, wv] false) := by rw [List.getElem?_set_self l5]
    have en : ∀ k, k ≠ 1 → (hk.set 1 (.cells [I t.ch, I t.tm, ov, wv] false))[k]? = hk[k]? := fun k hk' => by rw [List.getElem?_set_ne (fun e => hk' e.symm)]
    refine ⟨.agg [I t.ch, I t.tm, ov, wv], ?_, 2 + q, ov, wv, rfl, ⟨?_, hwv, ?_⟩⟩
    · simp only [getRes, List.getD_cons_zero, List.getD_cons_succ, Am.rowAt, e1]; rfl
    · rcases hov with ⟨h0, rfl⟩ | ⟨h0, o', vs, a1, a2, rfl, a4, a5, a6⟩
      · exact .inl ⟨List.eq_nil_of_length_eq_zero h0, rfl⟩
      · refine .inr ⟨fun e => by rw [e] at h0; simp at h0, o', vs, by omega, rfl, by rw [en _ (by omega)]; exact a4, a5, fun j hj => ?_⟩
        obtain ⟨p, b1, b2, b3, b4, b5⟩ := a6 j hj
        exact ⟨p, b3, by omega, b4, by rw [en _ (by omega)]; exact b5⟩
    · rw [en _ (by omega)]; exact kw
  have hi2 : i < t.op.length := by omega
  have un : (t.op.getD i default).list.length * 8 ≤ 140737488351232 := H.sl _ (mem_getD hi2)
  have kJ0 : ∀ J, (hk ++ J)[0]? = some (.cells [I t.ch, I t.tm, o, w] false) := fun J => by rw [at_ap (by omega)]; exact k0
  have kJ4 : ∀ J, (hk ++ J)[4]? = some (.cells [I t.ch, I t.tm, ov, wv] false) := fun J => by rw [at_ap (by omega)]; exact k4
  refine (app_one (lim := 0) (eb := 8) (h := hk) (J := [.tomb, .tomb]) (t.op.getD i default).is intE intSc (by omega) (by omega) (by omega)).elim fun q' hh => hh.elim fun y0 hh => hh.elim fun y1 hh => ?_
  have xis := (t.op.getD i default).is
  have hq' := hh.1
  have hB := hh.2.1
  have hy := hh.2.2
  clear hh
  have key : ∃ ov' h', appG false 0 (hk.length + 3) 1 24 (hk ++ [y0, y1, .cells [.ms 1 (hk.length + q') 0 (t.op.getD i default).list.length] false, .tomb]) ov (.ms 1 (hk.length + 2) 0 1) = some (ov', h') ∧
      ov'.scalar = true ∧ ov'.cells = [ov'] ∧ h'.length = hk.length + 4 ∧ (∀ k, k < 5 → h'[k]? = hk[k]?) ∧
      ∃ o vs, 5 ≤ o ∧ o < hk.length + 4 ∧ ov' = .ms 1 o 0 (i + 1) ∧ h'[o]? = some (.cells vs false) ∧ vs.length = i + 1 ∧
        ∀ j, j < i + 1 → ∃ p, 5 ≤ p ∧ p < hk.length + 4 ∧ p ≠ o ∧ vs.getD j .undef = .ms 1 p 0 (t.op.getD j default).list.length ∧ h'[p]? = some (.cells ((t.op.getD j default).list.flatMap intL) false) := by
    obtain ⟨z, hz⟩ : ∃ z, z = AV.ms 1 (hk.length + q') 0 (t.op.getD i default).list.length := ⟨_, rfl⟩
    rw [← hz]
    obtain ⟨G0, hG0⟩ : ∃ G0 : List AO, G0 = hk ++ [y0, y1, .cells [z] false, .tomb] := ⟨_, rfl⟩
    rw [← hG0]
    have gl : G0.length = hk.length + 4 := by rw [hG0]; simp
    have gk : ∀ k, k < hk.length → G0[k]? = hk[k]? := fun k hk' => by rw [hG0, at_ap hk']
    have g2 : G0[hk.length + 2]? = some (.cells [z] false) := by rw [hG0, atT]; rfl
    have gq : G0[hk.length + q']? = some (.cells ((t.op.getD i default).list.flatMap intL) false) := by
      rw [hG0, atT]
      match q', hq' with
      | 0, _ => exact hy
      | 1, _ => exact hy
    have hr : Am.rowOf G0 (.ms 1 (hk.length + 2) 0 1) = some [z] := by rw [rowOf_ms]; simp only [Am.rowAt, g2]; rfl
    have zs : [z].all AV.scalar = true := by rw [hz]; rfl
    rcases hov with ⟨h0, rfl⟩ | ⟨h0, o', vs, a1, a2, rfl, a4, a5, a6⟩
    · subst h0
      refine ⟨_, _, appG_nil (n := 1) (by omega) rfl hr rfl zs (by omega) (by omega), rfl, rfl, by simp [gl], fun k hk' => ?_, hk.length + 3, [z], by omega, by omega, rfl, ?_, rfl, fun j hj => ?_⟩
      · rw [List.getElem?_set_ne (by omega)]; exact gk k (by omega)
      · rw [List.getElem?_set_self (by omega)]
      · obtain rfl : j = 0 := by omega
        exact ⟨hk.length + q', by omega, by omega, by omega, hz, by rw [List.getElem?_set_ne (by omega)]; exact gq⟩
    · have go : G0[o']? = some (.cells vs false) := by rw [gk _ (by omega)]; exact a4
      refine ⟨_, _, appG_ms (n := 1) (by omega) go (by omega) rfl hr rfl zs (by omega) (by omega) (by omega), rfl, rfl, by simp [gl], fun k hk' => ?_, hk.length + 3, vs ++ [z], by omega, by omega, rfl, ?_, by simp [a5], fun j hj => ?_⟩
      · rw [List.getElem?_set_ne (by omega), List.getElem?_set_ne (by omega)]; exact gk k (by omega)
      · rw [List.getElem?_set_self (by simp [gl])]; rfl
      · by_cases e : j = i
        · subst e
          refine ⟨hk.length + q', by omega, by omega, by omega, ?_, ?_⟩
          · rw [← hz, ← a5, getT0]; rfl
          · rw [List.getElem?_set_ne (by omega), List.getElem?_set_ne (by omega)]; exact gq
        · obtain ⟨p, b1, b2, b3, b4, b5⟩ := a6 j (by omega)
          refine ⟨p, b1, by omega, by omega, ?_, ?_⟩
          · rw [← b4, List.getD_eq_getElem?_getD, List.getElem?_append_left (by omega), ← List.getD_eq_getElem?_getD]
          · rw [List.getElem?_set_ne (by omega), List.getElem?_set_ne (by omega), gk _ (by omega)]; exact b5
  refine key.elim fun ov' hh => hh.elim fun h' hh => ?_
  have c1 := hh.1
  have c2 := hh.2.1
  have c3 := hh.2.2.1
  have c4 := hh.2.2.2.1
  have c5 := hh.2.2.2.2.1
  have c6 := hh.2.2.2.2.2
  clear hh key
  have d4 : h'[4]? = some (.cells [I t.ch, I t.tm, ov, wv] false) := by rw [c5 4 (by omega)]; exact k4
  simp (disch := first | assumption | omega | (simp only [az]; done)) only [ru, eq_self, if_true, if_false, BEq.rfl, binI, AO.row?, splice, fillL, mmAll, loadV, storeV, zeros, Am.rowAt, Am.part, addOff, Nat.reduceAdd, Nat.reduceMul, Nat.reduceLeDiff, Nat.reduceSub, Nat.reduceLT, Int.reduceEq, Int.reduceLT, Int.reduceLE, Int.reduceGT, Int.reduceGE, Int.reduceAdd, Int.reduceSub, Int.reduceMul, Int.reduceNeg, Int.reduceToNat, reduceCtorEq, reduceIte, lenV_sl H.o, lenV_sl H.w, elem_sl Ls.el H.o, elem_sl Wd.el H.w, view_sl H.o, view_sl H.w, scalar_sl H.o, scalar_sl H.w, cells_sl H.o, cells_sl H.w, pure_sl H.o, pure_sl H.w, Int.toNat_natCast, hlt, kJ0, kJ4, Ls.e, lenV_sl xis, elem_sl intE xis, view_sl xis, scalar_sl xis, cells_sl xis, pure_sl xis, List.append_assoc, lenE, setT, setT0, atT, atT0, getT, getT0, Nat.add_assoc, GO_mapp, hB, unhN, unhC, c1, c2, c3, d4, ws1, wc1, Bool.and_self]
  have en : ∀ k, k ≠ 4 → (h'.set 4 (.cells [I t.ch, I t.tm, ov', wv] false))[k]? = h'[k]? := fun k hk' => by rw [List.getElem?_set_ne (fun e => hk' e.symm)]
  refine ih (t.op.length - (i + 1)) _ _ _ (by omega) ⟨i + 1, ov', by omega, rfl, rfl, rfl, rfl, rfl, rfl, ?_, ?_, ?_, ?_, ?_, .inr ⟨by omega, ?_⟩, rfl⟩
  · rw [List.length_set, c4, lk]; omega
  · rw [en _ (by omega), c5 _ (by omega)]; exact k0
  · rw [en _ (by omega), c5 _ (by omega)]; exact k1
  · rw [en _ (by omega), c5 _ (by omega)]; exact kw
  · rw [List.getElem?_set_self (by omega)]
  · obtain ⟨o', vs, f1, f2, f3, f4, f5, f6⟩ := c6
    refine ⟨o', vs, f1, by omega, f3, by rw [en _ (by omega)]; exact f4, f5, fun j hj => ?_⟩
    obtain ⟨p, g1, g2, g3, g4, g5⟩ := f6 j hj
    exact ⟨p, g1, by omega, g3, g4, by rw [en _ (by omega)]; exact g5⟩

end Go.Proofs.Ytjaaefdhdggnkaa.S

/-
What the program answers: last, doubt, enough and Enough.
-/
namespace Go.Proofs.Ytjaaefdhdggnkaa.S
open Go Go.Am Go.Proofs.Ytjaaefdhdggnkaa.T
set_option maxRecDepth 100000
set_option linter.unusedSimpArgs false
set_option linter.unusedVariables false

theorem finCT {lim i s j : Nat} {a : Bool} {P : AV → List AO → Prop} {ts : List AV} {h : List AO} : Done lim [.cell a s i, .tmp j] P .ret ⟨ts, h, []⟩ = ∃ v, getRes ts h (.cell a s i) = some v ∧ P (.tup [v, ts.getD j .undef]) h := by
  have e : getRes ts h (.tmp j) = some (ts.getD j .undef) := rfl
  simp only [Done, finish, takeMarks, List.all_nil, if_true, List.mapM_cons, List.mapM_nil, Option.bind_eq_bind, Option.pure_def, e]
  cases getRes ts h (.cell a s i) <;> simp
theorem s103 {h : List AO} {k : Nat} {B : List Int} {C T : Nat} {o w : AV} (hk : h[k]? = some (.cells (wc C T o w B) false)) (hC : 1 ≤ C ∧ C ≤ 4) (hT : 1 ≤ T ∧ T ≤ 5) : ∀ J, Ro E 103 [.ptr k 0] (h ++ J) = some (.agg [I (T - 1 : Nat), I (C - 1 : Nat)]) := by
  intro J
  have kl := (List.getElem?_eq_some_iff.1 hk).1
  have hkJ : (h ++ J)[k]? = some (.cells (wc C T o w B) false) := by rw [at_ap kl]; exact hk
  obtain ⟨g, hg⟩ : ∃ g, g = h ++ J := ⟨_, rfl⟩
  rw [← hg] at hkJ ⊢
  have gl := (List.getElem?_eq_some_iff.1 hkJ).1
  have hkK : ∀ K, (g ++ K)[k]? = some (.cells (wc C T o w B) false) := fun K => by rw [at_ap gl]; exact hkJ
  have e1 : ((T - 1 : Nat) : Int) = (T : Int) - 1 := by omega
  have e2 : ((C - 1 : Nat) : Int) = (C : Int) - 1 := by omega
  rw [e1, e2]
  have w1 : wr .i64 ((T : Int) - 1) = (T : Int) - 1 := wr64 (by omega) (by omega)
  have w2 : wr .i64 ((C : Int) - 1) = (C : Int) - 1 := wr64 (by omega) (by omega)
  refine Ro_of (es _ _ _ _) e103 ?_
  simp only [f103]
  simp (disch := first | assumption | omega | (simp only [az]; done)) only [ru, eq_self, if_true, if_false, BEq.rfl, binI, AO.row?, splice, fillL, mmAll, loadV, storeV, zeros, Am.rowAt, Am.part, addOff, Nat.reduceAdd, Nat.reduceMul, Nat.reduceLeDiff, Nat.reduceSub, Nat.reduceLT, Int.reduceEq, Int.reduceLT, Int.reduceLE, Int.reduceGT, Int.reduceGE, Int.reduceAdd, Int.reduceSub, Int.reduceMul, Int.reduceNeg, Int.reduceToNat, reduceCtorEq, reduceIte, pex_nilC, nilC_ptr, hkK, wc_0, wc_1, w1, w2, List.append_assoc, lenE, setT, setT0, atT, atT0, getT, getT0, Nat.add_assoc, Nat.le_refl, Nat.le_add_right, finC, getRes, Option.some.injEq, exists_eq_left']
  rfl

section
variable {t : Trap} {o w : AV}
/-- the doubt of a trap -/
def DbtP (t : Trap) (d : Int) : Prop := ∃ lo hi, Xt t (fun x => gap t.C x (t.T - 1) (t.C - 1)) lo hi ∧ d = hi - lo
theorem DbtP.uniq {a b : Int} (A : DbtP t a) (B : DbtP t b) : a = b := by
  obtain ⟨l, h, X, rfl⟩ := A
  obtain ⟨l', h', Y, rfl⟩ := B
  have := X.uniq Y
  omega
theorem s102 {h : List AO} {k : Nat} {B : List Int} (V : TrB t) (hk : h[k]? = some (.cells (wc t.C t.T o w B) false)) (hB : Ok B) (hs : Says t.C t.T t B) :
    ∃ d, (∀ J, Ro E 102 [.ptr k 0] (h ++ J) = some (I d)) ∧ DbtP t d := by
  have v1 := V.c0; have v2 := V.c1; have v3 := V.t0; have v4 := V.t1
  have eC := trC V; have eT := trT V
  have c103 := s103 hk (by omega) (by omega)
  obtain ⟨lo, hi', c82, X⟩ := fishAt V hk hB hs (i := t.T - 1) (c := t.C - 1) (by omega) (by omega)
  have bd := xt_bd (t := t) (i := t.T - 1) (c := t.C - 1) (by omega) (by omega) X
  refine ⟨hi' - lo, fun J => ?_, lo, hi', X, rfl⟩
  obtain ⟨g, hg⟩ : ∃ g, g = h ++ J := ⟨_, rfl⟩
  have c82' : Ro E 82 [.ptr k 0, .agg [I (t.T - 1 : Nat), I (t.C - 1 : Nat)]] g = some (.agg [I lo, I hi']) := by rw [hg]; exact c82 J
  have c103' : Ro E 103 [.ptr k 0] g = some (.agg [I (t.T - 1 : Nat), I (t.C - 1 : Nat)]) := by rw [hg]; exact c103 J
  have w1 : wr .i64 (hi' - lo) = hi' - lo := wr64 (by omega) (by omega)
  rw [← hg]
  refine Ro_of (es _ _ _ _) e102 ?_
  simp only [f102]
  simp (disch := first | assumption | omega | (simp only [az]; done)) only [ru, eq_self, if_true, if_false, BEq.rfl, binI, AO.row?, splice, fillL, mmAll, loadV, storeV, zeros, Am.rowAt, Am.part, addOff, Nat.reduceAdd, Nat.reduceMul, Nat.reduceLeDiff, Nat.reduceSub, Nat.reduceLT, Int.reduceEq, Int.reduceLT, Int.reduceLE, Int.reduceGT, Int.reduceGE, Int.reduceAdd, Int.reduceSub, Int.reduceMul, Int.reduceNeg, Int.reduceToNat, reduceCtorEq, reduceIte, List.append_assoc, lenE, setT, setT0, atT, atT0, getT, getT0, Nat.add_assoc, Nat.le_refl, Nat.le_add_right, c82', c103', w1]
  rfl

/-- when there are so many fish in the last chamber -/
def EnP (t : Trap) (fish : Int) (r : Int × Int × Int) : Prop :=
  (r.2.2 = 0 ∧ ∃ a b : Nat, r.1 = a ∧ r.2.1 = b ∧ a ≤ b ∧ b < t.T ∧ (∃ x, Tr t x ∧ fish ≤ gap t.C x a (t.C - 1)) ∧ (∀ i, i < a → ∀ x, Tr t x → gap t.C x i (t.C - 1) < fish) ∧
    (∀ x, Tr t x → fish ≤ gap t.C x b (t.C - 1)) ∧ ∀ i, i < b → ∃ x, Tr t x ∧ gap t.C x i (t.C - 1) < fish) ∨
  (r = (0, 0, 3) ∧ ∀ i, i < t.T → ∃ x, Tr t x ∧ gap t.C x i (t.C - 1) < fish)
theorem EnP.uniq {fish : Int} {r s : Int × Int × Int} (A : EnP t fish r) (B : EnP t fish s) : r = s := by
  obtain ⟨r1, r2, r3⟩ := r
  obtain ⟨s1, s2, s3⟩ := s
  have lt : ∀ {p q : Nat}, (∀ i, i < p → ∀ x, Tr t x → gap t.C x i (t.C - 1) < fish) → (∃ x, Tr t x ∧ fish ≤ gap t.C x q (t.C - 1)) → p ≤ q := by
    rintro p q h ⟨x, hx, hq⟩
    refine Nat.le_of_not_lt fun hl => ?_
    have := h q hl x hx
    omega
  have lt2 : ∀ {p q : Nat}, (∀ i, i < p → ∃ x, Tr t x ∧ gap t.C x i (t.C - 1) < fish) → (∀ x, Tr t x → fish ≤ gap t.C x q (t.C - 1)) → p ≤ q := by
    rintro p q h hq
    refine Nat.le_of_not_lt fun hl => ?_
    obtain ⟨x, hx, h1⟩ := h q hl
    have := hq x hx
    omega
  rcases A with ⟨A0, a, b, A1, A2, A3, A4, A5, A6, A7, A8⟩ | ⟨A0, A1⟩ <;> rcases B with ⟨B0, c, d, B1, B2, B3, B4, B5, B6, B7, B8⟩ | ⟨B0, B1⟩
  · have := lt A6 B5
    have := lt B6 A5
    have := lt2 A8 B7
    have := lt2 B8 A7
    simp only at A0 A1 A2 B0 B1 B2
    simp only [Prod.mk.injEq]; omega
  · obtain ⟨x, hx, h1⟩ := B1 b A4
    have := A7 x hx
    omega
  · obtain ⟨x, hx, h1⟩ := A1 d B4
    have := B7 x hx
    omega
  · rw [A0, B0]

set_option maxHeartbeats 4000000 in
theorem s86 {h : List AO} {k : Nat} {B : List Int} (H : TrOk t o w) (V : TrB t) (hk : h[k]? = some (.cells (wc t.C t.T o w B) false)) (hB : Ok B) (hs : Says t.C t.T t B) (fish : Int) :
    ∃ a b e, Ro E 86 [.ptr k 0, I fish] h = some (.tup [.agg [I a, I b], I e]) ∧ EnP t fish (a, b, e) := by
  have v1 := V.c0; have v2 := V.c1; have v3 := V.t0; have v4 := V.t1
  have eC := trC V; have eT := trT V
  suffices hh : ∃ v, Ro E 86 [.ptr k 0, I fish] h = some v ∧ ∃ a b e, v = .tup [.agg [I a, I b], I e] ∧ EnP t fish (a, b, e) by
    obtain ⟨v, hv, a, b, e, rfl, hh⟩ := hh
    exact ⟨a, b, e, hv, hh⟩
  have hR : ∃ r h', R E (.fn 86) [.ptr k 0, I fish] h h.length = some (r, h') ∧ ∃ a b e, r = .tup [.agg [I a, I b], I e] ∧ EnP t fish (a, b, e) := by
    have kl := (List.getElem?_eq_some_iff.1 hk).1
    have hkJ : ∀ J, (h ++ J)[k]? = some (.cells (wc t.C t.T o w B) false) := fun J => by rw [at_ap kl]; exact hk
    have wC : wr .i64 ((t.C : Int) - 1) = ((t.C - 1 : Nat) : Int) := by rw [wr64 (by omega) (by omega)]; omega
    refine R_of _ (es _ _ _ _) e86 ?_
    simp only [f86]
    simp (disch := first | assumption | omega | (simp only [az]; done)) only [ru, eq_self, if_true, if_false, BEq.rfl, binI, AO.row?, splice, fillL, mmAll, loadV, storeV, zeros, Am.rowAt, Am.part, addOff, Nat.reduceAdd, Nat.reduceMul, Nat.reduceLeDiff, Nat.reduceSub, Nat.reduceLT, Int.reduceEq, Int.reduceLT, Int.reduceLE, Int.reduceGT, Int.reduceGE, Int.reduceAdd, Int.reduceSub, Int.reduceMul, Int.reduceNeg, Int.reduceToNat, reduceCtorEq, reduceIte, pex_nilC, nilC_ptr, hkJ, wc_1, List.append_assoc, lenE, setT, setT0, atT, atT0, getT, getT0, Nat.add_assoc]
    refine G_loop_ind (fun m ts hh mk => ∃ (i : Nat) (ea : Int) (J : List AO), i ≤ t.T ∧ m = t.T - i ∧ ts.length = 45 ∧ ts.getD 0 .undef = .ptr k 0 ∧ ts.getD 1 .undef = I fish ∧ ts.getD 4 .undef = .ptr h.length 0 ∧ ts.getD 6 .undef = I ea ∧ ts.getD 13 .undef = I t.T ∧ ts.getD 14 .undef = I i ∧
      hh = h ++ .cells [I 0, I 0] false :: J ∧ mk = [] ∧ (∀ j, j < i → ∃ x, Tr t x ∧ gap t.C x j (t.C - 1) < fish) ∧
      ((ea = -1 ∧ ∀ j, j < i → ∀ x, Tr t x → gap t.C x j (t.C - 1) < fish) ∨ ∃ a : Nat, ea = a ∧ a < i ∧ (∃ x, Tr t x ∧ fish ≤ gap t.C x a (t.C - 1)) ∧ ∀ j, j < a → ∀ x, Tr t x → gap t.C x j (t.C - 1) < fish)) ?_ _ _ _ _
      ⟨0, -1, [], Nat.zero_le _, rfl, rfl, rfl, rfl, rfl, rfl, rfl, rfl, rfl, rfl, fun j hj => absurd hj (by omega), .inl ⟨rfl, fun j hj => absurd hj (by omega)⟩⟩
    rintro m ts hh mk ih ⟨i, ea, J, hi, rfl, hl, q0, q1, q4, q6, q13, q14, rfl, rfl, none, early⟩
    rw [lit_all hl]
    simp only [lit0, litS, Nat.reduceAdd, q0, q1, q4, q6, q13, q14]
    simp (disch := first | assumption | omega | (simp only [az]; done)) only [ru, eq_self, if_true, if_false, BEq.rfl, binI, AO.row?, splice, fillL, mmAll, loadV, storeV, zeros, Am.rowAt, Am.part, addOff, Nat.reduceAdd, Nat.reduceMul, Nat.reduceLeDiff, Nat.reduceSub, Nat.reduceLT, Int.reduceEq, Int.reduceLT, Int.reduceLE, Int.reduceGT, Int.reduceGE, Int.reduceAdd, Int.reduceSub, Int.reduceMul, Int.reduceNeg, Int.reduceToNat, reduceCtorEq, reduceIte]
    by_cases hlt : (i : Int) < t.T
    case neg =>
      obtain rfl : i = t.T := by omega
      simp (disch := first | assumption | omega | (simp only [az]; done)) only [ru, eq_self, if_true, if_false, BEq.rfl, binI, AO.row?, splice, fillL, mmAll, loadV, storeV, zeros, Am.rowAt, Am.part, addOff, Nat.reduceAdd, Nat.reduceMul, Nat.reduceLeDiff, Nat.reduceSub, Nat.reduceLT, Int.reduceEq, Int.reduceLT, Int.reduceLE, Int.reduceGT, Int.reduceGE, Int.reduceAdd, Int.reduceSub, Int.reduceMul, Int.reduceNeg, Int.reduceToNat, reduceCtorEq, reduceIte, hlt, List.append_assoc, lenE, setT, setT0, atT, atT0, getT, getT0, Nat.add_assoc, Nat.le_refl]
      rw [finCT]
      exact ⟨_, by simp only [getRes, List.getD_cons_zero, List.getD_cons_succ, Am.rowAt, atT0]; rfl, _, _, _, rfl, .inr ⟨rfl, none⟩⟩
    have hi2 : i < t.T := by omega
    obtain ⟨lo, hi', c82, X⟩ := fishAt V hk hB hs (i := i) (c := t.C - 1) hi2 (by omega)
    obtain ⟨b0, ⟨x1, b1, b2⟩, x2, b3, b4⟩ := xt_tr X
    try simp only at b0 b2 b4
    simp (disch := first | assumption | omega | (simp only [az]; done)) only [ru, eq_self, if_true, if_false, BEq.rfl, binI, AO.row?, splice, fillL, mmAll, loadV, storeV, zeros, Am.rowAt, Am.part, addOff, Nat.reduceAdd, Nat.reduceMul, Nat.reduceLeDiff, Nat.reduceSub, Nat.reduceLT, Int.reduceEq, Int.reduceLT, Int.reduceLE, Int.reduceGT, Int.reduceGE, Int.reduceAdd, Int.reduceSub, Int.reduceMul, Int.reduceNeg, Int.reduceToNat, reduceCtorEq, reduceIte, pex_nilC, nilC_ptr, hlt, hkJ, wc_0, wC, c82, List.append_assoc, List.cons_append, lenE, setT, setT0, atT, atT0, getT, getT0, Nat.add_assoc, Nat.le_refl, Nat.le_add_right]
    have next : fish ≤ lo → ∃ x, Tr t x ∧ fish ≤ gap t.C x i (t.C - 1) := fun hf => ⟨x1, b1, by omega⟩
    by_cases g2 : lo ≥ fish
    · by_cases g1 : ea < 0
      · have g3 : hi' ≥ fish := by have := b0 x1 b1; omega
        simp (disch := first | assumption | omega | (simp only [az]; done)) only [ru, eq_self, if_true, if_false, BEq.rfl, binI, AO.row?, splice, fillL, mmAll, loadV, storeV, zeros, Am.rowAt, Am.part, addOff, Nat.reduceAdd, Nat.reduceMul, Nat.reduceLeDiff, Nat.reduceSub, Nat.reduceLT, Int.reduceEq, Int.reduceLT, Int.reduceLE, Int.reduceGT, Int.reduceGE, Int.reduceAdd, Int.reduceSub, Int.reduceMul, Int.reduceNeg, Int.reduceToNat, reduceCtorEq, reduceIte, g1, g3, g2, hlt, List.append_assoc, List.cons_append, lenE, setT, setT0, atT, atT0, getT, getT0, Nat.add_assoc, gUn, Nat.le_refl]
        rw [finCT]
        refine ⟨_, by simp only [getRes, List.getD_cons_zero, List.getD_cons_succ, Am.rowAt, atT0]; rfl, _, _, _, rfl, .inl ⟨rfl, i, i, rfl, rfl, Nat.le_refl _, hi2, ⟨x1, b1, by omega⟩, ?_, fun x hx => by have := b0 x hx; omega, none⟩⟩
        rcases early with ⟨_, h1⟩ | ⟨a, e1, _⟩
        · exact h1
        · omega
      · simp (disch := first | assumption | omega | (simp only [az]; done)) only [ru, eq_self, if_true, if_false, BEq.rfl, binI, AO.row?, splice, fillL, mmAll, loadV, storeV, zeros, Am.rowAt, Am.part, addOff, Nat.reduceAdd, Nat.reduceMul, Nat.reduceLeDiff, Nat.reduceSub, Nat.reduceLT, Int.reduceEq, Int.reduceLT, Int.reduceLE, Int.reduceGT, Int.reduceGE, Int.reduceAdd, Int.reduceSub, Int.reduceMul, Int.reduceNeg, Int.reduceToNat, reduceCtorEq, reduceIte, g1, g2, hlt, List.append_assoc, List.cons_append, lenE, setT, setT0, atT, atT0, getT, getT0, Nat.add_assoc, gUn, Nat.le_refl]
        rw [finCT]
        rcases early with ⟨e1, h1⟩ | ⟨a, rfl, ha, h1, h2⟩
        · omega
        · exact ⟨_, by simp only [getRes, List.getD_cons_zero, List.getD_cons_succ, Am.rowAt, atT0]; rfl, _, _, _, rfl, .inl ⟨rfl, a, i, rfl, rfl, by omega, hi2, h1, h2, fun x hx => by have := b0 x hx; omega, none⟩⟩
    have none' : ∀ j, j < i + 1 → ∃ x, Tr t x ∧ gap t.C x j (t.C - 1) < fish := fun j hj => by
      by_cases e : j = i
      · subst e; exact ⟨x1, b1, by omega⟩
      · exact none j (by omega)
    by_cases g1 : ea < 0
    · have early' : ∀ j, j < i → ∀ x, Tr t x → gap t.C x j (t.C - 1) < fish := by
        rcases early with ⟨_, h1⟩ | ⟨a, e1, _⟩
        · exact h1
        · omega
      have ee : ea = -1 := by rcases early with ⟨h1, _⟩ | ⟨a, e1, _⟩ <;> omega
      by_cases g3 : hi' ≥ fish
      · simp (disch := first | assumption | omega | (simp only [az]; done)) only [ru, eq_self, if_true, if_false, BEq.rfl, binI, AO.row?, splice, fillL, mmAll, loadV, storeV, zeros, Am.rowAt, Am.part, addOff, Nat.reduceAdd, Nat.reduceMul, Nat.reduceLeDiff, Nat.reduceSub, Nat.reduceLT, Int.reduceEq, Int.reduceLT, Int.reduceLE, Int.reduceGT, Int.reduceGE, Int.reduceAdd, Int.reduceSub, Int.reduceMul, Int.reduceNeg, Int.reduceToNat, reduceCtorEq, reduceIte, g1, g3, g2, hlt, List.append_assoc, List.cons_append, lenE, setT, setT0, atT, atT0, getT, getT0, Nat.add_assoc, gUn, Nat.le_refl]
        exact ih (t.T - (i + 1)) _ _ _ (by omega) ⟨i + 1, i, _, by omega, rfl, rfl, rfl, rfl, rfl, rfl, rfl, rfl, rfl, rfl, none', .inr ⟨i, rfl, by omega, ⟨x2, b3, by omega⟩, early'⟩⟩
      · simp (disch := first | assumption | omega | (simp only [az]; done)) only [ru, eq_self, if_true, if_false, BEq.rfl, binI, AO.row?, splice, fillL, mmAll, loadV, storeV, zeros, Am.rowAt, Am.part, addOff, Nat.reduceAdd, Nat.reduceMul, Nat.reduceLeDiff, Nat.reduceSub, Nat.reduceLT, Int.reduceEq, Int.reduceLT, Int.reduceLE, Int.reduceGT, Int.reduceGE, Int.reduceAdd, Int.reduceSub, Int.reduceMul, Int.reduceNeg, Int.reduceToNat, reduceCtorEq, reduceIte, g1, g3, g2, hlt, List.append_assoc, List.cons_append, lenE, setT, setT0, atT, atT0, getT, getT0, Nat.add_assoc, gUn, Nat.le_refl]
        refine ih (t.T - (i + 1)) _ _ _ (by omega) ⟨i + 1, ea, _, by omega, rfl, rfl, rfl, rfl, rfl, rfl, rfl, rfl, rfl, rfl, none', .inl ⟨ee, fun j hj x hx => ?_⟩⟩
        by_cases e : j = i
        · subst e; have := b0 x hx; omega
        · exact early' j (by omega) x hx
    · simp (disch := first | assumption | omega | (simp only [az]; done)) only [ru, eq_self, if_true, if_false, BEq.rfl, binI, AO.row?, splice, fillL, mmAll, loadV, storeV, zeros, Am.rowAt, Am.part, addOff, Nat.reduceAdd, Nat.reduceMul, Nat.reduceLeDiff, Nat.reduceSub, Nat.reduceLT, Int.reduceEq, Int.reduceLT, Int.reduceLE, Int.reduceGT, Int.reduceGE, Int.reduceAdd, Int.reduceSub, Int.reduceMul, Int.reduceNeg, Int.reduceToNat, reduceCtorEq, reduceIte, g1, g2, hlt, List.append_assoc, List.cons_append, lenE, setT, setT0, atT, atT0, getT, getT0, Nat.add_assoc, gUn, Nat.le_refl]
      refine ih (t.T - (i + 1)) _ _ _ (by omega) ⟨i + 1, ea, _, by omega, rfl, rfl, rfl, rfl, rfl, rfl, rfl, rfl, rfl, rfl, none', .inr ?_⟩
      rcases early with ⟨e1, h1⟩ | ⟨a, e1, ha, h1, h2⟩
      · omega
      · exact ⟨a, e1, by omega, h1, h2⟩
  obtain ⟨r, h', hr, a, b, e, rfl, hp⟩ := hR
  exact ⟨_, by simp only [Ro, hr]; rfl, a, b, e, rfl, hp⟩

def fishB (n : Int) : Bool := decide (1 ≤ n) && decide (n ≤ 40)
/-- Enough -/
theorem s44 (H : TrOk t o w) (fish : Int) : ∃ a b e, (∀ st, Iso E 44 [trV t o w, I fish] st = some (.tup [.agg [I a, I b], I e])) ∧ AnsG t (fishB fish) (fun e => (0, 0, e)) (EnP t fish) (a, b, e) := by
  obtain ⟨fit, hfit⟩ : ∃ fit, fit = fishB fish := ⟨_, rfl⟩
  rw [← hfit]
  have norm : ∀ P : Prop, (1 ≤ fish → fish ≤ 40 → fit = true → P) → (1 ≤ fish → ¬ fish ≤ 40 → fit = false → P) → (¬ 1 ≤ fish → fit = false → P) → P := fun P a b c => by
    unfold fishB at hfit
    by_cases h1 : 1 ≤ fish
    · by_cases h2 : fish ≤ 40
      · exact a h1 h2 (by rw [hfit]; simp [h1, h2])
      · exact b h1 h2 (by rw [hfit]; simp [h2])
    · exact c h1 (by rw [hfit]; simp [h1])
  obtain ⟨p, e, K, q, hs⟩ := call73 H fit [.cells [I t.ch, I t.tm, o, w] false, .cells [I 0, I 0] false]
  simp only [trV] at q ⊢
  cases hs with
  | bad hv =>
    refine ⟨0, 0, 10, fun st => ?_, .bad hv⟩
    refine Iso_of (es _ _ _ _) e44 ?_
    simp only [f44]
    refine norm _ (fun h1 h2 hf => ?_) (fun h1 h2 hf => ?_) (fun h1 hf => ?_) <;> subst hf
    · simp (disch := first | assumption | omega | (simp only [az]; done)) only [ru, eq_self, if_true, if_false, BEq.rfl, binI, AO.row?, splice, fillL, mmAll, loadV, storeV, zeros, Am.rowAt, Am.part, addOff, Nat.reduceAdd, Nat.reduceMul, Nat.reduceLeDiff, Nat.reduceSub, Nat.reduceLT, Int.reduceEq, Int.reduceLT, Int.reduceLE, Int.reduceGT, Int.reduceGE, Int.reduceAdd, Int.reduceSub, Int.reduceMul, Int.reduceNeg, Int.reduceToNat, reduceCtorEq, reduceIte, lenV_sl H.o, lenV_sl H.w, elem_sl Ls.el H.o, elem_sl Wd.el H.w, view_sl H.o, view_sl H.w, scalar_sl H.o, scalar_sl H.w, cells_sl H.o, cells_sl H.w, pure_sl H.o, pure_sl H.w, Int.toNat_natCast, h1, h2]
      rw [q rfl rfl]
      simp (disch := first | assumption | omega | (simp only [az]; done)) only [ru, eq_self, if_true, if_false, BEq.rfl, binI, AO.row?, splice, fillL, mmAll, loadV, storeV, zeros, Am.rowAt, Am.part, addOff, Nat.reduceAdd, Nat.reduceMul, Nat.reduceLeDiff, Nat.reduceSub, Nat.reduceLT, Int.reduceEq, Int.reduceLT, Int.reduceLE, Int.reduceGT, Int.reduceGE, Int.reduceAdd, Int.reduceSub, Int.reduceMul, Int.reduceNeg, Int.reduceToNat, reduceCtorEq, reduceIte, lenV_sl H.o, lenV_sl H.w, elem_sl Ls.el H.o, elem_sl Wd.el H.w, view_sl H.o, view_sl H.w, scalar_sl H.o, scalar_sl H.w, cells_sl H.o, cells_sl H.w, pure_sl H.o, pure_sl H.w, Int.toNat_natCast, List.cons_append, List.nil_append, List.set_cons_succ, List.set_cons_zero]
      exact finS rfl rfl
    · simp (disch := first | assumption | omega | (simp only [az]; done)) only [ru, eq_self, if_true, if_false, BEq.rfl, binI, AO.row?, splice, fillL, mmAll, loadV, storeV, zeros, Am.rowAt, Am.part, addOff, Nat.reduceAdd, Nat.reduceMul, Nat.reduceLeDiff, Nat.reduceSub, Nat.reduceLT, Int.reduceEq, Int.reduceLT, Int.reduceLE, Int.reduceGT, Int.reduceGE, Int.reduceAdd, Int.reduceSub, Int.reduceMul, Int.reduceNeg, Int.reduceToNat, reduceCtorEq, reduceIte, lenV_sl H.o, lenV_sl H.w, elem_sl Ls.el H.o, elem_sl Wd.el H.w, view_sl H.o, view_sl H.w, scalar_sl H.o, scalar_sl H.w, cells_sl H.o, cells_sl H.w, pure_sl H.o, pure_sl H.w, Int.toNat_natCast, h1, h2]
      rw [q rfl rfl]
      simp (disch := first | assumption | omega | (simp only [az]; done)) only [ru, eq_self, if_true, if_false, BEq.rfl, binI, AO.row?, splice, fillL, mmAll, loadV, storeV, zeros, Am.rowAt, Am.part, addOff, Nat.reduceAdd, Nat.reduceMul, Nat.reduceLeDiff, Nat.reduceSub, Nat.reduceLT, Int.reduceEq, Int.reduceLT, Int.reduceLE, Int.reduceGT, Int.reduceGE, Int.reduceAdd, Int.reduceSub, Int.reduceMul, Int.reduceNeg, Int.reduceToNat, reduceCtorEq, reduceIte, lenV_sl H.o, lenV_sl H.w, elem_sl Ls.el H.o, elem_sl Wd.el H.w, view_sl H.o, view_sl H.w, scalar_sl H.o, scalar_sl H.w, cells_sl H.o, cells_sl H.w, pure_sl H.o, pure_sl H.w, Int.toNat_natCast, List.cons_append, List.nil_append, List.set_cons_succ, List.set_cons_zero]
      exact finS rfl rfl
    · simp (disch := first | assumption | omega | (simp only [az]; done)) only [ru, eq_self, if_true, if_false, BEq.rfl, binI, AO.row?, splice, fillL, mmAll, loadV, storeV, zeros, Am.rowAt, Am.part, addOff, Nat.reduceAdd, Nat.reduceMul, Nat.reduceLeDiff, Nat.reduceSub, Nat.reduceLT, Int.reduceEq, Int.reduceLT, Int.reduceLE, Int.reduceGT, Int.reduceGE, Int.reduceAdd, Int.reduceSub, Int.reduceMul, Int.reduceNeg, Int.reduceToNat, reduceCtorEq, reduceIte, lenV_sl H.o, lenV_sl H.w, elem_sl Ls.el H.o, elem_sl Wd.el H.w, view_sl H.o, view_sl H.w, scalar_sl H.o, scalar_sl H.w, cells_sl H.o, cells_sl H.w, pure_sl H.o, pure_sl H.w, Int.toNat_natCast, h1, gUn]
      rw [q rfl rfl]
      simp (disch := first | assumption | omega | (simp only [az]; done)) only [ru, eq_self, if_true, if_false, BEq.rfl, binI, AO.row?, splice, fillL, mmAll, loadV, storeV, zeros, Am.rowAt, Am.part, addOff, Nat.reduceAdd, Nat.reduceMul, Nat.reduceLeDiff, Nat.reduceSub, Nat.reduceLT, Int.reduceEq, Int.reduceLT, Int.reduceLE, Int.reduceGT, Int.reduceGE, Int.reduceAdd, Int.reduceSub, Int.reduceMul, Int.reduceNeg, Int.reduceToNat, reduceCtorEq, reduceIte, lenV_sl H.o, lenV_sl H.w, elem_sl Ls.el H.o, elem_sl Wd.el H.w, view_sl H.o, view_sl H.w, scalar_sl H.o, scalar_sl H.w, cells_sl H.o, cells_sl H.w, pure_sl H.o, pure_sl H.w, Int.toNat_natCast, List.cons_append, List.nil_append, List.set_cons_succ, List.set_cons_zero]
      exact finS rfl rfl
  | arg hv hf =>
    refine ⟨0, 0, 1, fun st => ?_, .arg hv hf⟩
    refine Iso_of (es _ _ _ _) e44 ?_
    simp only [f44]
    refine norm _ (fun h1 h2 hf' => ?_) (fun h1 h2 hf' => ?_) (fun h1 hf' => ?_)
    · rw [hf] at hf'; cases hf'
    · subst hf
      simp (disch := first | assumption | omega | (simp only [az]; done)) only [ru, eq_self, if_true, if_false, BEq.rfl, binI, AO.row?, splice, fillL, mmAll, loadV, storeV, zeros, Am.rowAt, Am.part, addOff, Nat.reduceAdd, Nat.reduceMul, Nat.reduceLeDiff, Nat.reduceSub, Nat.reduceLT, Int.reduceEq, Int.reduceLT, Int.reduceLE, Int.reduceGT, Int.reduceGE, Int.reduceAdd, Int.reduceSub, Int.reduceMul, Int.reduceNeg, Int.reduceToNat, reduceCtorEq, reduceIte, lenV_sl H.o, lenV_sl H.w, elem_sl Ls.el H.o, elem_sl Wd.el H.w, view_sl H.o, view_sl H.w, scalar_sl H.o, scalar_sl H.w, cells_sl H.o, cells_sl H.w, pure_sl H.o, pure_sl H.w, Int.toNat_natCast, h1, h2]
      rw [q rfl rfl]
      simp (disch := first | assumption | omega | (simp only [az]; done)) only [ru, eq_self, if_true, if_false, BEq.rfl, binI, AO.row?, splice, fillL, mmAll, loadV, storeV, zeros, Am.rowAt, Am.part, addOff, Nat.reduceAdd, Nat.reduceMul, Nat.reduceLeDiff, Nat.reduceSub, Nat.reduceLT, Int.reduceEq, Int.reduceLT, Int.reduceLE, Int.reduceGT, Int.reduceGE, Int.reduceAdd, Int.reduceSub, Int.reduceMul, Int.reduceNeg, Int.reduceToNat, reduceCtorEq, reduceIte, lenV_sl H.o, lenV_sl H.w, elem_sl Ls.el H.o, elem_sl Wd.el H.w, view_sl H.o, view_sl H.w, scalar_sl H.o, scalar_sl H.w, cells_sl H.o, cells_sl H.w, pure_sl H.o, pure_sl H.w, Int.toNat_natCast, List.cons_append, List.nil_append, List.set_cons_succ, List.set_cons_zero]
      exact finS rfl rfl
    · subst hf
      simp (disch := first | assumption | omega | (simp only [az]; done)) only [ru, eq_self, if_true, if_false, BEq.rfl, binI, AO.row?, splice, fillL, mmAll, loadV, storeV, zeros, Am.rowAt, Am.part, addOff, Nat.reduceAdd, Nat.reduceMul, Nat.reduceLeDiff, Nat.reduceSub, Nat.reduceLT, Int.reduceEq, Int.reduceLT, Int.reduceLE, Int.reduceGT, Int.reduceGE, Int.reduceAdd, Int.reduceSub, Int.reduceMul, Int.reduceNeg, Int.reduceToNat, reduceCtorEq, reduceIte, lenV_sl H.o, lenV_sl H.w, elem_sl Ls.el H.o, elem_sl Wd.el H.w, view_sl H.o, view_sl H.w, scalar_sl H.o, scalar_sl H.w, cells_sl H.o, cells_sl H.w, pure_sl H.o, pure_sl H.w, Int.toNat_natCast, h1, gUn]
      rw [q rfl rfl]
      simp (disch := first | assumption | omega | (simp only [az]; done)) only [ru, eq_self, if_true, if_false, BEq.rfl, binI, AO.row?, splice, fillL, mmAll, loadV, storeV, zeros, Am.rowAt, Am.part, addOff, Nat.reduceAdd, Nat.reduceMul, Nat.reduceLeDiff, Nat.reduceSub, Nat.reduceLT, Int.reduceEq, Int.reduceLT, Int.reduceLE, Int.reduceGT, Int.reduceGE, Int.reduceAdd, Int.reduceSub, Int.reduceMul, Int.reduceNeg, Int.reduceToNat, reduceCtorEq, reduceIte, lenV_sl H.o, lenV_sl H.w, elem_sl Ls.el H.o, elem_sl Wd.el H.w, view_sl H.o, view_sl H.w, scalar_sl H.o, scalar_sl H.w, cells_sl H.o, cells_sl H.w, pure_sl H.o, pure_sl H.w, Int.toNat_natCast, List.cons_append, List.nil_append, List.set_cons_succ, List.set_cons_zero]
      exact finS rfl rfl
  | none hv hf hn =>
    refine ⟨0, 0, 3, fun st => ?_, .none hv hf hn⟩
    refine Iso_of (es _ _ _ _) e44 ?_
    simp only [f44]
    refine norm _ (fun h1 h2 hf' => ?_) (fun h1 h2 hf' => by rw [hf] at hf'; cases hf') (fun h1 hf' => by rw [hf] at hf'; cases hf')
    subst hf
    simp (disch := first | assumption | omega | (simp only [az]; done)) only [ru, eq_self, if_true, if_false, BEq.rfl, binI, AO.row?, splice, fillL, mmAll, loadV, storeV, zeros, Am.rowAt, Am.part, addOff, Nat.reduceAdd, Nat.reduceMul, Nat.reduceLeDiff, Nat.reduceSub, Nat.reduceLT, Int.reduceEq, Int.reduceLT, Int.reduceLE, Int.reduceGT, Int.reduceGE, Int.reduceAdd, Int.reduceSub, Int.reduceMul, Int.reduceNeg, Int.reduceToNat, reduceCtorEq, reduceIte, lenV_sl H.o, lenV_sl H.w, elem_sl Ls.el H.o, elem_sl Wd.el H.w, view_sl H.o, view_sl H.w, scalar_sl H.o, scalar_sl H.w, cells_sl H.o, cells_sl H.w, pure_sl H.o, pure_sl H.w, Int.toNat_natCast, h1, h2]
    rw [q rfl rfl]
    simp (disch := first | assumption | omega | (simp only [az]; done)) only [ru, eq_self, if_true, if_false, BEq.rfl, binI, AO.row?, splice, fillL, mmAll, loadV, storeV, zeros, Am.rowAt, Am.part, addOff, Nat.reduceAdd, Nat.reduceMul, Nat.reduceLeDiff, Nat.reduceSub, Nat.reduceLT, Int.reduceEq, Int.reduceLT, Int.reduceLE, Int.reduceGT, Int.reduceGE, Int.reduceAdd, Int.reduceSub, Int.reduceMul, Int.reduceNeg, Int.reduceToNat, reduceCtorEq, reduceIte, lenV_sl H.o, lenV_sl H.w, elem_sl Ls.el H.o, elem_sl Wd.el H.w, view_sl H.o, view_sl H.w, scalar_sl H.o, scalar_sl H.w, cells_sl H.o, cells_sl H.w, pure_sl H.o, pure_sl H.w, Int.toNat_natCast, List.cons_append, List.nil_append, List.set_cons_succ, List.set_cons_zero]
    exact finS rfl rfl
  | @ok B hv hf hk hB hs =>
    obtain ⟨a, b, e, c86, J⟩ := s86 H (valid_trb hv) hk hB hs fish
    simp only [List.cons_append, List.nil_append, List.length_cons, List.length_nil, Nat.zero_add, Nat.reduceAdd] at c86
    refine ⟨a, b, e, fun st => ?_, .ok hv hf (hs.solv hB) J⟩
    refine Iso_of (es _ _ _ _) e44 ?_
    simp only [f44]
    refine norm _ (fun h1 h2 hf' => ?_) (fun h1 h2 hf' => by rw [hf] at hf'; cases hf') (fun h1 hf' => by rw [hf] at hf'; cases hf')
    subst hf
    simp (disch := first | assumption | omega | (simp only [az]; done)) only [ru, eq_self, if_true, if_false, BEq.rfl, binI, AO.row?, splice, fillL, mmAll, loadV, storeV, zeros, Am.rowAt, Am.part, addOff, Nat.reduceAdd, Nat.reduceMul, Nat.reduceLeDiff, Nat.reduceSub, Nat.reduceLT, Int.reduceEq, Int.reduceLT, Int.reduceLE, Int.reduceGT, Int.reduceGE, Int.reduceAdd, Int.reduceSub, Int.reduceMul, Int.reduceNeg, Int.reduceToNat, reduceCtorEq, reduceIte, lenV_sl H.o, lenV_sl H.w, elem_sl Ls.el H.o, elem_sl Wd.el H.w, view_sl H.o, view_sl H.w, scalar_sl H.o, scalar_sl H.w, cells_sl H.o, cells_sl H.w, pure_sl H.o, pure_sl H.w, Int.toNat_natCast, h1, h2]
    rw [q rfl rfl]
    simp (disch := first | assumption | omega | (simp only [az]; done)) only [ru, eq_self, if_true, if_false, BEq.rfl, binI, AO.row?, splice, fillL, mmAll, loadV, storeV, zeros, Am.rowAt, Am.part, addOff, Nat.reduceAdd, Nat.reduceMul, Nat.reduceLeDiff, Nat.reduceSub, Nat.reduceLT, Int.reduceEq, Int.reduceLT, Int.reduceLE, Int.reduceGT, Int.reduceGE, Int.reduceAdd, Int.reduceSub, Int.reduceMul, Int.reduceNeg, Int.reduceToNat, reduceCtorEq, reduceIte, lenV_sl H.o, lenV_sl H.w, elem_sl Ls.el H.o, elem_sl Wd.el H.w, view_sl H.o, view_sl H.w, scalar_sl H.o, scalar_sl H.w, cells_sl H.o, cells_sl H.w, pure_sl H.o, pure_sl H.w, Int.toNat_natCast, List.cons_append, List.nil_append, List.set_cons_succ, List.set_cons_zero, c86]
    exact finS rfl rfl
end
end Go.Proofs.Ytjaaefdhdggnkaa.S

/-
Lists in new memory; a trap with one more word, and with one less.
-/
namespace Go.Proofs.Ytjaaefdhdggnkaa.S
open Go Go.Am Go.Proofs.Ytjaaefdhdggnkaa.T
set_option maxRecDepth 100000
set_option linter.unusedSimpArgs false
set_option linter.unusedVariables false

/-! a copy, moved up -/
theorem ints_shift (l : List Int) (n : Nat) : (l.flatMap intL).map (AV.shift n) = l.flatMap intL := by
  rw [List.map_flatMap]; congr 1
theorem wds_shift (l : List Wd) (n : Nat) : (l.flatMap Wd.e).map (AV.shift n) = l.flatMap Wd.e := by
  rw [List.map_flatMap]; congr 1
theorem getD_shift (vs : List AV) (n i : Nat) : (vs.map (AV.shift n)).getD i .undef = (vs.getD i .undef).shift n := by
  rw [List.getD_eq_getElem?_getD, List.getD_eq_getElem?_getD, List.getElem?_map]
  cases vs[i]? <;> rfl
theorem OvH.up {K h' : List AO} {ow ow' n : Nat} {ov : AV} {L : List Ls} (H : OvH K ow ov L) (hf : ∀ k, k < K.length → k ≠ ow → h'[k + n]? = (K[k]?).map (AO.shift n)) (hw : K.length + n ≤ ow' ∨ ow' = ow + n) : OvH h' ow' (ov.shift n) L := by
  rcases H with ⟨h1, rfl⟩ | ⟨hne, o, vs, h1, rfl, ho, hl, hr⟩
  · exact .inl ⟨h1, rfl⟩
  · have o2 := (List.getElem?_eq_some_iff.1 ho).1
    refine .inr ⟨hne, o + n, vs.map (AV.shift n), by omega, rfl, by rw [hf o o2 h1, ho]; rfl, by simp [hl], fun i hi => ?_⟩
    obtain ⟨p, p1, p2, e, hp⟩ := hr i hi
    have p3 := (List.getElem?_eq_some_iff.1 hp).1
    refine ⟨p + n, by omega, by omega, by rw [getD_shift, e]; rfl, ?_⟩
    rw [hf p p3 p2, hp]
    simp only [Option.map_some, AO.shift, ints_shift]
theorem call41u {t : Trap} {o w : AV} (H : TrUp t o w) (h : List AO) : ∃ ow ov wv K, (∀ {lim : Nat} {ρ : Opd → AV} {x : Opd}, ρ x = trV t o w → exOp (R E) lim none ρ h (.call 2 41 [x]) = some (trV t (ov.shift h.length) (wv.shift h.length), h ++ K.map (AO.shift h.length))) ∧ CpH t K ow ov wv := by
  obtain ⟨ow, ov, wv, K, hr, hc⟩ := r41u H
  have pureT : AV.pureV.go [trV t o w] = true := by simp [AV.pureV.go, AV.pureV, pure_sl H.o, pure_sl H.w]
  refine ⟨ow, ov, wv, K, ?_, hc⟩
  intro lim ρ x hx
  simp only [exOp, List.map_cons, List.map_nil, hx, pureT, if_true, hr]
  rfl
theorem up_at {h K : List AO} {k : Nat} : (h ++ K.map (AO.shift h.length))[k + h.length]? = (K[k]?).map (AO.shift h.length) := by
  rw [List.getElem?_append_right (by omega), Nat.add_sub_cancel, List.getElem?_map]
theorem OvH.sc {K : List AO} {ow : Nat} {ov : AV} {L : List Ls} (H : OvH K ow ov L) (n : Nat) : (ov.shift n).scalar = true ∧ (ov.shift n).cells = [ov.shift n] := by
  rcases H with ⟨_, rfl⟩ | ⟨_, o', vs, _, rfl, _⟩ <;> exact ⟨rfl, rfl⟩

set_option maxHeartbeats 4000000 in
theorem s35u {t : Trap} {o w : AV} (H : TrUp t o w) (y : Wd) (st : Bool) : Iso E 35 [trV t o w, .agg y.e] st = some (cpV (t.add y)) := by
  obtain ⟨ow, ov0, wv0, K, q, hc⟩ := call41u H [.cells [I t.ch, I t.tm, o, w] false, .cells y.e false, .cells [I 0, I 0, .nils, .nils] false]
  have hl := H.sw
  have sc := hc.o.sc 3
  have hw0 := hc.w.1
  have hw1 := hc.w.2
  have ow1 := (List.getElem?_eq_some_iff.1 hw1).1
  simp only [List.length_cons, List.length_nil, Nat.zero_add, Nat.reduceAdd] at q
  obtain ⟨G0, hG0⟩ : ∃ G0 : List AO, G0 = [.cells [I t.ch, I t.tm, o, w] false, .cells y.e false, .cells [I 0, I 0, .nils, .nils] false] ++ K.map (AO.shift 3) := ⟨_, rfl⟩
  rw [← hG0] at q
  have gl : G0.length = K.length + 3 := by rw [hG0]; simp
  have g1 : ∀ J, (G0 ++ J)[1]? = some (.cells y.e false) := fun J => by rw [at_ap (by omega), hG0]; rfl
  have gK : ∀ k, G0[k + 3]? = (K[k]?).map (AO.shift 3) := fun k => by rw [hG0]; exact up_at (h := [.cells [I t.ch, I t.tm, o, w] false, .cells y.e false, .cells [I 0, I 0, .nils, .nils] false])
  have gow : G0[ow + 3]? = some (.cells (t.ws.flatMap Wd.e) false) := by
    rw [gK, hw1]; simp only [Option.map_some, AO.shift, wds_shift]
  obtain ⟨ov, hov⟩ : ∃ ov, ov = ov0.shift 3 := ⟨_, rfl⟩
  obtain ⟨wv, hwv⟩ : ∃ wv, wv = wv0.shift 3 := ⟨_, rfl⟩
  have hwv2 : wv = .ms 4 (ow + 3) 0 t.ws.length := by rw [hwv, hw0]; rfl
  rw [← hov] at sc
  rw [← hov, ← hwv] at q
  have wsc : wv.scalar = true ∧ wv.cells = [wv] := by rw [hwv2]; exact ⟨rfl, rfl⟩
  have hap : appV 0 (G0 ++ [AO.cells [I t.ch, I t.tm, ov, wv] false]) 4 32 wv (.cs 4 1 y.e) = some (.ms 4 (G0.length + 1) 0 (t.ws.length + 1), (G0 ++ [AO.cells [I t.ch, I t.tm, ov, wv] false]).set (ow + 3) .tomb ++ [.cells (t.ws.flatMap Wd.e ++ y.e) false]) := by
    rw [hwv2, appV_ms (n := 1) (xs := y.e) (by rw [at_ap (by omega)]; exact gow) (by rw [flat_len Wd.el]) rfl rfl rfl rfl (by omega) (by omega) (by omega), if_neg (by omega)]
    simp only [List.length_append, List.length_cons, List.length_nil, Nat.zero_add]
  obtain ⟨H2, hH2⟩ : ∃ H2 : List AO, H2 = (G0 ++ [AO.cells [I t.ch, I t.tm, ov, wv] false]).set (ow + 3) .tomb ++ [.cells (t.ws.flatMap Wd.e ++ y.e) false] := ⟨_, rfl⟩
  rw [← hH2] at hap
  have l2 : H2.length = G0.length + 2 := by rw [hH2]; simp
  have e0 : H2[G0.length]? = some (.cells [I t.ch, I t.tm, ov, wv] false) := by
    rw [hH2, at_ap (by simp), List.getElem?_set_ne (by omega), atT0]; rfl
  have e2 : H2[2]? = some (.cells [I 0, I 0, .nils, .nils] false) := by
    rw [hH2, at_ap (by simp; omega), List.getElem?_set_ne (by omega), at_ap (by omega), hG0]; rfl
  have e9 : H2[G0.length + 1]? = some (.cells (t.ws.flatMap Wd.e ++ y.e) false) := by
    rw [hH2, show G0.length + 1 = ((G0 ++ [AO.cells [I t.ch, I t.tm, ov, wv] false]).set (ow + 3) .tomb).length by simp, atT0]; rfl
  have ek : ∀ k, k < K.length → k ≠ ow → H2[k + 3]? = (K[k]?).map (AO.shift 3) := fun k hk hn => by
    rw [hH2, at_ap (by simp; omega), List.getElem?_set_ne (by omega), at_ap (by omega), gK]
  refine Iso_of (es _ _ _ _) e35 ?_
  simp only [f35, trV] at q ⊢
  simp (disch := first | assumption | omega | (simp only [az]; done)) only [ru, eq_self, if_true, if_false, BEq.rfl, binI, AO.row?, splice, fillL, mmAll, loadV, storeV, zeros, Am.rowAt, Am.part, addOff, Nat.reduceAdd, Nat.reduceMul, Nat.reduceLeDiff, Nat.reduceSub, Nat.reduceLT, Int.reduceEq, Int.reduceLT, Int.reduceLE, Int.reduceGT, Int.reduceGE, Int.reduceAdd, Int.reduceSub, Int.reduceMul, Int.reduceNeg, Int.reduceToNat, reduceCtorEq, reduceIte, lenV_sl H.o, lenV_sl H.w, elem_sl Ls.el H.o, elem_sl Wd.el H.w, view_sl H.o, view_sl H.w, scalar_sl H.o, scalar_sl H.w, cells_sl H.o, cells_sl H.w, pure_sl H.o, pure_sl H.w, Int.toNat_natCast]
  rw [q rfl]
  obtain ⟨wn, hwn⟩ : ∃ wn, wn = AV.ms 4 (G0.length + 1) 0 (t.ws.length + 1) := ⟨_, rfl⟩
  rw [← hwn] at hap
  have hap2 : appV 0 (G0 ++ [AO.cells [I t.ch, I t.tm, ov, wv] false]) 4 32 wv (.cs 4 1 [I y.time, I y.ch, I y.lo, I y.hi]) = some (wn, H2) := hap
  have wn1 : wn.scalar = true ∧ wn.cells = [wn] := by rw [hwn]; exact ⟨rfl, rfl⟩
  have e5 : ∀ c, (H2.set G0.length c)[2]? = some (.cells [I 0, I 0, .nils, .nils] false) := fun c => by rw [List.getElem?_set_ne (by omega)]; exact e2
  have e6 : ∀ c, (H2.set G0.length c)[G0.length]? = some c := fun c => by rw [List.getElem?_set_self (by omega)]
  simp (disch := first | assumption | omega | (simp only [az]; done)) only [ru, eq_self, if_true, if_false, BEq.rfl, binI, AO.row?, splice, fillL, mmAll, loadV, storeV, zeros, Am.rowAt, Am.part, addOff, Nat.reduceAdd, Nat.reduceMul, Nat.reduceLeDiff, Nat.reduceSub, Nat.reduceLT, Int.reduceEq, Int.reduceLT, Int.reduceLE, Int.reduceGT, Int.reduceGE, Int.reduceAdd, Int.reduceSub, Int.reduceMul, Int.reduceNeg, Int.reduceToNat, reduceCtorEq, reduceIte, lenV_sl H.o, lenV_sl H.w, elem_sl Ls.el H.o, elem_sl Wd.el H.w, view_sl H.o, view_sl H.w, scalar_sl H.o, scalar_sl H.w, cells_sl H.o, cells_sl H.w, pure_sl H.o, pure_sl H.w, Int.toNat_natCast, List.append_assoc, lenE, setT, setT0, atT, atT0, getT, getT0, Nat.add_assoc, sc.1, sc.2, wsc.1, wsc.2, Bool.and_self, g1, Wd.e, hap2, wn1.1, wn1.2, e0, e5, e6]
  rw [finC]
  refine ⟨.agg [I t.ch, I t.tm, ov, wn], ?_, ?_⟩
  · simp only [getRes, List.getD_cons_zero, List.getD_cons_succ, Am.rowAt]
    rw [List.getElem?_set_self (by rw [List.length_set]; omega)]; rfl
  · refine CpH.view (t := t.add y) (n := 5) (ow := G0.length + 1) ⟨?_, ?_, ?_⟩ st
    · rw [hov]
      refine hc.o.up (fun k hk hn => ?_) (.inl (by omega))
      rw [List.getElem?_set_ne (by omega), List.getElem?_set_ne (by omega)]
      exact ek k hk hn
    · rw [hwn]; simp [Trap.add]
    · rw [List.getElem?_set_ne (by omega), List.getElem?_set_ne (by omega), e9]
      simp [Trap.add]

theorem s35 {t : Trap} {o w : AV} (H : TrOk t o w) (hl : t.ws.length ≤ 39) (y : Wd) (st : Bool) : Iso E 35 [trV t o w, .agg y.e] st = some (cpV (t.add y)) := s35u H.up y st

section
variable {α : Type} {esz : Nat} {enc : α → List AV}
end
theorem cpo_sc {L : List Ls} : (cpO L).scalar = true := scalar_sl cpO_is
theorem cpo_vi {L : List Ls} {g : List AO} {n : Nat} : view false g n (cpO L) = some (cpO L) := view_sl cpO_is g n
theorem slV_sc {α : Type} {esz : Nat} {enc : α → List AV} {l : List α} : (slV esz enc l).scalar = true := scalar_sl slV_is
theorem slV_vi {α : Type} {esz : Nat} {enc : α → List AV} {l : List α} {g : List AO} {n : Nat} : view false g n (slV esz enc l) = some (slV esz enc l) := view_sl slV_is g n
end Go.Proofs.Ytjaaefdhdggnkaa.S

/-
A trap with a place counted, and with one less word; lists in new memory.
-/
namespace Go.Proofs.Ytjaaefdhdggnkaa.S
open Go Go.Am Go.Proofs.Ytjaaefdhdggnkaa.T
set_option maxRecDepth 100000
set_option linter.unusedSimpArgs false
set_option linter.unusedVariables false

end Go.Proofs.Ytjaaefdhdggnkaa.S

/-
What the program answers: tell and Tell.
-/
namespace Go.Proofs.Ytjaaefdhdggnkaa.S
open Go Go.Am Go.Proofs.Ytjaaefdhdggnkaa.T
set_option maxRecDepth 100000
set_option linter.unusedSimpArgs false
set_option linter.unusedVariables false

def F87 : AFn := ⟨32, [.tmp 4],
 .seq (.region 0 [⟨(some 3), .box (.t 1), none, none, []⟩,
    ⟨(some 4), .p (.move (.c (.int .i64 0))), none, none, []⟩])
 (.seq (.region 0 [⟨(some 5), .p (.move (.c (.int .i64 0))), none, none, []⟩])
 (.seq (.region 0 [⟨(some 9), .p (.move (.t 0)), none, none, []⟩,
    ⟨(some 10), .load true 2 (.t 3), none, none, []⟩,
    ⟨(some 11), .call 3 82 [(.t 9), (.t 10)], none, none, []⟩,
    ⟨(some 6), .alloc [.int .i64 0, .int .i64 0], none, none, []⟩,
    ⟨none, .store 2 (.t 6) (.t 11), none, none, []⟩])
 (.seq (.seq (.region 0 [⟨(some 12), .p (.fieldAddr 0 (.t 6)), none, none, []⟩,
     ⟨(some 13), .load false 1 (.t 12), none, none, []⟩,
     ⟨(some 7), .p (.move (.t 13)), none, none, []⟩])
  (.block 0 (.loop (.seq (.seq (.region 0 [⟨(some 14), .p (.move (.t 7)), none, none, []⟩,
        ⟨(some 15), .p (.fieldAddr 1 (.t 6)), none, none, []⟩,
        ⟨(some 16), .load false 1 (.t 15), none, none, []⟩,
        ⟨(some 17), .p (.bin .leq (.t 14) (.t 16)), none, none, []⟩])
     (.cond (.t 17) (.skip)
      (.exit 0)))
    (.seq (.block 1 (.seq (.region 0 [⟨(some 20), .p (.move (.t 0)), none, none, []⟩,
         ⟨(some 21), .p (.nilCheck (.t 20)), none, none, []⟩,
         ⟨(some 22), .load true 445 (.t 21), none, none, []⟩,
         ⟨(some 8), .alloc ([.int .i64 0, .int .i64 0, .nils, .nils] ++ List.replicate 441 (.int .i64 0)), none, none, []⟩,
         ⟨none, .store 445 (.t 8) (.t 22), none, none, []⟩])
      (.seq (.region 0 [⟨(some 23), .load true 2 (.t 3), none, none, []⟩,
         ⟨(some 24), .p (.move (.t 7)), none, none, []⟩,
         ⟨(some 25), .p (.move (.t 7)), none, none, []⟩,
         ⟨(some 26), .p (.build [.int .i64 0, .int .i64 0] [(0, 1, (.t 24)), (1, 1, (.t 25))]), none, none, []⟩,
         ⟨(some 27), .call 0 101 [(.t 8), (.t 23), (.t 26)], none, none, []⟩])
      (.cond (.t 27) (.region 0 [⟨(some 28), .p (.move (.t 5)), none, none, []⟩,
         ⟨(some 29), .call 3 102 [(.t 8)], none, none, []⟩,
         ⟨(some 30), .p (.minmax true (.t 28) [(.t 29)]), none, none, []⟩,
         ⟨(some 5), .p (.move (.t 30)), none, none, []⟩])
       (.skip)))))
    (.region 0 [⟨(some 18), .p (.move (.t 7)), none, none, []⟩,
      ⟨(some 19), .p (.bin .add (.t 18) (.c (.int .i64 1))), none, none, []⟩,
      ⟨(some 7), .p (.move (.t 19)), none, none, []⟩]))))))
 (.seq (.region 0 [⟨(some 31), .p (.move (.t 5)), none, none, []⟩,
    ⟨(some 4), .p (.move (.t 31)), none, none, []⟩])
 (.ret)))))⟩
theorem F87_eq : f87 = F87 := by kernel_rfl

/-- the greatest doubt behind a count at a place -/
def TellP (t : Trap) (i c : Nat) (m : Int) : Prop :=
  (∀ x y, Tr t x → Tr t y → gap t.C x i c = gap t.C y i c → gap t.C x (t.T - 1) (t.C - 1) - gap t.C y (t.T - 1) (t.C - 1) ≤ m) ∧
  ∃ x y, Tr t x ∧ Tr t y ∧ gap t.C x i c = gap t.C y i c ∧ gap t.C x (t.T - 1) (t.C - 1) - gap t.C y (t.T - 1) (t.C - 1) = m
theorem TellP.uniq {t : Trap} {i c : Nat} {a b : Int} (A : TellP t i c a) (B : TellP t i c b) : a = b := by
  obtain ⟨A1, x, y, h1, h2, h3, h4⟩ := A
  obtain ⟨B1, u, v, k1, k2, k3, k4⟩ := B
  have := A1 u v k1 k2 k3
  have := B1 x y h1 h2 h3
  omega
/-- .. of counts below a number -/
structure TellI (t : Trap) (i c : Nat) (n m : Int) : Prop where
  m0 : 0 ≤ m
  m1 : m ≤ 40
  a : ∀ x y, Tr t x → Tr t y → gap t.C x i c = gap t.C y i c → gap t.C x i c < n → gap t.C x (t.T - 1) (t.C - 1) - gap t.C y (t.T - 1) (t.C - 1) ≤ m
  b : m = 0 ∨ ∃ x y, Tr t x ∧ Tr t y ∧ gap t.C x i c = gap t.C y i c ∧ gap t.C x (t.T - 1) (t.C - 1) - gap t.C y (t.T - 1) (t.C - 1) = m
theorem TellI.start {t : Trap} {i c : Nat} {lo : Int} (h : ∀ x, Tr t x → lo ≤ gap t.C x i c) : TellI t i c lo 0 :=
  ⟨by omega, by omega, fun x y hx _ _ hl => by have := h x hx; omega, .inl rfl⟩
theorem TellI.skip {t : Trap} {i c : Nat} {n m : Int} (I : TellI t i c n m) (h : ∀ x, Tr t x → gap t.C x i c ≠ n) : TellI t i c (n + 1) m :=
  ⟨I.m0, I.m1, fun x y hx hy e hl => I.a x y hx hy e (by have := h x hx; omega), I.b⟩
theorem TellI.next {t : Trap} {i c : Nat} {n m d : Int} (V : TrB t) (I : TellI t i c n m) (D : DbtP (t.add ⟨i, c, n, n⟩) d) : TellI t i c (n + 1) (mmx true m d) := by
  obtain ⟨lo, hi, X, rfl⟩ := D
  have e1 := trC V; have e2 := trT V
  have v1 := V.c0; have v3 := V.t0
  have bd := xt_bd (t := t.add ⟨i, c, n, n⟩) (i := t.T - 1) (c := t.C - 1) (by show _ < t.T; omega) (by show _ < t.C; omega) X
  obtain ⟨a, ⟨x1, b1, b2⟩, x2, c1, c2⟩ := xt_tr X
  simp only [add_C, add_T, tr_add, saysW, Int.toNat_natCast] at a b1 b2 c1 c2
  have I0 := I.m0; have I1 := I.m1
  have h1 : mmx true m (hi - lo) = if hi - lo > m then hi - lo else m := rfl
  rw [h1]
  refine ⟨by split <;> omega, by split <;> omega, fun x y hx hy e hl => ?_, ?_⟩
  · by_cases en : gap t.C x i c = n
    · have p := a x ⟨hx, by omega, by omega⟩
      have q := a y ⟨hy, by omega, by omega⟩
      split <;> omega
    · have := I.a x y hx hy e (by omega)
      split <;> omega
  · split
    · exact .inr ⟨x2, x1, c1.1, b1.1, by omega, by omega⟩
    · exact I.b
theorem TellI.done {t : Trap} {i c : Nat} {n m : Int} (hs : Solv t.C t.T t) (I : TellI t i c n m) (h : ∀ x, Tr t x → gap t.C x i c < n) : TellP t i c m := by
  refine ⟨fun x y hx hy e => I.a x y hx hy e (h x hx), ?_⟩
  rcases I.b with rfl | hb
  · obtain ⟨x, hx⟩ := solv_tr.1 hs
    exact ⟨x, x, hx, hx, rfl, by omega⟩
  · exact hb

theorem wc_sc {ch tm : Int} {o w : AV} {B : List Int} (ho : o.scalar = true) (hw : w.scalar = true) : (wc ch tm o w B).all AV.scalar = true := by
  simp only [wc, List.all_cons, ho, hw, Bool.true_and]
  exact nums_sc

set_option maxHeartbeats 1000000 in
theorem s87 {t : Trap} {o w : AV} {h : List AO} {k : Nat} {B : List Int} (H : TrOk t o w) (V : TrB t) (h8 : t.ws.length ≤ 8) (hk : h[k]? = some (.cells (wc t.C t.T o w B) false)) (hB : Ok B) (hs : Says t.C t.T t B) {i c : Nat} (hi : i < t.T) (hc : c < t.C) :
    ∃ m, Ro E 87 [.ptr k 0, .agg [I i, I c]] h = some (I m) ∧ TellP t i c m := by
  have v1 := V.c0; have v2 := V.c1; have v3 := V.t0; have v4 := V.t1
  have eC := trC V; have eT := trT V
  obtain ⟨lo, hi', c82, X⟩ := fishAt V hk hB hs hi hc
  obtain ⟨x0, x1, x2⟩ := xt_tr X
  have bd := xt_bd hi hc X
  try simp only at x0
  suffices hR : ∃ r h', R E (.fn 87) [.ptr k 0, .agg [I i, I c]] h h.length = some (r, h') ∧ ∃ m, r = I m ∧ TellP t i c m by
    obtain ⟨r, h', hr, m, rfl, hp⟩ := hR
    exact ⟨m, by simp only [Ro, hr]; rfl, hp⟩
  have kl := (List.getElem?_eq_some_iff.1 hk).1
  obtain ⟨W, hW⟩ : ∃ W, W = wc t.C t.T o w B := ⟨_, rfl⟩
  have lW : W.length = 445 := by rw [hW, wc_len, hB.len]
  have tW : List.take 445 W = W := List.take_of_length_le (by omega)
  have sW : W.all AV.scalar = true := by rw [hW]; exact wc_sc (scalar_sl H.o) (scalar_sl H.w)
  obtain ⟨Z, hZ⟩ : ∃ Z : List AV, Z = [I 0, I 0, .nils, .nils] ++ List.replicate 441 (I 0) := ⟨_, rfl⟩
  have lZ : Z.length = 445 := by rw [hZ]; simp
  have dZ : List.drop 445 Z = [] := List.drop_eq_nil_of_le (by omega)
  have dW : List.drop 0 W = W := rfl
  have bl : ∀ n : Int, lo ≤ n → n ≤ hi' → ∀ (g : List AO), h.length ≤ g.length → (∀ j, j < h.length → g[j]? = h[j]?) → ∃ b g' d, R E (.fn 101) [.ptr g.length 0, .agg [I i, I c], .agg [I n, I n]] (g ++ [.cells W false]) h.length = some (Bo b, g') ∧
      g.length < g'.length ∧ (∀ j, j < g.length → g'[j]? = g[j]?) ∧ (b = true → Ro E 102 [.ptr g.length 0] g' = some (I d) ∧ DbtP (t.add ⟨i, c, n, n⟩) d) ∧ (b = false → ∀ x, Tr t x → gap t.C x i c ≠ n) := by
    intro n hn1 hn2 g hg hgh
    have gk : (g ++ [.cells W false])[g.length]? = some (.cells (wc t.C t.T o w B) false) := by rw [atT0, hW]; rfl
    obtain ⟨b, B', g', hr, S, KB, y, f⟩ := r101 gk hB (lim := h.length) (t := i) (c := c) (lo := n) (hi' := n) (by omega) (by omega) (by omega) (by omega) (by omega) hg
    have sl := S.le
    simp only [List.length_append, List.length_cons, List.length_nil] at sl
    cases b
    · refine ⟨false, g', 0, hr, by omega, fun j hj => ?_, fun e => Bool.noConfusion e, fun _ x hx e => ?_⟩
      · rw [S.fr j (by simp; omega) (by omega), at_ap hj]
      · have := f rfl x ((hs x).2 hx)
        unfold gap at e
        omega
    · have hs2 : Says (t.add ⟨i, c, n, n⟩).C (t.add ⟨i, c, n, n⟩).T (t.add ⟨i, c, n, n⟩) B' := fun x => by
        have e1 := y rfl x
        have e2 := hs x
        rw [e1, e2, add_C, add_T, add_all]
        simp only [saysW, gap, Int.toNat_natCast]
        constructor
        · rintro ⟨⟨a, b⟩, c, d⟩; exact ⟨a, b, c, d⟩
        · rintro ⟨a, b, c, d⟩; exact ⟨⟨a, b⟩, c, d⟩
      have hf : fitB t ⟨i, c, n, n⟩ = true := by
        simp only [fitB, placeB, Bool.and_eq_true, decide_eq_true_eq]; omega
      obtain ⟨d, c102, D⟩ := s102 (t := t.add ⟨i, c, n, n⟩) (o := o) (w := w) (add_trb V h8 hf) S.at' KB hs2
      have c102' := c102 []
      rw [List.append_nil] at c102'
      refine ⟨true, g', d, hr, by omega, fun j hj => ?_, fun _ => ⟨c102', D⟩, fun e => Bool.noConfusion e⟩
      rw [S.fr j (by simp; omega) (by omega), at_ap hj]
  refine R_of (f := 87) (fun r h' => ∃ m, r = I m ∧ TellP t i c m) (es _ _ _ _) e87 ?_
  rw [F87_eq]
  simp only [F87, ← hZ]
  simp (disch := first | assumption | omega | (simp only [az]; done)) only [ru, eq_self, if_true, if_false, BEq.rfl, binI, AO.row?, splice, fillL, mmAll, loadV, storeV, zeros, Am.rowAt, Am.part, addOff, Nat.reduceAdd, Nat.reduceMul, Nat.reduceLeDiff, Nat.reduceSub, Nat.reduceLT, Int.reduceEq, Int.reduceLT, Int.reduceLE, Int.reduceGT, Int.reduceGE, Int.reduceAdd, Int.reduceSub, Int.reduceMul, Int.reduceNeg, Int.reduceToNat, reduceCtorEq, reduceIte, List.append_assoc, List.cons_append, lenE, setT, setT0, atT, atT0, getT, getT0, Nat.add_assoc, Nat.le_refl, Nat.le_add_right, c82]
  refine G_loop_ind (fun q ts hh mk => ∃ (n m : Int), lo ≤ n ∧ n ≤ hi' + 1 ∧ q = (hi' + 1 - n).toNat ∧ ts.length = 32 ∧ ts.getD 0 .undef = .ptr k 0 ∧ ts.getD 3 .undef = .ptr h.length 0 ∧ ts.getD 5 .undef = I m ∧ ts.getD 6 .undef = .ptr (h.length + 1) 0 ∧ ts.getD 7 .undef = I n ∧
      h.length + 2 ≤ hh.length ∧ (∀ j, j < h.length → hh[j]? = h[j]?) ∧ hh[h.length]? = some (.cells [I i, I c] false) ∧ hh[h.length + 1]? = some (.cells [I lo, I hi'] false) ∧ TellI t i c n m ∧ mk = []) ?_ _ _ _ _
      ⟨lo, 0, Int.le_refl _, by omega, rfl, rfl, rfl, rfl, rfl, rfl, rfl, by simp, fun j hj => by rw [at_ap hj], by rw [atT0]; rfl, by rw [atT]; rfl, TellI.start fun x hx => (x0 x hx).1, rfl⟩
  rintro q ts hh mk ih ⟨n, m, n1, n2, rfl, hl, q0, q3, q5, q6, q7, hg, fr, g0, g1, J, rfl⟩
  rw [lit_all hl]
  simp only [lit0, litS, Nat.reduceAdd, q0, q3, q5, q6, q7]
  simp (disch := first | assumption | omega | (simp only [az]; done)) only [ru, eq_self, if_true, if_false, BEq.rfl, binI, AO.row?, splice, fillL, mmAll, loadV, storeV, zeros, Am.rowAt, Am.part, addOff, Nat.reduceAdd, Nat.reduceMul, Nat.reduceLeDiff, Nat.reduceSub, Nat.reduceLT, Int.reduceEq, Int.reduceLT, Int.reduceLE, Int.reduceGT, Int.reduceGE, Int.reduceAdd, Int.reduceSub, Int.reduceMul, Int.reduceNeg, Int.reduceToNat, reduceCtorEq, reduceIte, g1]
  by_cases hlt : n ≤ hi'
  case neg =>
    simp (disch := first | assumption | omega | (simp only [az]; done)) only [ru, eq_self, if_true, if_false, BEq.rfl, binI, AO.row?, splice, fillL, mmAll, loadV, storeV, zeros, Am.rowAt, Am.part, addOff, Nat.reduceAdd, Nat.reduceMul, Nat.reduceLeDiff, Nat.reduceSub, Nat.reduceLT, Int.reduceEq, Int.reduceLT, Int.reduceLE, Int.reduceGT, Int.reduceGE, Int.reduceAdd, Int.reduceSub, Int.reduceMul, Int.reduceNeg, Int.reduceToNat, reduceCtorEq, reduceIte, hlt]
    exact ⟨m, rfl, J.done (hs.solv hB) fun x hx => by have := x0 x hx; omega⟩
  have gk : hh[k]? = some (.cells W false) := by rw [fr k kl, hk, hW]
  refine (bl n n1 hlt hh (by omega) fr).elim fun b u => u.elim fun g' u => u.elim fun d u => ?_
  have u1 := u.1
  have u2 := u.2.1
  have u3 := u.2.2.1
  have u4 := u.2.2.2.1
  have u5 := u.2.2.2.2
  clear u
  have ll : h.length ≤ hh.length := by omega
  have g0' : ∀ J, (hh ++ J)[h.length]? = some (.cells [I i, I c] false) := fun J => by rw [at_ap (by omega)]; exact g0
  simp (disch := first | assumption | omega | (simp only [az]; done)) only [ru, eq_self, if_true, if_false, BEq.rfl, binI, AO.row?, splice, fillL, mmAll, loadV, storeV, zeros, Am.rowAt, Am.part, addOff, Nat.reduceAdd, Nat.reduceMul, Nat.reduceLeDiff, Nat.reduceSub, Nat.reduceLT, Int.reduceEq, Int.reduceLT, Int.reduceLE, Int.reduceGT, Int.reduceGE, Int.reduceAdd, Int.reduceSub, Int.reduceMul, Int.reduceNeg, Int.reduceToNat, reduceCtorEq, reduceIte, pex_nilC, nilC_ptr, hlt, gk, g0', lW, tW, sW, lZ, dZ, dW, ll, Nat.le_refl, List.append_nil, lenE, setT, setT0, atT, atT0, u1]
  cases b
  · simp (disch := first | assumption | omega | (simp only [az]; done)) only [ru, eq_self, if_true, if_false, BEq.rfl, binI, AO.row?, splice, fillL, mmAll, loadV, storeV, zeros, Am.rowAt, Am.part, addOff, Nat.reduceAdd, Nat.reduceMul, Nat.reduceLeDiff, Nat.reduceSub, Nat.reduceLT, Int.reduceEq, Int.reduceLT, Int.reduceLE, Int.reduceGT, Int.reduceGE, Int.reduceAdd, Int.reduceSub, Int.reduceMul, Int.reduceNeg, Int.reduceToNat, reduceCtorEq, reduceIte]
    exact ih _ _ _ _ (by omega) ⟨n + 1, m, by omega, by omega, rfl, rfl, rfl, rfl, rfl, rfl, rfl, by omega, fun j hj => by rw [u3 j (by omega)]; exact fr j hj, by rw [u3 _ (by omega)]; exact g0, by rw [u3 _ (by omega)]; exact g1, J.skip (u5 rfl), rfl⟩
  · have u6 := (u4 rfl).1
    simp (disch := first | assumption | omega | (simp only [az]; done)) only [ru, eq_self, if_true, if_false, BEq.rfl, binI, AO.row?, splice, fillL, mmAll, loadV, storeV, zeros, Am.rowAt, Am.part, addOff, Nat.reduceAdd, Nat.reduceMul, Nat.reduceLeDiff, Nat.reduceSub, Nat.reduceLT, Int.reduceEq, Int.reduceLT, Int.reduceLE, Int.reduceGT, Int.reduceGE, Int.reduceAdd, Int.reduceSub, Int.reduceMul, Int.reduceNeg, Int.reduceToNat, reduceCtorEq, reduceIte, u6]
    exact ih _ _ _ _ (by omega) ⟨n + 1, _, by omega, by omega, rfl, rfl, rfl, rfl, rfl, rfl, rfl, by omega, fun j hj => by rw [u3 j (by omega)]; exact fr j hj, by rw [u3 _ (by omega)]; exact g0, by rw [u3 _ (by omega)]; exact g1, J.next V (u4 rfl).2, rfl⟩

/-- Tell -/
theorem s48 {t : Trap} {o w : AV} (H : TrOk t o w) (a b : Int) : ∃ v e, (∀ st, Iso E 48 [trV t o w, .agg [I a, I b]] st = some (.tup [I v, I e])) ∧ AnsG t (placeB t a b) (fun e => (0, e)) (fun r => TellP t a.toNat b.toNat r.1 ∧ r.2 = 0) (v, e) := by
  have c1 := fun st => s81 H a b st
  obtain ⟨fit, hfit⟩ : ∃ fit, fit = placeB t a b := ⟨_, rfl⟩
  rw [← hfit] at c1 ⊢
  obtain ⟨p, e, K, q, hs⟩ := call73 H fit [.cells [I t.ch, I t.tm, o, w] false, .cells [I a, I b] false]
  simp only [trV] at q c1 ⊢
  cases hs with
  | bad hv =>
    refine ⟨0, 10, fun st => ?_, .bad hv⟩
    refine Iso_of (es _ _ _ _) e48 ?_
    simp only [f48]
    simp (disch := first | assumption | omega | (simp only [az]; done)) only [ru, eq_self, if_true, if_false, BEq.rfl, binI, AO.row?, splice, fillL, mmAll, loadV, storeV, zeros, Am.rowAt, Am.part, addOff, Nat.reduceAdd, Nat.reduceMul, Nat.reduceLeDiff, Nat.reduceSub, Nat.reduceLT, Int.reduceEq, Int.reduceLT, Int.reduceLE, Int.reduceGT, Int.reduceGE, Int.reduceAdd, Int.reduceSub, Int.reduceMul, Int.reduceNeg, Int.reduceToNat, reduceCtorEq, reduceIte, lenV_sl H.o, lenV_sl H.w, elem_sl Ls.el H.o, elem_sl Wd.el H.w, view_sl H.o, view_sl H.w, scalar_sl H.o, scalar_sl H.w, cells_sl H.o, cells_sl H.w, pure_sl H.o, pure_sl H.w, Int.toNat_natCast, c1]
    rw [q rfl rfl]
    simp (disch := first | assumption | omega | (simp only [az]; done)) only [ru, eq_self, if_true, if_false, BEq.rfl, binI, AO.row?, splice, fillL, mmAll, loadV, storeV, zeros, Am.rowAt, Am.part, addOff, Nat.reduceAdd, Nat.reduceMul, Nat.reduceLeDiff, Nat.reduceSub, Nat.reduceLT, Int.reduceEq, Int.reduceLT, Int.reduceLE, Int.reduceGT, Int.reduceGE, Int.reduceAdd, Int.reduceSub, Int.reduceMul, Int.reduceNeg, Int.reduceToNat, reduceCtorEq, reduceIte, lenV_sl H.o, lenV_sl H.w, elem_sl Ls.el H.o, elem_sl Wd.el H.w, view_sl H.o, view_sl H.w, scalar_sl H.o, scalar_sl H.w, cells_sl H.o, cells_sl H.w, pure_sl H.o, pure_sl H.w, Int.toNat_natCast, List.cons_append, List.nil_append]
  | arg hv hf =>
    refine ⟨0, 1, fun st => ?_, .arg hv hf⟩
    refine Iso_of (es _ _ _ _) e48 ?_
    simp only [f48]
    simp (disch := first | assumption | omega | (simp only [az]; done)) only [ru, eq_self, if_true, if_false, BEq.rfl, binI, AO.row?, splice, fillL, mmAll, loadV, storeV, zeros, Am.rowAt, Am.part, addOff, Nat.reduceAdd, Nat.reduceMul, Nat.reduceLeDiff, Nat.reduceSub, Nat.reduceLT, Int.reduceEq, Int.reduceLT, Int.reduceLE, Int.reduceGT, Int.reduceGE, Int.reduceAdd, Int.reduceSub, Int.reduceMul, Int.reduceNeg, Int.reduceToNat, reduceCtorEq, reduceIte, lenV_sl H.o, lenV_sl H.w, elem_sl Ls.el H.o, elem_sl Wd.el H.w, view_sl H.o, view_sl H.w, scalar_sl H.o, scalar_sl H.w, cells_sl H.o, cells_sl H.w, pure_sl H.o, pure_sl H.w, Int.toNat_natCast, c1]
    rw [q rfl rfl]
    simp (disch := first | assumption | omega | (simp only [az]; done)) only [ru, eq_self, if_true, if_false, BEq.rfl, binI, AO.row?, splice, fillL, mmAll, loadV, storeV, zeros, Am.rowAt, Am.part, addOff, Nat.reduceAdd, Nat.reduceMul, Nat.reduceLeDiff, Nat.reduceSub, Nat.reduceLT, Int.reduceEq, Int.reduceLT, Int.reduceLE, Int.reduceGT, Int.reduceGE, Int.reduceAdd, Int.reduceSub, Int.reduceMul, Int.reduceNeg, Int.reduceToNat, reduceCtorEq, reduceIte, lenV_sl H.o, lenV_sl H.w, elem_sl Ls.el H.o, elem_sl Wd.el H.w, view_sl H.o, view_sl H.w, scalar_sl H.o, scalar_sl H.w, cells_sl H.o, cells_sl H.w, pure_sl H.o, pure_sl H.w, Int.toNat_natCast, List.cons_append, List.nil_append]
  | none hv hf hn =>
    refine ⟨0, 3, fun st => ?_, .none hv hf hn⟩
    refine Iso_of (es _ _ _ _) e48 ?_
    simp only [f48]
    simp (disch := first | assumption | omega | (simp only [az]; done)) only [ru, eq_self, if_true, if_false, BEq.rfl, binI, AO.row?, splice, fillL, mmAll, loadV, storeV, zeros, Am.rowAt, Am.part, addOff, Nat.reduceAdd, Nat.reduceMul, Nat.reduceLeDiff, Nat.reduceSub, Nat.reduceLT, Int.reduceEq, Int.reduceLT, Int.reduceLE, Int.reduceGT, Int.reduceGE, Int.reduceAdd, Int.reduceSub, Int.reduceMul, Int.reduceNeg, Int.reduceToNat, reduceCtorEq, reduceIte, lenV_sl H.o, lenV_sl H.w, elem_sl Ls.el H.o, elem_sl Wd.el H.w, view_sl H.o, view_sl H.w, scalar_sl H.o, scalar_sl H.w, cells_sl H.o, cells_sl H.w, pure_sl H.o, pure_sl H.w, Int.toNat_natCast, c1]
    rw [q rfl rfl]
    simp (disch := first | assumption | omega | (simp only [az]; done)) only [ru, eq_self, if_true, if_false, BEq.rfl, binI, AO.row?, splice, fillL, mmAll, loadV, storeV, zeros, Am.rowAt, Am.part, addOff, Nat.reduceAdd, Nat.reduceMul, Nat.reduceLeDiff, Nat.reduceSub, Nat.reduceLT, Int.reduceEq, Int.reduceLT, Int.reduceLE, Int.reduceGT, Int.reduceGE, Int.reduceAdd, Int.reduceSub, Int.reduceMul, Int.reduceNeg, Int.reduceToNat, reduceCtorEq, reduceIte, lenV_sl H.o, lenV_sl H.w, elem_sl Ls.el H.o, elem_sl Wd.el H.w, view_sl H.o, view_sl H.w, scalar_sl H.o, scalar_sl H.w, cells_sl H.o, cells_sl H.w, pure_sl H.o, pure_sl H.w, Int.toNat_natCast, List.cons_append, List.nil_append]
  | @ok B hv hf hk hB hs =>
    have V := valid_trb hv
    have eC := eqC hv; have eT := eqT hv
    have pl : 0 ≤ a ∧ a < t.tm ∧ 0 ≤ b ∧ b < t.ch := by
      rw [hfit] at hf
      simp only [placeB, Bool.and_eq_true, decide_eq_true_eq] at hf; omega
    obtain ⟨ai, rfl⟩ : ∃ ai : Nat, a = ai := ⟨a.toNat, by omega⟩
    obtain ⟨bi, rfl⟩ : ∃ bi : Nat, b = bi := ⟨b.toNat, by omega⟩
    simp only [Int.toNat_natCast]
    obtain ⟨m, c87, T⟩ := s87 H V (valid_w8 hv) hk hB hs (i := ai) (c := bi) (by omega) (by omega)
    simp only [List.cons_append, List.nil_append, List.length_cons, List.length_nil, Nat.zero_add, Nat.reduceAdd] at c87
    refine ⟨m, 0, fun st => ?_, .ok hv hf (hs.solv hB) ⟨T, rfl⟩⟩
    refine Iso_of (es _ _ _ _) e48 ?_
    simp only [f48]
    simp (disch := first | assumption | omega | (simp only [az]; done)) only [ru, eq_self, if_true, if_false, BEq.rfl, binI, AO.row?, splice, fillL, mmAll, loadV, storeV, zeros, Am.rowAt, Am.part, addOff, Nat.reduceAdd, Nat.reduceMul, Nat.reduceLeDiff, Nat.reduceSub, Nat.reduceLT, Int.reduceEq, Int.reduceLT, Int.reduceLE, Int.reduceGT, Int.reduceGE, Int.reduceAdd, Int.reduceSub, Int.reduceMul, Int.reduceNeg, Int.reduceToNat, reduceCtorEq, reduceIte, lenV_sl H.o, lenV_sl H.w, elem_sl Ls.el H.o, elem_sl Wd.el H.w, view_sl H.o, view_sl H.w, scalar_sl H.o, scalar_sl H.w, cells_sl H.o, cells_sl H.w, pure_sl H.o, pure_sl H.w, Int.toNat_natCast, c1]
    rw [q rfl rfl]
    simp (disch := first | assumption | omega | (simp only [az]; done)) only [ru, eq_self, if_true, if_false, BEq.rfl, binI, AO.row?, splice, fillL, mmAll, loadV, storeV, zeros, Am.rowAt, Am.part, addOff, Nat.reduceAdd, Nat.reduceMul, Nat.reduceLeDiff, Nat.reduceSub, Nat.reduceLT, Int.reduceEq, Int.reduceLT, Int.reduceLE, Int.reduceGT, Int.reduceGE, Int.reduceAdd, Int.reduceSub, Int.reduceMul, Int.reduceNeg, Int.reduceToNat, reduceCtorEq, reduceIte, lenV_sl H.o, lenV_sl H.w, elem_sl Ls.el H.o, elem_sl Wd.el H.w, view_sl H.o, view_sl H.w, scalar_sl H.o, scalar_sl H.w, cells_sl H.o, cells_sl H.w, pure_sl H.o, pure_sl H.w, Int.toNat_natCast, List.cons_append, List.nil_append, c87]
end Go.Proofs.Ytjaaefdhdggnkaa.S

/-
What the program answers: least, truth and Truth.
-/
namespace Go.Proofs.Ytjaaefdhdggnkaa.S
open Go Go.Am Go.Proofs.Ytjaaefdhdggnkaa.T
set_option maxRecDepth 100000
set_option linter.unusedSimpArgs false
set_option linter.unusedVariables false

/-- the numbers of a truth, as a value -/
def rowG (C : Nat) (x : Nat → Int) (i : Nat) : List Int := (List.range C).map fun c => gap C x i c
def numL (C T : Nat) (x : Nat → Int) : List Ls := (List.range T).map fun i => ⟨rowG C x i, false⟩
theorem rowG_len {C i : Nat} {x : Nat → Int} : (rowG C x i).length = C := by simp [rowG]
theorem numL_len {C T : Nat} {x : Nat → Int} : (numL C T x).length = T := by simp [numL]
theorem numL_at {C T i : Nat} {x : Nat → Int} (hi : i < T) : (numL C T x).getD i default = ⟨rowG C x i, false⟩ := by
  simp [numL, List.getD_eq_getElem?_getD, hi]
/-- a slice of slices in the heap -/
def SsH (h : List AO) (v : AV) (L : List Ls) : Prop := ∃ o vs, v = .ms 1 o 0 L.length ∧ h[o]? = some (.cells vs false) ∧ vs.length = L.length ∧ ∀ i, i < L.length → ∃ p, vs.getD i .undef = .ms 1 p 0 (L.getD i default).list.length ∧ h[p]? = some (.cells ((L.getD i default).list.flatMap intL) false)
theorem SsH.view {h : List AO} {v : AV} {L : List Ls} (H : SsH h v L) (n : Nat) (st : Bool) : view st h (n + 2) v = some (slV 1 Ls.e (cpL L)) := by
  obtain ⟨o, vs, rfl, ho, hl, hr⟩ := H
  have key : OvH h h.length (.ms 1 o 0 L.length) L ∨ L = [] := by
    by_cases e : L = []
    · exact .inr e
    · refine .inl (.inr ⟨e, o, vs, ?_, rfl, ho, hl, ?_⟩)
      · have := (List.getElem?_eq_some_iff.1 ho).1; omega
      · intro i hi
        obtain ⟨p, e1, e2⟩ := hr i hi
        by_cases ep : p = o
        · exfalso
          subst ep
          rw [ho] at e2
          simp only [Option.some.injEq, AO.cells.injEq, and_true] at e2
          rw [e2] at e1 hl
          rw [flat1] at hl
          have : ((L.getD i default).list.flatMap intL).getD i .undef = I ((L.getD i default).list.getD i 0) := by
            have h4 : ∀ (l : List Int) (k : Nat), k < l.length → (l.flatMap intL).getD k .undef = I (l.getD k 0) := by
              intro l
              induction l with
              | nil => intro k hk; simp at hk
              | cons a l ih =>
                intro k hk
                cases k with
                | zero => rfl
                | succ k => 
                  have := ih k (by simpa using hk)
                  simpa [List.flatMap_cons] using this
            exact h4 _ i (by omega)
          rw [this] at e1
          cases e1
        · exact ⟨p, ep, by have := (List.getElem?_eq_some_iff.1 e2).1; omega, e1, e2⟩
  rcases key with k | e
  · have := k.view (n := n) st
    unfold cpO at this
    split at this
    · rename_i e
      subst e
      rcases k with ⟨_, e2⟩ | ⟨e2, _⟩
      · cases e2
      · exact absurd rfl e2
    · exact this
  · subst e
    rw [view_ms, rowOf_ms]
    simp only [Am.rowAt, ho, Option.bind_some, AO.row?, List.drop_zero, List.length_nil, Nat.zero_mul, List.take_zero, if_true, List.mapM_nil]
    rfl

theorem s99 {C T : Nat} {o w : AV} {h : List AO} {k : Nat} {B : List Int} (hk : h[k]? = some (.cells (wc C T o w B) false)) (hB : Ok B) (hC : C ≤ 4) {i c : Nat} (hi : i < 5) (hc : c ≤ C) : Ro E 99 [.ptr k 0, I i, I c] h = some (I (- bat B 0 (sumN C i c))) := by
  have ia := sumN_lt (ch := C) (t := i) (c := c) hi (by omega) (by omega)
  have c1 := s76 hk (t := i) (c := c) (by omega) (by omega)
  have c2 := s75 hk hB (i := sumN C i c) (j := 0) ia (by omega)
  obtain ⟨j, hj⟩ : ∃ j, j = sumN C i c := ⟨_, rfl⟩
  rw [← hj] at c1 c2 ⊢
  have c2' : Ro E 75 [.ptr k 4, I j, I 0] h = some (.agg [I (- bat B 0 j), I (bat B j 0)]) := c2
  refine Ro_of (es _ _ _ _) e99 ?_
  simp only [f99]
  simp (disch := first | assumption | omega | (simp only [az]; done)) only [ru, eq_self, if_true, if_false, BEq.rfl, binI, AO.row?, splice, fillL, mmAll, loadV, storeV, zeros, Am.rowAt, Am.part, addOff, Nat.reduceAdd, Nat.reduceMul, Nat.reduceLeDiff, Nat.reduceSub, Nat.reduceLT, Int.reduceEq, Int.reduceLT, Int.reduceLE, Int.reduceGT, Int.reduceGE, Int.reduceAdd, Int.reduceSub, Int.reduceMul, Int.reduceNeg, Int.reduceToNat, reduceCtorEq, reduceIte, pex_nilC, nilC_ptr, c1, c2']
  rfl

theorem put1 {α : Type} {l : List α} {i : Nat} (hi : i < l.length) (v : α) : l.take i ++ [v] ++ l.drop (i + 1) = l.set i v := by
  rw [List.set_eq_take_append_cons_drop, if_pos hi, List.append_assoc]; rfl
theorem zeros1 (n : Nat) (a : AV) : zeros n [a] = List.replicate n a := by
  unfold zeros
  induction n with
  | zero => rfl
  | succ n ih => rw [List.replicate_succ, List.flatten_cons, ih]; rfl

set_option maxHeartbeats 1000000 in
theorem r83 {C T : Nat} {o w : AV} {h : List AO} {k lim : Nat} {B : List Int} (hk : h[k]? = some (.cells (wc C T o w B) false)) (hB : Ok B) (hC : C ≤ 4) (hT : T ≤ 5) (hl : lim ≤ h.length) :
    ∃ v h', R E (.fn 83) [.ptr k 0] h lim = some (v, h') ∧ SsH h' v (numL C T fun k => - bat B 0 k) := by
  suffices hR : ∃ r h', R E (.fn 83) [.ptr k 0] h lim = some (r, h') ∧ SsH h' r (numL C T fun k => - bat B 0 k) from hR
  have kl := (List.getElem?_eq_some_iff.1 hk).1
  obtain ⟨x, hx⟩ : ∃ x : Nat → Int, x = fun k => - bat B 0 k := ⟨_, rfl⟩
  rw [← hx]
  have xe : ∀ j, - bat B 0 j = x j := fun j => by rw [hx]
  have xb : ∀ j, j < 21 → -1000 ≤ x j ∧ x j ≤ 1000 := fun j hj => by
    have := hB.sm 0 j (by omega) hj
    rw [← xe]; omega
  refine R_of (f := 83) (fun r h' => SsH h' r (numL C T x)) (es _ _ _ _) e83 ?_
  simp only [f83]
  simp (disch := first | assumption | omega | (simp only [az]; done)) only [ru, eq_self, if_true, if_false, BEq.rfl, binI, AO.row?, splice, fillL, mmAll, loadV, storeV, zeros, Am.rowAt, Am.part, addOff, Nat.reduceAdd, Nat.reduceMul, Nat.reduceLeDiff, Nat.reduceSub, Nat.reduceLT, Int.reduceEq, Int.reduceLT, Int.reduceLE, Int.reduceGT, Int.reduceGE, Int.reduceAdd, Int.reduceSub, Int.reduceMul, Int.reduceNeg, Int.reduceToNat, reduceCtorEq, reduceIte, pex_nilC, nilC_ptr, hk, wc_1]
  rw [exOp_mk (n := T) rfl rfl (by omega) (by omega), zeros1]
  simp (disch := first | assumption | omega | (simp only [az]; done)) only [ru, eq_self, if_true, if_false, BEq.rfl, binI, AO.row?, splice, fillL, mmAll, loadV, storeV, zeros, Am.rowAt, Am.part, addOff, Nat.reduceAdd, Nat.reduceMul, Nat.reduceLeDiff, Nat.reduceSub, Nat.reduceLT, Int.reduceEq, Int.reduceLT, Int.reduceLE, Int.reduceGT, Int.reduceGE, Int.reduceAdd, Int.reduceSub, Int.reduceMul, Int.reduceNeg, Int.reduceToNat, reduceCtorEq, reduceIte]
  refine G_loop_ind (fun m ts hh mk => ∃ (i : Nat) (vs : List AV), i ≤ T ∧ m = T - i ∧ ts.length = 53 ∧ ts.getD 0 .undef = .ptr k 0 ∧ ts.getD 3 .undef = .ms 1 h.length 0 T ∧ ts.getD 13 .undef = I T ∧ ts.getD 14 .undef = I i ∧
    hh.length = h.length + 1 + i ∧ (∀ j, j < h.length → hh[j]? = h[j]?) ∧ hh[h.length]? = some (.cells vs false) ∧ vs.length = T ∧ (∀ j, j < i → vs.getD j .undef = .ms 1 (h.length + 1 + j) 0 C ∧ hh[h.length + 1 + j]? = some (.cells ((rowG C x j).flatMap intL) false)) ∧ mk = []) ?_ _ _ _ _
    ⟨0, _, Nat.zero_le _, rfl, rfl, rfl, rfl, rfl, rfl, by simp, fun j hj => by rw [at_ap hj], by rw [atT0]; rfl, by simp, fun j hj => absurd hj (by omega), rfl⟩
  rintro m ts hh mk ih ⟨i, vs, hi, rfl, hl', q0, q3, q13, q14, lh, fr, hv, lv, hr, rfl⟩
  rw [lit_all hl']
  simp only [lit0, litS, Nat.reduceAdd, q0, q3, q13, q14]
  simp (disch := first | assumption | omega | (simp only [az]; done)) only [ru, eq_self, if_true, if_false, BEq.rfl, binI, AO.row?, splice, fillL, mmAll, loadV, storeV, zeros, Am.rowAt, Am.part, addOff, Nat.reduceAdd, Nat.reduceMul, Nat.reduceLeDiff, Nat.reduceSub, Nat.reduceLT, Int.reduceEq, Int.reduceLT, Int.reduceLE, Int.reduceGT, Int.reduceGE, Int.reduceAdd, Int.reduceSub, Int.reduceMul, Int.reduceNeg, Int.reduceToNat, reduceCtorEq, reduceIte]
  by_cases hlt : (i : Int) < T
  case neg =>
    have hi3 : i = T := by omega
    subst hi3
    simp (disch := first | assumption | omega | (simp only [az]; done)) only [ru, eq_self, if_true, if_false, BEq.rfl, binI, AO.row?, splice, fillL, mmAll, loadV, storeV, zeros, Am.rowAt, Am.part, addOff, Nat.reduceAdd, Nat.reduceMul, Nat.reduceLeDiff, Nat.reduceSub, Nat.reduceLT, Int.reduceEq, Int.reduceLT, Int.reduceLE, Int.reduceGT, Int.reduceGE, Int.reduceAdd, Int.reduceSub, Int.reduceMul, Int.reduceNeg, Int.reduceToNat, reduceCtorEq, reduceIte, hlt]
    refine ⟨h.length, vs, by rw [numL_len], hv, by rw [numL_len]; exact lv, fun j hj => ?_⟩
    rw [numL_len] at hj
    obtain ⟨a, b⟩ := hr j hj
    rw [numL_at hj]
    exact ⟨_, by rw [a, Ls.of_list, rowG_len], by rw [b, Ls.of_list]⟩
  have hk1 : hh[k]? = some (.cells (wc C T o w B) false) := by rw [fr k kl]; exact hk
  have hv1 : ∀ J, (hh ++ J)[h.length]? = some (.cells vs false) := fun J => by rw [at_ap (by omega)]; exact hv
  have i0 : (0 : Int) ≤ i := by omega
  have pu := put1 (l := vs) (i := i) (by omega) (.ms 1 hh.length 0 C)
  have ll : lim ≤ h.length := hl
  have fit : i + 1 ≤ vs.length := by omega
  simp (disch := first | assumption | omega | (simp only [az]; done)) only [ru, eq_self, if_true, if_false, BEq.rfl, binI, AO.row?, splice, fillL, mmAll, loadV, storeV, zeros, Am.rowAt, Am.part, addOff, Nat.reduceAdd, Nat.reduceMul, Nat.reduceLeDiff, Nat.reduceSub, Nat.reduceLT, Int.reduceEq, Int.reduceLT, Int.reduceLE, Int.reduceGT, Int.reduceGE, Int.reduceAdd, Int.reduceSub, Int.reduceMul, Int.reduceNeg, Int.reduceToNat, reduceCtorEq, reduceIte, pex_nilC, nilC_ptr, hlt, hk1, wc_0]
  rw [exOp_mk (n := C) rfl rfl (by omega) (by omega), zeros1]
  simp (disch := first | assumption | omega | (simp only [az]; done)) only [ru, eq_self, if_true, if_false, BEq.rfl, binI, AO.row?, splice, fillL, mmAll, loadV, storeV, zeros, Am.rowAt, Am.part, addOff, Nat.reduceAdd, Nat.reduceMul, Nat.reduceLeDiff, Nat.reduceSub, Nat.reduceLT, Int.reduceEq, Int.reduceLT, Int.reduceLE, Int.reduceGT, Int.reduceGE, Int.reduceAdd, Int.reduceSub, Int.reduceMul, Int.reduceNeg, Int.reduceToNat, reduceCtorEq, reduceIte, hlt, i0, hv1, Int.toNat_natCast, Nat.zero_add, Nat.mul_one, ll, fit, List.cons_append, List.nil_append, pu]
  obtain ⟨us, hus⟩ : ∃ us, us = vs.set i (.ms 1 hh.length 0 C) := ⟨_, rfl⟩
  have lu : us.length = T := by rw [hus, List.length_set]; exact lv
  have ui : us.getD i .undef = .ms 1 hh.length 0 C := by
    rw [hus, List.getD_eq_getElem?_getD, List.getElem?_set_self (by omega)]; rfl
  have uj : ∀ j, j < i → us.getD j .undef = vs.getD j .undef := fun j hj => by
    rw [hus, List.getD_eq_getElem?_getD, List.getElem?_set_ne (by omega), ← List.getD_eq_getElem?_getD]
  have uh : (us.drop i).head? = some (.ms 1 hh.length 0 C) := by
    rw [List.head?_drop]
    rw [List.getD_eq_getElem?_getD] at ui
    have : us[i]? = some (us[i]'(by omega)) := List.getElem?_eq_getElem (by omega)
    rw [this] at ui ⊢
    exact congrArg some ui
  rw [← hus]
  obtain ⟨h2, hh2⟩ : ∃ h2 : List AO, h2 = (hh ++ [AO.cells (List.replicate C (I 0)) false]).set h.length (.cells us false) := ⟨_, rfl⟩
  rw [← hh2]
  have l2 : h2.length = hh.length + 1 := by rw [hh2]; simp
  have k2 : ∀ j, j < h.length → h2[j]? = h[j]? := fun j hj => by rw [hh2, List.getElem?_set_ne (by omega), at_ap (by omega)]; exact fr j hj
  have o2 : h2[h.length]? = some (.cells us false) := by rw [hh2, List.getElem?_set_self (by simp; omega)]
  have r2 : h2[hh.length]? = some (.cells (List.replicate C (I 0)) false) := by rw [hh2, List.getElem?_set_ne (by omega), atT0]; rfl
  have j2 : ∀ j, j < i → h2[h.length + 1 + j]? = some (.cells ((rowG C x j).flatMap intL) false) := fun j hj => by rw [hh2, List.getElem?_set_ne (by omega), at_ap (by omega)]; exact (hr j hj).2
  have k3 : h2[k]? = some (.cells (wc C T o w B) false) := by rw [k2 k kl]; exact hk
  simp (disch := first | assumption | omega | (simp only [az]; done)) only [ru, eq_self, if_true, if_false, BEq.rfl, binI, AO.row?, splice, fillL, mmAll, loadV, storeV, zeros, Am.rowAt, Am.part, addOff, Nat.reduceAdd, Nat.reduceMul, Nat.reduceLeDiff, Nat.reduceSub, Nat.reduceLT, Int.reduceEq, Int.reduceLT, Int.reduceLE, Int.reduceGT, Int.reduceGE, Int.reduceAdd, Int.reduceSub, Int.reduceMul, Int.reduceNeg, Int.reduceToNat, reduceCtorEq, reduceIte, i0, o2, Int.toNat_natCast, Nat.zero_add, Nat.mul_one, hlt, uh]
  clear hl' q0 q3 q13 q14
  refine G_loop_ind (fun m ts h3 mk => ∃ (c : Nat) (ps : List AV), c ≤ C ∧ m = C - c ∧ ts.length = 53 ∧ ts.getD 0 .undef = .ptr k 0 ∧ ts.getD 3 .undef = .ms 1 h.length 0 T ∧ ts.getD 4 .undef = I i ∧ ts.getD 13 .undef = I T ∧ ts.getD 14 .undef = I i ∧ ts.getD 30 .undef = I C ∧ ts.getD 31 .undef = I c ∧
    h3 = h2.set hh.length (.cells ps false) ∧ ps.length = C ∧ (∀ j, j < c → ps.getD j .undef = I (gap C x i j)) ∧ mk = []) ?_ _ _ _ _
    ⟨0, List.replicate C (I 0), Nat.zero_le _, rfl, rfl, rfl, rfl, rfl, rfl, rfl, rfl, rfl, ?_, by simp, fun j hj => absurd hj (by omega), rfl⟩
  case refine_2 => rw [set_self r2]
  rintro m ts h3 mk ihC ⟨c, ps, hc, rfl, hl', q0, q3, q4, q13, q14, q30, q31, rfl, lp, hp, rfl⟩
  rw [lit_all hl']
  simp only [lit0, litS, Nat.reduceAdd, q0, q3, q4, q13, q14, q30, q31]
  simp (disch := first | assumption | omega | (simp only [az]; done)) only [ru, eq_self, if_true, if_false, BEq.rfl, binI, AO.row?, splice, fillL, mmAll, loadV, storeV, zeros, Am.rowAt, Am.part, addOff, Nat.reduceAdd, Nat.reduceMul, Nat.reduceLeDiff, Nat.reduceSub, Nat.reduceLT, Int.reduceEq, Int.reduceLT, Int.reduceLE, Int.reduceGT, Int.reduceGE, Int.reduceAdd, Int.reduceSub, Int.reduceMul, Int.reduceNeg, Int.reduceToNat, reduceCtorEq, reduceIte]
  by_cases hlc : (c : Int) < C
  case neg =>
    have hc3 : c = C := by omega
    simp (disch := first | assumption | omega | (simp only [az]; done)) only [ru, eq_self, if_true, if_false, BEq.rfl, binI, AO.row?, splice, fillL, mmAll, loadV, storeV, zeros, Am.rowAt, Am.part, addOff, Nat.reduceAdd, Nat.reduceMul, Nat.reduceLeDiff, Nat.reduceSub, Nat.reduceLT, Int.reduceEq, Int.reduceLT, Int.reduceLE, Int.reduceGT, Int.reduceGE, Int.reduceAdd, Int.reduceSub, Int.reduceMul, Int.reduceNeg, Int.reduceToNat, reduceCtorEq, reduceIte, hlc]
    refine ih (T - (i + 1)) _ _ _ (by omega) ⟨i + 1, us, by omega, rfl, rfl, rfl, rfl, rfl, rfl, by rw [List.length_set, l2, lh]; omega, fun j hj => ?_, ?_, lu, fun j hj => ?_, rfl⟩
    · rw [List.getElem?_set_ne (by omega)]; exact k2 j hj
    · rw [List.getElem?_set_ne (by omega)]; exact o2
    · by_cases e : j = i
      · subst e
        refine ⟨by rw [ui, lh], ?_⟩
        rw [← lh, List.getElem?_set_self (by omega)]
        have : ps = (rowG C x j).flatMap intL := by
          apply List.ext_getElem
          · rw [flat1, rowG_len, lp]
          · intro n h1 h2'
            have a := hp n (by omega)
            rw [List.getD_eq_getElem?_getD, List.getElem?_eq_getElem h1, Option.getD_some] at a
            rw [a]
            have e2 : (rowG C x j).flatMap intL = (rowG C x j).map fun n => I n := by
              generalize rowG C x j = l
              induction l with
              | nil => rfl
              | cons b l ih => rw [List.flatMap_cons, ih]; rfl
            have e3 : (rowG C x j).flatMap intL = (List.range C).map fun c => I (gap C x j c) := by rw [e2, rowG, List.map_map]; rfl
            simp only [e3, List.getElem_map, List.getElem_range]
        rw [this]
      · obtain ⟨a, b⟩ := hr j (by omega)
        refine ⟨by rw [uj j (by omega)]; exact a, ?_⟩
        rw [List.getElem?_set_ne (by omega)]; exact j2 j (by omega)
  have c0 : (0 : Int) ≤ c := by omega
  have kp : (h2.set hh.length (.cells ps false))[k]? = some (.cells (wc C T o w B) false) := by rw [List.getElem?_set_ne (by omega)]; exact k3
  have op : (h2.set hh.length (.cells ps false))[h.length]? = some (.cells us false) := by rw [List.getElem?_set_ne (by omega)]; exact o2
  have pp : (h2.set hh.length (.cells ps false))[hh.length]? = some (.cells ps false) := by rw [List.getElem?_set_self (by omega)]
  have a1 := s99 kp hB hC (i := i) (c := c) (by omega) (by omega)
  have a2 := s99 kp hB hC (i := i) (c := c + 1) (by omega) (by omega)
  have b1 := xb (sumN C i c) (sumN_lt (ch := C) (by omega) (by omega) (by omega))
  have b2 := xb (sumN C i (c + 1)) (sumN_lt (ch := C) (by omega) (by omega) (by omega))
  rw [xe] at a1 a2
  have a2' : Ro E 99 [.ptr k 0, I i, I ((c : Int) + 1)] (h2.set hh.length (.cells ps false)) = some (I (x (sumN C i (c + 1)))) := a2
  have w1 : wr .i64 (x (sumN C i c) - x (sumN C i (c + 1))) = gap C x i c := by rw [wr64 (by omega) (by omega)]; rfl
  have pu2 := put1 (l := ps) (i := c) (by omega) (I (gap C x i c))
  have fit2 : c + 1 ≤ ps.length := by omega
  have ll2 : lim ≤ hh.length := by omega
  simp (disch := first | assumption | omega | (simp only [az]; done)) only [ru, eq_self, if_true, if_false, BEq.rfl, binI, AO.row?, splice, fillL, mmAll, loadV, storeV, zeros, Am.rowAt, Am.part, addOff, Nat.reduceAdd, Nat.reduceMul, Nat.reduceLeDiff, Nat.reduceSub, Nat.reduceLT, Int.reduceEq, Int.reduceLT, Int.reduceLE, Int.reduceGT, Int.reduceGE, Int.reduceAdd, Int.reduceSub, Int.reduceMul, Int.reduceNeg, Int.reduceToNat, reduceCtorEq, reduceIte, hlc, hlt, i0, c0, op, uh, kp, pp, a1, a2', w1, Int.toNat_natCast, Nat.zero_add, Nat.mul_one, fit2, ll2, List.cons_append, List.nil_append, pu2]
  refine ihC (C - (c + 1)) _ _ _ (by omega) ⟨c + 1, _, by omega, rfl, rfl, rfl, rfl, rfl, rfl, rfl, rfl, rfl, by rw [List.set_set], by rw [List.length_set]; exact lp, fun j hj => ?_, rfl⟩
  by_cases e : j = c
  · subst e
    rw [List.getD_eq_getElem?_getD, List.getElem?_set_self (by omega)]; rfl
  · rw [List.getD_eq_getElem?_getD, List.getElem?_set_ne (by omega), ← List.getD_eq_getElem?_getD]
    exact hp j (by omega)

/-- Truth -/
inductive TruA (t : Trap) : AV → Int → Prop
  | bad (h : t.valid = false) : TruA t .nils 10
  | none (h : t.valid = true) (hn : ¬ Solv t.C t.T t) : TruA t .nils 3
  | ok {x : Nat → Int} (h : t.valid = true) (hx : Tr t x) : TruA t (slV 1 Ls.e (numL t.C t.T x)) 0
theorem cpL_num {C T : Nat} {x : Nat → Int} : cpL (numL C T x) = numL C T x := by
  simp [cpL, numL, Ls.of_list]
theorem s33 {t : Trap} {o w : AV} (H : TrOk t o w) : ∃ v e, (∀ st, Iso E 33 [trV t o w] st = some (.tup [v, I e])) ∧ TruA t v e := by
  obtain ⟨p, e, K, q, hs⟩ := call73 H true [.cells [I t.ch, I t.tm, o, w] false]
  simp only [trV] at q ⊢
  cases hs with
  | bad hv =>
    refine ⟨.nils, 10, fun st => ?_, .bad hv⟩
    refine Iso_of (es _ _ _ _) e33 ?_
    simp only [f33]
    simp (disch := first | assumption | omega | (simp only [az]; done)) only [ru, eq_self, if_true, if_false, BEq.rfl, binI, AO.row?, splice, fillL, mmAll, loadV, storeV, zeros, Am.rowAt, Am.part, addOff, Nat.reduceAdd, Nat.reduceMul, Nat.reduceLeDiff, Nat.reduceSub, Nat.reduceLT, Int.reduceEq, Int.reduceLT, Int.reduceLE, Int.reduceGT, Int.reduceGE, Int.reduceAdd, Int.reduceSub, Int.reduceMul, Int.reduceNeg, Int.reduceToNat, reduceCtorEq, reduceIte, lenV_sl H.o, lenV_sl H.w, elem_sl Ls.el H.o, elem_sl Wd.el H.w, view_sl H.o, view_sl H.w, scalar_sl H.o, scalar_sl H.w, cells_sl H.o, cells_sl H.w, pure_sl H.o, pure_sl H.w, Int.toNat_natCast]
    rw [q rfl rfl]
    simp (disch := first | assumption | omega | (simp only [az]; done)) only [ru, eq_self, if_true, if_false, BEq.rfl, binI, AO.row?, splice, fillL, mmAll, loadV, storeV, zeros, Am.rowAt, Am.part, addOff, Nat.reduceAdd, Nat.reduceMul, Nat.reduceLeDiff, Nat.reduceSub, Nat.reduceLT, Int.reduceEq, Int.reduceLT, Int.reduceLE, Int.reduceGT, Int.reduceGE, Int.reduceAdd, Int.reduceSub, Int.reduceMul, Int.reduceNeg, Int.reduceToNat, reduceCtorEq, reduceIte, lenV_sl H.o, lenV_sl H.w, elem_sl Ls.el H.o, elem_sl Wd.el H.w, view_sl H.o, view_sl H.w, scalar_sl H.o, scalar_sl H.w, cells_sl H.o, cells_sl H.w, pure_sl H.o, pure_sl H.w, Int.toNat_natCast, List.cons_append, List.nil_append]
  | arg hv hf => cases hf
  | none hv hf hn =>
    refine ⟨.nils, 3, fun st => ?_, .none hv hn⟩
    refine Iso_of (es _ _ _ _) e33 ?_
    simp only [f33]
    simp (disch := first | assumption | omega | (simp only [az]; done)) only [ru, eq_self, if_true, if_false, BEq.rfl, binI, AO.row?, splice, fillL, mmAll, loadV, storeV, zeros, Am.rowAt, Am.part, addOff, Nat.reduceAdd, Nat.reduceMul, Nat.reduceLeDiff, Nat.reduceSub, Nat.reduceLT, Int.reduceEq, Int.reduceLT, Int.reduceLE, Int.reduceGT, Int.reduceGE, Int.reduceAdd, Int.reduceSub, Int.reduceMul, Int.reduceNeg, Int.reduceToNat, reduceCtorEq, reduceIte, lenV_sl H.o, lenV_sl H.w, elem_sl Ls.el H.o, elem_sl Wd.el H.w, view_sl H.o, view_sl H.w, scalar_sl H.o, scalar_sl H.w, cells_sl H.o, cells_sl H.w, pure_sl H.o, pure_sl H.w, Int.toNat_natCast]
    rw [q rfl rfl]
    simp (disch := first | assumption | omega | (simp only [az]; done)) only [ru, eq_self, if_true, if_false, BEq.rfl, binI, AO.row?, splice, fillL, mmAll, loadV, storeV, zeros, Am.rowAt, Am.part, addOff, Nat.reduceAdd, Nat.reduceMul, Nat.reduceLeDiff, Nat.reduceSub, Nat.reduceLT, Int.reduceEq, Int.reduceLT, Int.reduceLE, Int.reduceGT, Int.reduceGE, Int.reduceAdd, Int.reduceSub, Int.reduceMul, Int.reduceNeg, Int.reduceToNat, reduceCtorEq, reduceIte, lenV_sl H.o, lenV_sl H.w, elem_sl Ls.el H.o, elem_sl Wd.el H.w, view_sl H.o, view_sl H.w, scalar_sl H.o, scalar_sl H.w, cells_sl H.o, cells_sl H.w, pure_sl H.o, pure_sl H.w, Int.toNat_natCast, List.cons_append, List.nil_append]
  | @ok B hv hf hk hB hs =>
    have V := valid_trb hv
    have v2 := V.c1; have v4 := V.t1
    have eC := eqC hv; have eT := eqT hv
    obtain ⟨v, h', c83, S⟩ := r83 (lim := 0) hk hB (by omega) (by omega) (Nat.zero_le _)
    have vw := fun st => S.view 5 st
    rw [cpL_num] at vw
    simp only [List.cons_append, List.nil_append, List.length_cons, List.length_nil, Nat.zero_add, Nat.reduceAdd] at c83
    refine ⟨_, 0, fun st => ?_, .ok hv ((hs _).1 (leastSat hB.cld (by omega)))⟩
    refine Iso_of (es _ _ _ _) e33 ?_
    simp only [f33]
    simp (disch := first | assumption | omega | (simp only [az]; done)) only [ru, eq_self, if_true, if_false, BEq.rfl, binI, AO.row?, splice, fillL, mmAll, loadV, storeV, zeros, Am.rowAt, Am.part, addOff, Nat.reduceAdd, Nat.reduceMul, Nat.reduceLeDiff, Nat.reduceSub, Nat.reduceLT, Int.reduceEq, Int.reduceLT, Int.reduceLE, Int.reduceGT, Int.reduceGE, Int.reduceAdd, Int.reduceSub, Int.reduceMul, Int.reduceNeg, Int.reduceToNat, reduceCtorEq, reduceIte, lenV_sl H.o, lenV_sl H.w, elem_sl Ls.el H.o, elem_sl Wd.el H.w, view_sl H.o, view_sl H.w, scalar_sl H.o, scalar_sl H.w, cells_sl H.o, cells_sl H.w, pure_sl H.o, pure_sl H.w, Int.toNat_natCast]
    rw [q rfl rfl]
    simp (disch := first | assumption | omega | (simp only [az]; done)) only [ru, eq_self, if_true, if_false, BEq.rfl, binI, AO.row?, splice, fillL, mmAll, loadV, storeV, zeros, Am.rowAt, Am.part, addOff, Nat.reduceAdd, Nat.reduceMul, Nat.reduceLeDiff, Nat.reduceSub, Nat.reduceLT, Int.reduceEq, Int.reduceLT, Int.reduceLE, Int.reduceGT, Int.reduceGE, Int.reduceAdd, Int.reduceSub, Int.reduceMul, Int.reduceNeg, Int.reduceToNat, reduceCtorEq, reduceIte, lenV_sl H.o, lenV_sl H.w, elem_sl Ls.el H.o, elem_sl Wd.el H.w, view_sl H.o, view_sl H.w, scalar_sl H.o, scalar_sl H.w, cells_sl H.o, cells_sl H.w, pure_sl H.o, pure_sl H.w, Int.toNat_natCast, List.cons_append, List.nil_append, c83, vw]
end Go.Proofs.Ytjaaefdhdggnkaa.S

/-
The examples of the chapter come out as it says: works.
-/
namespace Go.Proofs.Ytjaaefdhdggnkaa.S
open Go Go.Am Go.Proofs.Ytjaaefdhdggnkaa.T
set_option maxRecDepth 100000
set_option linter.unusedSimpArgs false
set_option linter.unusedVariables false

theorem s71 (a b c d : Int) (st : Bool) : Iso E 71 [I a, I b, I c, I d] st = some (.agg [I a, I b, I c, I d]) := by
  refine Iso_of (es _ _ _ _) e71 ?_
  simp only [f71]
  simp (disch := first | assumption | omega | (simp only [az]; done)) only [ru, eq_self, if_true, if_false, BEq.rfl, binI, AO.row?, splice, fillL, mmAll, loadV, storeV, zeros, Am.rowAt, Am.part, addOff, Nat.reduceAdd, Nat.reduceMul, Nat.reduceLeDiff, Nat.reduceSub, Nat.reduceLT, Int.reduceEq, Int.reduceLT, Int.reduceLE, Int.reduceGT, Int.reduceGE, Int.reduceAdd, Int.reduceSub, Int.reduceMul, Int.reduceNeg, Int.reduceToNat, reduceCtorEq, reduceIte, finC, getRes, Option.some.injEq, exists_eq_left']
theorem add_ok {t : Trap} {o w : AV} (H : TrOk t o w) (h : t.ws.length ≤ 39) (y : Wd) : TrOk (t.add y).cp (cpO (t.add y).op) (slV 4 Wd.e (t.add y).ws) :=
  TrOk.cpv (o := o) (w := slV 4 Wd.e (t.add y).ws) ⟨H.o, slV_is, H.so, by simp [Trap.add]; omega, H.sl⟩

def T0 : Trap := ⟨2, 3, [⟨[0, 1], false⟩, ⟨[1], false⟩], [⟨0, 0, 5, 6⟩, ⟨0, 1, 0, 0⟩, ⟨1, 0, 3, 8⟩, ⟨2, 1, 4, 10⟩]⟩
def o0 : AV := .cs 1 2 [.cs 1 2 [I 0, I 1], .cs 1 1 [I 1]]
def w0 : AV := .cs 4 4 [I 0, I 0, I 5, I 6, I 0, I 1, I 0, I 0, I 1, I 0, I 3, I 8, I 2, I 1, I 4, I 10]
def y0 : Wd := ⟨1, 1, 12, 20⟩
theorem ok0 : TrOk T0 o0 w0 := ⟨.inl rfl, .inl rfl, by decide, by decide, by decide⟩
theorem val0 : T0.valid = true := by decide
theorem valQ : (T0.add y0).valid = true := by decide
set_option maxHeartbeats 1000000 in
theorem s70 : Iso E 70 [] false = some (.tup [trV T0 o0 w0, cpV (T0.add y0)]) := by
  have c := s35 ok0 (by decide) y0 false
  obtain ⟨Q, hQ⟩ : ∃ Q, Q = cpV (T0.add y0) := ⟨_, rfl⟩
  have Qc : Q.cells = [I 2, I 3, cpO (T0.add y0).op, slV 4 Wd.e (T0.add y0).ws] := by rw [hQ]; rfl
  have Qe : Q = .agg [I 2, I 3, cpO (T0.add y0).op, slV 4 Wd.e (T0.add y0).ws] := by rw [hQ]; rfl
  rw [← hQ] at c ⊢
  have c' : Iso E 35 [.agg [I 2, I 3, .cs 1 2 [.cs 1 2 [I 0, I 1], .cs 1 1 [I 1]], .cs 4 4 [I 0, I 0, I 5, I 6, I 0, I 1, I 0, I 0, I 1, I 0, I 3, I 8, I 2, I 1, I 4, I 10]], .agg [I 1, I 1, I 12, I 20]] false = some Q := c
  refine Iso_of (es _ _ _ _) e70 ?_
  simp only [f70]
  simp (disch := first | assumption | omega | (simp only [az]; done)) only [ru, eq_self, if_true, if_false, BEq.rfl, binI, AO.row?, splice, fillL, mmAll, loadV, storeV, zeros, Am.rowAt, Am.part, addOff, Nat.reduceAdd, Nat.reduceMul, Nat.reduceLeDiff, Nat.reduceSub, Nat.reduceLT, Int.reduceEq, Int.reduceLT, Int.reduceLE, Int.reduceGT, Int.reduceGE, Int.reduceAdd, Int.reduceSub, Int.reduceMul, Int.reduceNeg, Int.reduceToNat, reduceCtorEq, reduceIte, s71, c', Qc, cpo_sc, slV_sc, Bool.and_self]
  rw [finG (vs := [trV T0 o0 w0, Q]) (by
    simp only [List.mapM_cons, List.mapM_nil, Qe]; rfl)]
  show view false _ 8 (.tup [_, Q]) = _
  rw [Qe]
  simp only [view_tup, view_agg, List.mapM_cons, List.mapM_nil, view_int, cpo_vi, slV_vi, o0, w0, view_cs]
  rfl

/-! its truths -/
theorem T0_tr {x : Nat → Int} (h : Tr T0 x) : (5 ≤ x 1 - x 2 ∧ x 1 - x 2 ≤ 6) ∧ x 2 - x 0 = 0 ∧ (3 ≤ x 5 - x 6 ∧ x 5 - x 6 ≤ 8) ∧ (0 ≤ x 6 - x 0 ∧ x 6 - x 0 ≤ 40) ∧ (0 ≤ x 9 - x 10 ∧ x 9 - x 10 ≤ 40) ∧ (4 ≤ x 10 - x 0 ∧ x 10 - x 0 ≤ 10) ∧ 0 ≤ x 5 - x 1 ∧ 0 ≤ x 6 - x 2 ∧ x 9 - x 5 = 0 ∧ 0 ≤ x 10 - x 6 := by
  have A : AllS 2 3 T0 x := h.2
  have w1 : (5 : Int) ≤ x 1 - x 2 ∧ x 1 - x 2 ≤ 6 := A.w 0 (by decide)
  have w2 : (0 : Int) ≤ x 2 - x 0 ∧ x 2 - x 0 ≤ 0 := A.w 1 (by decide)
  have w3 : (3 : Int) ≤ x 5 - x 6 ∧ x 5 - x 6 ≤ 8 := A.w 2 (by decide)
  have w4 : (4 : Int) ≤ x 10 - x 0 ∧ x 10 - x 0 ≤ 10 := A.w 3 (by decide)
  have f1 : 0 ≤ x 6 - x 0 ∧ x 6 - x 0 ≤ 40 := A.f 1 1 (by decide) (by decide)
  have f2 : 0 ≤ x 9 - x 10 ∧ x 9 - x 10 ≤ 40 := A.f 2 0 (by decide) (by decide)
  have m1 : 0 ≤ x 5 - x 1 ∧ x 5 - x 1 ≤ 40 := A.m 0 0 (by decide) (by decide)
  have m2 : 0 ≤ x 6 - x 2 ∧ x 6 - x 2 ≤ 40 := A.m 0 1 (by decide) (by decide)
  have m3 : 0 ≤ x 9 - x 5 ∧ x 9 - x 5 ≤ 0 := A.m 1 0 (by decide) (by decide)
  have m4 : 0 ≤ x 10 - x 6 ∧ x 10 - x 6 ≤ 40 := A.m 1 1 (by decide) (by decide)
  refine ⟨w1, by omega, w3, f1, f2, w4, by omega, by omega, by omega, by omega⟩
def mkX (a b c d e f : Int) : Nat → Int
  | 1 => a | 2 => b | 5 => c | 6 => d | 9 => e | 10 => f | _ => 0
theorem T0_mk {a b c d e f : Int} (h1 : 5 ≤ a ∧ a ≤ 6) (h2 : b = 0) (h3 : 3 ≤ c - d ∧ c - d ≤ 8) (h4 : 0 ≤ d ∧ d ≤ f) (h5 : e = c) (h6 : f ≤ e) (h7 : 4 ≤ f ∧ f ≤ 10) (h8 : a ≤ c) : Tr T0 (mkX a b c d e f) := by
  have bd : ∀ k, 0 ≤ mkX a b c d e f k ∧ mkX a b c d e f k ≤ 40 := by
    intro k
    unfold mkX
    split <;> omega
  refine ⟨sat_wid.2 ⟨fun k l _ _ _ => by have := bd k; have := bd l; omega, fun l _ => by have := bd l; show (0 : Int) ≤ _; omega⟩, ?_⟩
  show AllS 2 3 T0 _
  refine ⟨fun i j hi hj => ?_, fun i j hi hj => ?_, fun k hk => ?_⟩
  · have : (i = 0 ∨ i = 1 ∨ i = 2) ∧ (j = 0 ∨ j = 1) := by omega
    obtain ⟨rfl | rfl | rfl, rfl | rfl⟩ := this
    · show 0 ≤ a - b ∧ a - b ≤ 40; omega
    · show 0 ≤ b - 0 ∧ b - 0 ≤ 40; omega
    · show 0 ≤ c - d ∧ c - d ≤ 40; omega
    · show 0 ≤ d - 0 ∧ d - 0 ≤ 40; omega
    · show 0 ≤ e - f ∧ e - f ≤ 40; omega
    · show 0 ≤ f - 0 ∧ f - 0 ≤ 40; omega
  · have hi' : i < 2 := hi
    have : (i = 0 ∨ i = 1) ∧ (j = 0 ∨ j = 1) := by omega
    obtain ⟨rfl | rfl, rfl | rfl⟩ := this
    · show 0 ≤ c - a ∧ c - a ≤ 40; omega
    · show 0 ≤ d - b ∧ d - b ≤ 40; omega
    · show 0 ≤ e - c ∧ e - c ≤ 0; omega
    · show 0 ≤ f - d ∧ f - d ≤ 40; omega
  · have hk' : k < 4 := hk
    have : k = 0 ∨ k = 1 ∨ k = 2 ∨ k = 3 := by omega
    obtain rfl | rfl | rfl | rfl := this
    · show 5 ≤ a - b ∧ a - b ≤ 6; omega
    · show 0 ≤ b - 0 ∧ b - 0 ≤ 0; omega
    · show 3 ≤ c - d ∧ c - d ≤ 8; omega
    · show 4 ≤ f - 0 ∧ f - 0 ≤ 10; omega
def xA : Nat → Int := mkX 5 0 5 0 5 4
def xB : Nat → Int := mkX 5 0 18 10 18 10
def xC : Nat → Int := mkX 5 0 10 2 10 10
def xD : Nat → Int := mkX 5 0 11 3 11 10
theorem tA : Tr T0 xA := T0_mk (by omega) rfl (by omega) (by omega) rfl (by omega) (by omega) (by omega)
theorem tB : Tr T0 xB := T0_mk (by omega) rfl (by omega) (by omega) rfl (by omega) (by omega) (by omega)
theorem tC : Tr T0 xC := T0_mk (by omega) rfl (by omega) (by omega) rfl (by omega) (by omega) (by omega)
theorem tD : Tr T0 xD := T0_mk (by omega) rfl (by omega) (by omega) rfl (by omega) (by omega) (by omega)
theorem solv0 : Solv T0.C T0.T T0 := ⟨xA, tA⟩
theorem solvQ : ¬ Solv (T0.add y0).C (T0.add y0).T (T0.add y0) := by
  rintro ⟨x, hx⟩
  have h := tr_add.1 (show Tr (T0.add y0) x from hx)
  have a := T0_tr h.1
  have b : 12 ≤ x 6 - x 0 ∧ x 6 - x 0 ≤ 20 := h.2
  omega
theorem w32 (st : Bool) : Iso E 32 [trV T0 o0 w0, I 2, I 1] st = some (.tup [.agg [I 4, I 10], I 0]) := by
  obtain ⟨lo, hi, e, h, A⟩ := s32 ok0 2 1
  have B : Ans T0 (placeB T0 2 1) (fun x => gap T0.C x (2 : Int).toNat (1 : Int).toNat) 4 10 0 := .ok val0 (by decide) solv0 (tr_xt (fun x hx => by
    have a := T0_tr hx
    show 4 ≤ x 10 - x 0 ∧ x 10 - x 0 ≤ 10
    omega) ⟨xA, tA, rfl⟩ ⟨xB, tB, rfl⟩)
  obtain ⟨rfl, rfl, rfl⟩ := A.uniq B
  exact h st
theorem w23 (st : Bool) : Iso E 23 [trV T0 o0 w0, I 2] st = some (.tup [.agg [I 5, I 18], I 0]) := by
  obtain ⟨lo, hi, e, h, A⟩ := s23 ok0 2
  have B : Ans T0 (timeB T0 2) (fun x => x (sumN T0.C (2 : Int).toNat 0) - x 0) 5 18 0 := .ok val0 (by decide) solv0 (tr_xt (fun x hx => by
    have a := T0_tr hx
    show 5 ≤ x 9 - x 0 ∧ x 9 - x 0 ≤ 18
    omega) ⟨xA, tA, rfl⟩ ⟨xB, tB, rfl⟩)
  obtain ⟨rfl, rfl, rfl⟩ := A.uniq B
  exact h st
theorem w27 (st : Bool) : Iso E 27 [trV T0 o0 w0, I 1, I 1] st = some (.tup [.agg [I 0, I 8], I 0]) := by
  obtain ⟨lo, hi, e, h, A⟩ := s27 ok0 1 1
  have B : Ans T0 (stepB T0 1 1) (fun x => flow T0.C x (1 : Int).toNat (1 : Int).toNat) 0 8 0 := .ok val0 (by decide) solv0 (tr_xt (fun x hx => by
    have a := T0_tr hx
    show 0 ≤ x 10 - x 6 ∧ x 10 - x 6 ≤ 8
    omega) ⟨xB, tB, rfl⟩ ⟨xC, tC, rfl⟩)
  obtain ⟨rfl, rfl, rfl⟩ := A.uniq B
  exact h st
theorem w29 (st : Bool) : Iso E 29 [trV T0 o0 w0, .agg [I 0, I 0, I 7, I 9]] st = some (.tup [I 2, I 0]) := by
  obtain ⟨v, e, h, A⟩ := s29 ok0 ⟨0, 0, 7, 9⟩
  have B : AnsG T0 (fitB T0 ⟨0, 0, 7, 9⟩) (fun e => ((0 : Int), e)) (fun r => JudP T0 ⟨0, 0, 7, 9⟩ r.1 ∧ r.2 = 0) (2, 0) := .ok val0 (by decide) solv0 ⟨.inr (.inl ⟨rfl, fun x hx => by
    have a := T0_tr hx
    show ¬ (7 ≤ x 1 - x 2 ∧ x 1 - x 2 ≤ 9)
    omega⟩), rfl⟩
  have u := A.uniq (fun _ _ hs a b ha hb => by
    have := ha.1.uniq hs hb.1
    exact Prod.ext this (ha.2.trans hb.2.symm)) B
  obtain ⟨rfl, rfl⟩ := Prod.mk.injEq .. ▸ u
  exact h st
theorem w44 (st : Bool) : Iso E 44 [trV T0 o0 w0, I 4] st = some (.tup [.agg [I 1, I 2], I 0]) := by
  obtain ⟨a, b, e, h, A⟩ := s44 ok0 4
  have B : AnsG T0 (fishB 4) (fun e => ((0 : Int), (0 : Int), e)) (EnP T0 4) (1, 2, 0) := .ok val0 (by decide) solv0 (.inl ⟨rfl, 1, 2, rfl, rfl, by omega, by decide, ⟨xB, tB, by decide⟩, fun i hi x hx => by
      obtain rfl : i = 0 := by omega
      have a := T0_tr hx
      show x 2 - x 0 < 4
      omega, fun x hx => by
      have a := T0_tr hx
      show 4 ≤ x 10 - x 0
      omega, fun i hi => ⟨xA, tA, by
      have : i = 0 ∨ i = 1 := by omega
      obtain rfl | rfl := this <;> decide⟩⟩)
  have u := A.uniq (fun _ _ _ a b ha hb => ha.uniq hb) B
  simp only [Prod.mk.injEq] at u
  obtain ⟨rfl, rfl, rfl⟩ := u
  exact h st
theorem w48 (st : Bool) : Iso E 48 [trV T0 o0 w0, .agg [I 2, I 0]] st = some (.tup [I 6, I 0]) := by
  obtain ⟨v, e, h, A⟩ := s48 ok0 2 0
  have B : AnsG T0 (placeB T0 2 0) (fun e => ((0 : Int), e)) (fun r => TellP T0 (2 : Int).toNat (0 : Int).toNat r.1 ∧ r.2 = 0) (6, 0) := .ok val0 (by decide) solv0 ⟨⟨fun x y hx hy _ => by
      have a := T0_tr hx
      have b := T0_tr hy
      show (x 10 - x 0) - (y 10 - y 0) ≤ 6
      omega, xD, xA, tD, tA, rfl, rfl⟩, rfl⟩
  have u := A.uniq (fun _ _ hs a b ha hb => by
    have := ha.1.uniq hb.1
    exact Prod.ext this (ha.2.trans hb.2.symm)) B
  simp only [Prod.mk.injEq] at u
  obtain ⟨rfl, rfl⟩ := u
  exact h st
theorem w33 (st : Bool) : Iso E 33 [cpV (T0.add y0)] st = some (.tup [.nils, I 3]) := by
  have H := add_ok ok0 (by decide) y0
  obtain ⟨v, e, h, A⟩ := s33 H
  have hv : (T0.add y0).cp.valid = true := cp_valid.trans valQ
  cases A with
  | bad hb => rw [hv] at hb; cases hb
  | none _ _ => exact h st
  | @ok x _ hx => exact absurd ⟨x, tr_cp.1 hx⟩ solvQ

set_option maxHeartbeats 1000000 in
theorem s19 : Iso E 19 [] false = some (Bo true) := by
  have a := s70
  have b1 := fun st => w32 st
  have b2 := fun st => w23 st
  have b3 := fun st => w27 st
  have b4 := fun st => w29 st
  have b5 := fun st => w44 st
  have b6 := fun st => w48 st
  have b7 := fun st => w33 st
  obtain ⟨o, ho⟩ : ∃ o, o = o0 := ⟨_, rfl⟩
  obtain ⟨w, hw⟩ : ∃ w, w = w0 := ⟨_, rfl⟩
  have H : TrOk T0 o w := by rw [ho, hw]; exact ok0
  rw [← ho, ← hw] at a
  simp only [← ho, ← hw] at b1 b2 b3 b4 b5 b6
  have HQ := add_ok ok0 (by decide) y0
  have ho' := HQ.o
  have hw' := HQ.w
  obtain ⟨o', eo⟩ : ∃ o', o' = cpO (T0.add y0).op := ⟨_, rfl⟩
  obtain ⟨w', ew⟩ : ∃ w', w' = slV 4 Wd.e (T0.add y0).ws := ⟨_, rfl⟩
  rw [← eo] at ho'
  rw [← ew] at hw'
  have eQ : cpV (T0.add y0) = .agg [I 2, I 3, o', w'] := by rw [eo, ew]; rfl
  have eT : trV T0 o w = .agg [I 2, I 3, o, w] := rfl
  rw [eT, eQ] at a
  simp only [eT] at b1 b2 b3 b4 b5 b6
  simp only [eQ] at b7
  refine Iso_of (es _ _ _ _) e19 ?_
  simp only [f19]
  simp (disch := first | assumption | omega | (simp only [az]; done)) only [ru, eq_self, if_true, if_false, BEq.rfl, binI, AO.row?, splice, fillL, mmAll, loadV, storeV, zeros, Am.rowAt, Am.part, addOff, Nat.reduceAdd, Nat.reduceMul, Nat.reduceLeDiff, Nat.reduceSub, Nat.reduceLT, Int.reduceEq, Int.reduceLT, Int.reduceLE, Int.reduceGT, Int.reduceGE, Int.reduceAdd, Int.reduceSub, Int.reduceMul, Int.reduceNeg, Int.reduceToNat, reduceCtorEq, reduceIte, a, b1, b2, b3, b4, b5, b6, b7, s71, lenV_sl H.o, lenV_sl H.w, elem_sl Ls.el H.o, elem_sl Wd.el H.w, view_sl H.o, view_sl H.w, scalar_sl H.o, scalar_sl H.w, cells_sl H.o, cells_sl H.w, pure_sl H.o, pure_sl H.w, Int.toNat_natCast, lenV_sl ho', elem_sl Ls.el ho', view_sl ho', scalar_sl ho', cells_sl ho', pure_sl ho', lenV_sl hw', elem_sl Wd.el hw', view_sl hw', scalar_sl hw', cells_sl hw', pure_sl hw']
end Go.Proofs.Ytjaaefdhdggnkaa.S

/-
The inputs of the laws of stage 1, as the abstract machine has them.
-/
namespace Go.Proofs.Ytjaaefdhdggnkaa.S
open Go Go.Am Go.Proofs.Ytjaaefdhdggnkaa.T
set_option linter.unusedVariables false
set_option maxRecDepth 100000

theorem z3 : Try.prog.cellsOf 3 = 1 := by kernel_rfl
theorem z22 : Try.prog.cellsOf 22 = 1 := by kernel_rfl
theorem z23 : Try.prog.cellsOf 23 = 1 := by kernel_rfl
theorem z25 : Try.prog.cellsOf 25 = 4 := by kernel_rfl
theorem z27 : Try.prog.cellsOf 27 = 4 := by kernel_rfl
theorem z45 : Try.prog.cellsOf 45 = 1 := by kernel_rfl
theorem wfIc {d : Nat} {c : List AV} (h : WfC Try.prog (d + 1) 3 c) : ∃ i, c = [I i] ∧ True := by
  obtain ⟨i, e, hw⟩ := wf_int Try.underlying3 h
  exact ⟨i, e, trivial⟩
theorem wfI {d : Nat} {a : AV} (h : WfC Try.prog (d + 1) 3 [a]) : ∃ i, a = I i ∧ True := by
  obtain ⟨i, e, _⟩ := wfIc h
  simp only [List.cons.injEq, and_true] at e
  exact ⟨i, e, trivial⟩
theorem wfWd {d : Nat} {c : List AV} (h : WfC Try.prog (d + 2) 27 c) : ∃ s : Wd, c = s.e ∧ True := by
  obtain ⟨hl, hf⟩ := wf_struct Try.underlying27 h
  rw [z27] at hl
  match c, hl with
  | [x, y, z, u], _ =>
    have h0 : WfC Try.prog (d + 1) 3 (([x, y, z, u].drop 0).take (Try.prog.cellsOf 3)) := hf 0 _ rfl
    have h1 : WfC Try.prog (d + 1) 3 (([x, y, z, u].drop 1).take (Try.prog.cellsOf 3)) := hf 1 _ rfl
    have h2 : WfC Try.prog (d + 1) 3 (([x, y, z, u].drop 2).take (Try.prog.cellsOf 3)) := hf 2 _ rfl
    have h3 : WfC Try.prog (d + 1) 3 (([x, y, z, u].drop 3).take (Try.prog.cellsOf 3)) := hf 3 _ rfl
    rw [z3] at h0 h1 h2 h3
    obtain ⟨i, rfl, _⟩ := wfI (show WfC Try.prog (d + 1) 3 [x] from h0)
    obtain ⟨j, rfl, _⟩ := wfI (show WfC Try.prog (d + 1) 3 [y] from h1)
    obtain ⟨k, rfl, _⟩ := wfI (show WfC Try.prog (d + 1) 3 [z] from h2)
    obtain ⟨l, rfl, _⟩ := wfI (show WfC Try.prog (d + 1) 3 [u] from h3)
    exact ⟨⟨i, j, k, l⟩, rfl, trivial⟩
theorem b3 : Try.prog.bytesOf 3 = 8 := by kernel_rfl
theorem b45 : Try.prog.bytesOf 45 = 24 := by kernel_rfl
theorem b27 : Try.prog.bytesOf 27 = 32 := by kernel_rfl
theorem wfLsZ {d : Nat} {c : List AV} (h : WfC Try.prog (d + 2) 45 c) : ∃ s : Ls, c = s.e ∧ s.list.length * 8 ≤ 140737488351232 := by
  obtain ⟨l, v, e, iv, hz, _⟩ := wf_sl (d := d + 1) (enc := intL) (p := fun _ => True) Try.underlying45 z3 (fun c hc => by obtain ⟨i, e, _⟩ := wfIc hc; exact ⟨i, e, trivial⟩) h
  rw [b3] at hz
  subst e
  rcases iv with rfl | ⟨rfl, rfl⟩
  · exact ⟨⟨l, false⟩, rfl, hz.2⟩
  · exact ⟨⟨[], true⟩, rfl, Nat.zero_le _⟩
/-- a trap of any size that an input can have -/
theorem wfTrapZ {d : Nat} {c : List AV} (h : WfC Try.prog (d + 4) 25 c) : ∃ (t : Trap) (o w : AV), AV.agg c = trV t o w ∧ TrIn t o w ∧ TrUp t o w := by
  obtain ⟨hl, hf⟩ := wf_struct Try.underlying25 h
  rw [z25] at hl
  match c, hl with
  | [x, y, z, u], _ =>
    have h0 : WfC Try.prog (d + 3) 3 (([x, y, z, u].drop 0).take (Try.prog.cellsOf 3)) := hf 0 _ rfl
    have h1 : WfC Try.prog (d + 3) 3 (([x, y, z, u].drop 1).take (Try.prog.cellsOf 3)) := hf 1 _ rfl
    have h2 : WfC Try.prog (d + 3) 22 (([x, y, z, u].drop 2).take (Try.prog.cellsOf 22)) := hf 2 _ rfl
    have h3 : WfC Try.prog (d + 3) 23 (([x, y, z, u].drop 3).take (Try.prog.cellsOf 23)) := hf 3 _ rfl
    rw [z3] at h0 h1
    rw [z22] at h2
    rw [z23] at h3
    obtain ⟨i, rfl, _⟩ := wfI (show WfC Try.prog (d + 2 + 1) 3 [x] from h0)
    obtain ⟨j, rfl, _⟩ := wfI (show WfC Try.prog (d + 2 + 1) 3 [y] from h1)
    obtain ⟨lo, o, e2, io, zo, po⟩ := wf_sl (d := d + 2) (enc := Ls.e) (p := fun s : Ls => s.list.length * 8 ≤ 140737488351232) Try.underlying22 z45 (fun c hc => wfLsZ hc) (show WfC Try.prog (d + 3) 22 [z] from h2)
    obtain ⟨lw, w, e3, iw, zw, _⟩ := wf_sl (d := d + 2) (enc := Wd.e) (p := fun _ => True) Try.underlying23 z27 (fun c hc => wfWd hc) (show WfC Try.prog (d + 3) 23 [u] from h3)
    rw [b45] at zo
    rw [b27] at zw
    simp only [List.cons.injEq, and_true] at e2 e3
    subst e2; subst e3
    exact ⟨⟨i, j, lo, lw⟩, z, u, rfl, ⟨io, iw⟩, ⟨io, iw, zo.2, zw.2, po⟩⟩
theorem own : ownKnob Try.prog.godebug = none := by kernel_rfl
theorem laid : laidOutB Try.prog = true := by kernel_rfl
def trapW : Value := .agg #[.int .i64 0, .int .i64 0, .slice none 0 0, .slice none 0 0]
def wordW : Value := .agg #[.int .i64 0, .int .i64 0, .int .i64 0, .int .i64 0]
end Go.Proofs.Ytjaaefdhdggnkaa.S

