/-
SaltTogether.
-/
import Derived.Test.YtcdedbpmjhjehaaSw
namespace Go.Proofs.Ytcdedbpmjhjehaa.S
open Go Go.Am Go.Proofs.Ytcdedbpmjhjehaa.T
set_option maxRecDepth 100000
set_option linter.unusedSimpArgs false
set_option linter.unusedVariables false

/-- two lists that are being made, apart -/
structure Two (g : List AO) (v w : AV) (l m : List Int) : Prop where
  a : OutE intL 1 1 g v l
  b : OutE intL 1 1 g w m
  n : ∀ o n o' n', v = .ms 1 o 0 n → w = .ms 1 o' 0 n' → o ≠ o'
theorem Two.swap {g : List AO} {v w : AV} {l m : List Int} (T : Two g v w l m) : Two g w v m l := ⟨T.b, T.a, fun o n o' n' h1 h2 => Ne.symm (T.n o' n' o n h2 h1)⟩
theorem Two.put {g : List AO} {v w : AV} {l m : List Int} (T : Two g v w l m) (h1 : 1 ≤ g.length) (hl : l.length ≤ 1000) (c : Int) :
    ∃ v' g', appV 0 g 1 8 v (.cs 1 1 [I c]) = some (v', g') ∧ Two g' v' w (l ++ [c]) m ∧ 1 ≤ g'.length ∧ g'[0]? = g[0]? := by
  rcases T.a with ⟨rfl, rfl⟩ | ⟨hne, o, ho, rfl, hc⟩
  · have A := appV_nil (lim := 0) (h := g) (esz := 1) (eb := 8) (n := 1) (x := .cs 1 1 [I c]) (xs := [I c]) rfl rfl rfl rfl (by omega) (by omega)
    rw [if_neg (by omega)] at A
    refine ⟨_, _, A, ⟨.inr ⟨by simp, g.length, h1, rfl, atE⟩, T.b.fr (Fr.app g _), ?_⟩, by simp, at_ap (by omega)⟩
    intro o n o' n' e1 e2
    cases e1
    rcases T.b with ⟨_, e⟩ | ⟨_, q, _, e, hq⟩
    · rw [e] at e2; cases e2
    · rw [e] at e2
      cases e2
      have := (List.getElem?_eq_some_iff.1 hq).1
      omega
  · have A := appV_ms (lim := 0) (esz := 1) (eb := 8) (n := 1) (x := .cs 1 1 [I c]) (xs := [I c]) hc (by rw [flat_len intE]) rfl rfl rfl rfl (by omega) (by omega) (Nat.zero_le _)
    rw [if_neg (by omega)] at A
    have ll : g.length = (g.set o .tomb).length := by simp
    refine ⟨_, _, A, ⟨.inr ⟨by simp, g.length, h1, by simp, ?_⟩, ?_, ?_⟩, by simp, ?_⟩
    · rw [ll, atE, List.flatMap_append]; rfl
    · rcases T.b with h2 | ⟨hne2, q, hq1, e, hq⟩
      · exact .inl h2
      · have hqo := T.n o l.length q m.length rfl e
        have := (List.getElem?_eq_some_iff.1 hq).1
        exact .inr ⟨hne2, q, hq1, e, by rw [at_ap (by simp; exact this), List.getElem?_set_ne hqo]; exact hq⟩
    · intro o1 n o' n' e1 e2
      cases e1
      rcases T.b with ⟨_, e⟩ | ⟨_, q, _, e, hq⟩
      · rw [e] at e2; cases e2
      · rw [e] at e2
        cases e2
        have := (List.getElem?_eq_some_iff.1 hq).1
        omega
    · rw [at_ap (by simp; omega), List.getElem?_set_ne (by omega)]
theorem ris_pair {l : List Int} {lo hi : Int} (h : risB l lo hi = true) : l.Pairwise (· < ·) ∧ ∀ c ∈ l, lo ≤ c ∧ c ≤ hi := by
  unfold risB at h
  rw [List.all_eq_true] at h
  have key : ∀ i, i < l.length → (lo ≤ l.getD i 0 ∧ l.getD i 0 ≤ hi) ∧ (i = 0 ∨ l.getD (i - 1) 0 < l.getD i 0) := fun i hi => by
    have := h i (List.mem_range.2 hi)
    rw [Bool.and_eq_true, Bool.or_eq_true, decide_eq_true_eq, decide_eq_true_eq] at this
    exact ⟨inR_iff.1 this.1, this.2⟩
  refine ⟨?_, fun c hc => ?_⟩
  · rw [List.pairwise_iff_getElem]
    have up : ∀ (d i : Nat), i + d + 1 < l.length → l.getD i 0 < l.getD (i + d + 1) 0 := by
      intro d
      induction d with
      | zero => intro i hi; have := (key (i + 1) (by omega)).2; simp at this; simpa using this
      | succ d ih =>
        intro i hi
        have h1 := ih i (by omega)
        have h2 := (key (i + d + 1 + 1) (by omega)).2
        simp only [Nat.add_sub_cancel] at h2
        have h3 : l.getD (i + d + 1) 0 < l.getD (i + d + 1 + 1) 0 := h2.resolve_left (by omega)
        have e : i + (d + 1) + 1 = i + d + 1 + 1 := by omega
        rw [e]
        omega
    intro i j hi hj hij
    have := up (j - i - 1) i (by omega)
    rw [show i + (j - i - 1) + 1 = j by omega] at this
    rw [List.getD_eq_getElem?_getD, List.getD_eq_getElem?_getD, List.getElem?_eq_getElem hi, List.getElem?_eq_getElem hj] at this
    exact this
  · obtain ⟨i, hi, rfl⟩ := mem_getD (d := 0) hc
    exact (key i hi).1
theorem ris_len {l : List Int} {n : Nat} (h : risB l 0 ((n : Int) - 1) = true) : l.length ≤ n := by
  unfold risB at h
  rw [List.all_eq_true] at h
  have key : ∀ i, i < l.length → (0 ≤ l.getD i 0 ∧ l.getD i 0 ≤ (n : Int) - 1) ∧ (i = 0 ∨ l.getD (i - 1) 0 < l.getD i 0) := fun i hi => by
    have := h i (List.mem_range.2 hi)
    rw [Bool.and_eq_true, Bool.or_eq_true, decide_eq_true_eq, decide_eq_true_eq] at this
    exact ⟨inR_iff.1 this.1, this.2⟩
  have up : ∀ i : Nat, i < l.length → (i : Int) ≤ l.getD i 0 := by
    intro i
    induction i with
    | zero => intro hi; have := (key 0 hi).1; omega
    | succ i ih =>
      intro hi
      have h1 := ih (by omega)
      have h2 := (key (i + 1) hi).2.resolve_left (by omega)
      simp only [Nat.add_sub_cancel] at h2
      omega
  by_cases h0 : l.length = 0
  · omega
  · have h1 := up (l.length - 1) (by omega)
    have h2 := (key (l.length - 1) (by omega)).1
    omega
theorem ris_of {l : List Int} {lo hi : Int} (hp : l.Pairwise (· < ·)) (hm : ∀ c ∈ l, lo ≤ c ∧ c ≤ hi) : risB l lo hi = true := by
  unfold risB
  rw [List.all_eq_true]
  intro i hi
  have hi := List.mem_range.1 hi
  rw [Bool.and_eq_true]
  refine ⟨inR_iff.2 (hm _ (getD_memI hi)), ?_⟩
  by_cases h0 : i = 0
  · simp [h0]
  · rw [decide_eq_false h0, Bool.false_or, decide_eq_true_eq]
    have := List.pairwise_iff_getElem.1 hp (i - 1) i (by omega) hi (by omega)
    rw [List.getD_eq_getElem?_getD, List.getD_eq_getElem?_getD, List.getElem?_eq_getElem hi, List.getElem?_eq_getElem (by omega : i - 1 < l.length)]
    exact this
section
variable {h : Hs} {k p b : AV}
theorem pts_app {l m : List Int} : h.pts (l ++ m) = h.pts l ++ h.pts m := by simp [Hs.pts]
theorem part_perm {f : Int → Bool} : ∀ {l : List Int}, (l.filter (fun c => !f c) ++ l.filter f).Perm l
  | [] => List.Perm.refl _
  | a :: l => by
    have ih := part_perm (f := f) (l := l)
    by_cases h : f a = true
    · simp only [List.filter_cons, h, Bool.not_true, if_true, Bool.false_eq_true, if_false]
      exact List.perm_middle.trans (ih.cons a)
    · simp only [List.filter_cons, Bool.not_eq_true] at h ⊢
      rw [h]
      simp only [Bool.not_false, if_true, Bool.false_eq_true, if_false, List.cons_append]
      exact ih.cons a
theorem st_same {ks : List Kd} {l : List Pr} {z : Int} (hz : 0 ≤ z) (hne : l ≠ []) (h : ∀ q ∈ l, (kdP ks q).s = z) : stP ks l = z := by
  apply Int.le_antisymm
  · exact mxs_le hz fun c hc => by
      obtain ⟨q, hq, rfl⟩ := List.mem_map.1 hc
      rw [h q hq]; exact Int.le_refl _
  · cases l with
    | nil => exact absurd rfl hne
    | cons q l =>
      rw [← h q (by simp)]
      exact mxs_ge.2 _ (List.mem_map.2 ⟨q, by simp, rfl⟩)
theorem sl_two (G : HG h) {l m : List Pr} (Pl : PG l) (Pm : PG m) {z : Int} (hz : 0 ≤ z) (hl : ∀ q ∈ l ++ m, (kdP h.ks q).s = z) : slP h.ks h.fl (l ++ m) ≤ slP h.ks h.fl l + slP h.ks h.fl m := by
  have f0 := G.g.f
  by_cases h1 : l = []
  · subst h1
    have : slP h.ks h.fl ([] : List Pr) = 0 := rfl
    rw [List.nil_append, this]; omega
  by_cases h2 : m = []
  · subst h2
    have : slP h.ks h.fl ([] : List Pr) = 0 := rfl
    rw [List.append_nil, this]; omega
  have n1 : l.length ≠ 0 := fun e => h1 (List.eq_nil_of_length_eq_zero e)
  have n2 : m.length ≠ 0 := fun e => h2 (List.eq_nil_of_length_eq_zero e)
  have s1 := st_same hz h1 fun q hq => hl q (by simp [hq])
  have s2 := st_same hz h2 fun q hq => hl q (by simp [hq])
  have s3 := st_same (l := l ++ m) hz (by simp [h1]) hl
  unfold slP
  rw [if_neg (by rw [List.length_append]; omega), if_neg n1, if_neg n2, s1, s2, s3, lbP_app, Int.add_mul]
  generalize lbP l * z = A
  generalize lbP m * z = B
  omega
def sameB (h : Hs) (l : List Int) (n : Nat) : Bool := (l.take n).all fun c => decide ((h.ps.getD c.toNat default).k = (h.ps.getD (l.getD 0 0).toNat default).k)
set_option maxHeartbeats 16000000 in
theorem s10 (H0 : HsIn h k p b) {l : List Int} {v : AV} (V : IsSl 1 intL l v) (y : Int) : Iso E 10 [hsV h.fl k p b, v, .int .u8 y] false = some (Bo true) := by
  have a0 := fun st => s46 H0 st
  simp only [hsV] at a0
  refine Iso_of (es _ _ _ _) e10 ?_
  simp only [f10, hsV]
  cases hr : h.rdy
  · simp (disch := first | assumption | omega | (simp only [az]; done)) only [ru, eq_self, if_true, if_false, BEq.rfl, binI, AO.row?, splice, fillL, mmAll, loadV, storeV, zeros, Am.rowAt, Am.part, addOff, Nat.reduceAdd, Nat.reduceMul, Nat.reduceLeDiff, Nat.reduceSub, Nat.reduceLT, Int.reduceEq, Int.reduceLT, Int.reduceLE, Int.reduceGT, Int.reduceGE, Int.reduceAdd, Int.reduceSub, Int.reduceMul, Int.reduceNeg, Int.reduceToNat, reduceCtorEq, reduceIte, lenV_sl H0.k, lenV_sl H0.p, lenV_sl H0.b, elem_kd H0.k, elem_pr H0.p, elem_in H0.b, view_sl H0.k, view_sl H0.p, view_sl H0.b, scalar_sl H0.k, scalar_sl H0.p, scalar_sl H0.b, cells_sl H0.k, cells_sl H0.p, cells_sl H0.b, pure_sl H0.k, pure_sl H0.p, pure_sl H0.b, Int.toNat_natCast, lenV_sl V, elem_in V, view_sl V, scalar_sl V, cells_sl V, pure_sl V, Int.toNat_natCast, a0, hr, s16, gUn, Bool.not_false]
  by_cases hl : (l.length : Int) > 40
  · simp (disch := first | assumption | omega | (simp only [az]; done)) only [ru, eq_self, if_true, if_false, BEq.rfl, binI, AO.row?, splice, fillL, mmAll, loadV, storeV, zeros, Am.rowAt, Am.part, addOff, Nat.reduceAdd, Nat.reduceMul, Nat.reduceLeDiff, Nat.reduceSub, Nat.reduceLT, Int.reduceEq, Int.reduceLT, Int.reduceLE, Int.reduceGT, Int.reduceGE, Int.reduceAdd, Int.reduceSub, Int.reduceMul, Int.reduceNeg, Int.reduceToNat, reduceCtorEq, reduceIte, lenV_sl H0.k, lenV_sl H0.p, lenV_sl H0.b, elem_kd H0.k, elem_pr H0.p, elem_in H0.b, view_sl H0.k, view_sl H0.p, view_sl H0.b, scalar_sl H0.k, scalar_sl H0.p, scalar_sl H0.b, cells_sl H0.k, cells_sl H0.p, cells_sl H0.b, pure_sl H0.k, pure_sl H0.p, pure_sl H0.b, Int.toNat_natCast, lenV_sl V, elem_in V, view_sl V, scalar_sl V, cells_sl V, pure_sl V, Int.toNat_natCast, a0, hr, hl, s16, gUn, Bool.not_true, Bool.not_false, decide_true]
    done
  have H := rdy_ok H0 hr
  have G := (rdy_iff.1 hr).1
  have np := G.np
  have l1 : l.length ≤ 1000 := by omega
  have a63 := fun st => s63 H V l1 st
  simp only [hsV] at a63
  cases hp : risB l 0 (h.ps.length - 1)
  · simp (disch := first | assumption | omega | (simp only [az]; done)) only [ru, eq_self, if_true, if_false, BEq.rfl, binI, AO.row?, splice, fillL, mmAll, loadV, storeV, zeros, Am.rowAt, Am.part, addOff, Nat.reduceAdd, Nat.reduceMul, Nat.reduceLeDiff, Nat.reduceSub, Nat.reduceLT, Int.reduceEq, Int.reduceLT, Int.reduceLE, Int.reduceGT, Int.reduceGE, Int.reduceAdd, Int.reduceSub, Int.reduceMul, Int.reduceNeg, Int.reduceToNat, reduceCtorEq, reduceIte, lenV_sl H0.k, lenV_sl H0.p, lenV_sl H0.b, elem_kd H0.k, elem_pr H0.p, elem_in H0.b, view_sl H0.k, view_sl H0.p, view_sl H0.b, scalar_sl H0.k, scalar_sl H0.p, scalar_sl H0.b, cells_sl H0.k, cells_sl H0.p, cells_sl H0.b, pure_sl H0.k, pure_sl H0.p, pure_sl H0.b, Int.toNat_natCast, lenV_sl V, elem_in V, view_sl V, scalar_sl V, cells_sl V, pure_sl V, Int.toNat_natCast, a0, hr, hl, a63, hp, s16, gUn, Bool.not_true, Bool.not_false, decide_false]
  have L := risB_in hp
  obtain ⟨pw, mb⟩ := ris_pair hp
  have hv := valid_iff.2 G
  obtain ⟨f, hf⟩ : ∃ f : Int → Bool, f = fun c => decide (bitI .and .u8 (y.fdiv (2 ^ (min c.toNat IntKind.u8.bits))) 1 = 1) := ⟨_, rfl⟩
  simp (disch := first | assumption | omega | (simp only [az]; done)) only [ru, eq_self, if_true, if_false, BEq.rfl, binI, AO.row?, splice, fillL, mmAll, loadV, storeV, zeros, Am.rowAt, Am.part, addOff, Nat.reduceAdd, Nat.reduceMul, Nat.reduceLeDiff, Nat.reduceSub, Nat.reduceLT, Int.reduceEq, Int.reduceLT, Int.reduceLE, Int.reduceGT, Int.reduceGE, Int.reduceAdd, Int.reduceSub, Int.reduceMul, Int.reduceNeg, Int.reduceToNat, reduceCtorEq, reduceIte, lenV_sl H.k, lenV_sl H.p, lenV_sl H.b, elem_kd H.k, elem_pr H.p, elem_in H.b, view_sl H.k, view_sl H.p, view_sl H.b, scalar_sl H.k, scalar_sl H.p, scalar_sl H.b, cells_sl H.k, cells_sl H.p, cells_sl H.b, pure_sl H.k, pure_sl H.p, pure_sl H.b, Int.toNat_natCast, lenV_sl V, elem_in V, view_sl V, scalar_sl V, cells_sl V, pure_sl V, Int.toNat_natCast, a0, hr, hl, a63, hp, gUn, Bool.not_true, decide_false]
  refine G_loop_ind (fun m ts hh mk => ∃ (i : Nat) (o1 o2 : AV), i ≤ l.length ∧ m = l.length - i ∧ Two hh o1 o2 ((l.take i).filter fun c => !f c) ((l.take i).filter f) ∧ 1 ≤ hh.length ∧ hh[0]? = some (HHC h k p b) ∧ ts.length = 141 ∧ ts.getD 1 .undef = v ∧ ts.getD 2 .undef = .int .u8 y ∧ ts.getD 3 .undef = .ptr 0 0 ∧ ts.getD 7 .undef = o1 ∧ ts.getD 8 .undef = o2 ∧ ts.getD 9 .undef = Bo (sameB h l i) ∧ ts.getD 10 .undef = I i ∧ mk = []) ?_ _ _ _ _
    ⟨0, .nils, .nils, Nat.zero_le _, rfl, ⟨.inl ⟨rfl, rfl⟩, .inl ⟨rfl, rfl⟩, fun _ _ _ _ e => by cases e⟩, by simp, rfl, rfl, rfl, rfl, rfl, rfl, rfl, rfl, rfl, rfl⟩
  rintro m ts hh mk ih ⟨i, o1, o2, hi', rfl, T, h1, c0, hl', q1, q2, q3, q7, q8, q9, q10, rfl⟩
  rw [lit_all hl']
  simp only [lit0, litS, Nat.reduceAdd, q1, q2, q3, q7, q8, q9, q10]
  simp (disch := first | assumption | omega | (simp only [az]; done)) only [ru, eq_self, if_true, if_false, BEq.rfl, binI, AO.row?, splice, fillL, mmAll, loadV, storeV, zeros, Am.rowAt, Am.part, addOff, Nat.reduceAdd, Nat.reduceMul, Nat.reduceLeDiff, Nat.reduceSub, Nat.reduceLT, Int.reduceEq, Int.reduceLT, Int.reduceLE, Int.reduceGT, Int.reduceGE, Int.reduceAdd, Int.reduceSub, Int.reduceMul, Int.reduceNeg, Int.reduceToNat, reduceCtorEq, reduceIte, lenV_sl V, elem_in V, view_sl V, scalar_sl V, cells_sl V, pure_sl V, Int.toNat_natCast]
  by_cases hlt : (i : Int) < l.length
  case pos =>
    have hi2 : i < l.length := by omega
    have hx := L i hi2
    have hx0 := L 0 (by omega)
    have l0 : (0 : Int) < l.length := by omega
    have et := take_snoc (d := 0) hi2
    have es2 : sameB h l (i + 1) = (sameB h l i && decide ((h.ps.getD (l.getD i 0).toNat default).k = (h.ps.getD (l.getD 0 0).toNat default).k)) := by
      unfold sameB
      rw [et, List.all_append]; simp
    have hff : f (l.getD i 0) = decide (bitI .and .u8 (y.fdiv (2 ^ (min (l.getD i 0).toNat IntKind.u8.bits))) 1 = 1) := by rw [hf]
    have fl1 : ((l.take i).filter fun c => !f c).length ≤ 1000 := Nat.le_trans (List.length_filter_le _ _) (by rw [List.length_take]; omega)
    have fl2 : ((l.take i).filter f).length ≤ 1000 := Nat.le_trans (List.length_filter_le _ _) (by rw [List.length_take]; omega)
    obtain ⟨c, hc⟩ : ∃ c, c = l.getD i 0 := ⟨_, rfl⟩
    obtain ⟨c', hc'⟩ : ∃ c', c' = l.getD 0 0 := ⟨_, rfl⟩
    rw [← hc] at hx et es2 hff
    rw [← hc'] at hx0 es2
    have hcneg : ¬ c < 0 := by omega
    have x0 := hx.1; have x1 := hx.2; have z0 := hx0.1; have z1 := hx0.2
    obtain ⟨q, hq⟩ : ∃ q, q = h.ps.getD c.toNat default := ⟨_, rfl⟩
    obtain ⟨q', hq'⟩ : ∃ q', q' = h.ps.getD c'.toNat default := ⟨_, rfl⟩
    rw [← hq, ← hq'] at es2
    obtain ⟨e, he⟩ : ∃ e, e = bitI .and .u8 (y.fdiv (2 ^ (min c.toNat IntKind.u8.bits))) 1 := ⟨_, rfl⟩
    rw [← he] at hff
    have tn : (0 : Int).toNat = 0 := rfl
    by_cases hb : e = 1
    · have hft : f c = true := by rw [hff]; exact decide_eq_true hb
      obtain ⟨v', g', A, T', hg1, hg0⟩ := T.swap.put h1 fl2 c
      have T2 := T'.swap
      have e1 : (l.take (i + 1)).filter f = (l.take i).filter f ++ [c] := by rw [et, List.filter_append]; simp [hft]
      have e2 : ((l.take (i + 1)).filter fun c => !f c) = (l.take i).filter fun c => !f c := by rw [et, List.filter_append]; simp [hft]
      rw [← e1, ← e2] at T2
      rw [c0] at hg0
      cases hs : sameB h l i
      · rw [hs, Bool.false_and] at es2
        simp (disch := first | assumption | omega | (simp only [az]; done)) only [ru, eq_self, if_true, if_false, BEq.rfl, binI, AO.row?, splice, fillL, mmAll, loadV, storeV, zeros, Am.rowAt, Am.part, addOff, Nat.reduceAdd, Nat.reduceMul, Nat.reduceLeDiff, Nat.reduceSub, Nat.reduceLT, Int.reduceEq, Int.reduceLT, Int.reduceLE, Int.reduceGT, Int.reduceGE, Int.reduceAdd, Int.reduceSub, Int.reduceMul, Int.reduceNeg, Int.reduceToNat, reduceCtorEq, reduceIte, lenV_sl H.k, lenV_sl H.p, lenV_sl H.b, elem_kd H.k, elem_pr H.p, elem_in H.b, view_sl H.k, view_sl H.p, view_sl H.b, scalar_sl H.k, scalar_sl H.p, scalar_sl H.b, cells_sl H.k, cells_sl H.p, cells_sl H.b, pure_sl H.k, pure_sl H.p, pure_sl H.b, Int.toNat_natCast, lenV_sl V, elem_in V, view_sl V, scalar_sl V, cells_sl V, pure_sl V, Int.toNat_natCast, hlt, c0, ← hc, x0, x1, hcneg, tn, shI, isSh, ← he, hb, hs, A, gUn, decide_true]
        exact ih (l.length - (i + 1)) _ _ _ (by omega) ⟨i + 1, _, _, by omega, rfl, T2, hg1, hg0, rfl, rfl, rfl, rfl, rfl, rfl, by rw [es2]; rfl, rfl, rfl⟩
      · rw [hs, Bool.true_and] at es2
        simp (disch := first | assumption | omega | (simp only [az]; done)) only [ru, eq_self, if_true, if_false, BEq.rfl, binI, AO.row?, splice, fillL, mmAll, loadV, storeV, zeros, Am.rowAt, Am.part, addOff, Nat.reduceAdd, Nat.reduceMul, Nat.reduceLeDiff, Nat.reduceSub, Nat.reduceLT, Int.reduceEq, Int.reduceLT, Int.reduceLE, Int.reduceGT, Int.reduceGE, Int.reduceAdd, Int.reduceSub, Int.reduceMul, Int.reduceNeg, Int.reduceToNat, reduceCtorEq, reduceIte, lenV_sl H.k, lenV_sl H.p, lenV_sl H.b, elem_kd H.k, elem_pr H.p, elem_in H.b, view_sl H.k, view_sl H.p, view_sl H.b, scalar_sl H.k, scalar_sl H.p, scalar_sl H.b, cells_sl H.k, cells_sl H.p, cells_sl H.b, pure_sl H.k, pure_sl H.p, pure_sl H.b, Int.toNat_natCast, lenV_sl V, elem_in V, view_sl V, scalar_sl V, cells_sl V, pure_sl V, Int.toNat_natCast, hlt, c0, ← hc, ← hc', ← hq, ← hq', x0, x1, z0, z1, l0, hcneg, tn, shI, isSh, ← he, hb, hs, A, gUn, decide_true]
        exact ih (l.length - (i + 1)) _ _ _ (by omega) ⟨i + 1, _, _, by omega, rfl, T2, hg1, hg0, rfl, rfl, rfl, rfl, rfl, rfl, by rw [es2]; rfl, rfl, rfl⟩
    · have hft : f c = false := by rw [hff]; exact decide_eq_false hb
      obtain ⟨v', g', A, T2, hg1, hg0⟩ := T.put h1 fl1 c
      have e1 : (l.take (i + 1)).filter f = (l.take i).filter f := by rw [et, List.filter_append]; simp [hft]
      have e2 : ((l.take (i + 1)).filter fun c => !f c) = ((l.take i).filter fun c => !f c) ++ [c] := by rw [et, List.filter_append]; simp [hft]
      rw [← e1, ← e2] at T2
      rw [c0] at hg0
      cases hs : sameB h l i
      · rw [hs, Bool.false_and] at es2
        simp (disch := first | assumption | omega | (simp only [az]; done)) only [ru, eq_self, if_true, if_false, BEq.rfl, binI, AO.row?, splice, fillL, mmAll, loadV, storeV, zeros, Am.rowAt, Am.part, addOff, Nat.reduceAdd, Nat.reduceMul, Nat.reduceLeDiff, Nat.reduceSub, Nat.reduceLT, Int.reduceEq, Int.reduceLT, Int.reduceLE, Int.reduceGT, Int.reduceGE, Int.reduceAdd, Int.reduceSub, Int.reduceMul, Int.reduceNeg, Int.reduceToNat, reduceCtorEq, reduceIte, lenV_sl H.k, lenV_sl H.p, lenV_sl H.b, elem_kd H.k, elem_pr H.p, elem_in H.b, view_sl H.k, view_sl H.p, view_sl H.b, scalar_sl H.k, scalar_sl H.p, scalar_sl H.b, cells_sl H.k, cells_sl H.p, cells_sl H.b, pure_sl H.k, pure_sl H.p, pure_sl H.b, Int.toNat_natCast, lenV_sl V, elem_in V, view_sl V, scalar_sl V, cells_sl V, pure_sl V, Int.toNat_natCast, hlt, c0, ← hc, x0, x1, hcneg, tn, shI, isSh, ← he, hb, hs, A, gUn, decide_false]
        exact ih (l.length - (i + 1)) _ _ _ (by omega) ⟨i + 1, _, _, by omega, rfl, T2, hg1, hg0, rfl, rfl, rfl, rfl, rfl, rfl, by rw [es2]; rfl, rfl, rfl⟩
      · rw [hs, Bool.true_and] at es2
        simp (disch := first | assumption | omega | (simp only [az]; done)) only [ru, eq_self, if_true, if_false, BEq.rfl, binI, AO.row?, splice, fillL, mmAll, loadV, storeV, zeros, Am.rowAt, Am.part, addOff, Nat.reduceAdd, Nat.reduceMul, Nat.reduceLeDiff, Nat.reduceSub, Nat.reduceLT, Int.reduceEq, Int.reduceLT, Int.reduceLE, Int.reduceGT, Int.reduceGE, Int.reduceAdd, Int.reduceSub, Int.reduceMul, Int.reduceNeg, Int.reduceToNat, reduceCtorEq, reduceIte, lenV_sl H.k, lenV_sl H.p, lenV_sl H.b, elem_kd H.k, elem_pr H.p, elem_in H.b, view_sl H.k, view_sl H.p, view_sl H.b, scalar_sl H.k, scalar_sl H.p, scalar_sl H.b, cells_sl H.k, cells_sl H.p, cells_sl H.b, pure_sl H.k, pure_sl H.p, pure_sl H.b, Int.toNat_natCast, lenV_sl V, elem_in V, view_sl V, scalar_sl V, cells_sl V, pure_sl V, Int.toNat_natCast, hlt, c0, ← hc, ← hc', ← hq, ← hq', x0, x1, z0, z1, l0, hcneg, tn, shI, isSh, ← he, hb, hs, A, gUn, decide_false]
        exact ih (l.length - (i + 1)) _ _ _ (by omega) ⟨i + 1, _, _, by omega, rfl, T2, hg1, hg0, rfl, rfl, rfl, rfl, rfl, rfl, by rw [es2]; rfl, rfl, rfl⟩
  obtain rfl : i = l.length := by omega
  rw [List.take_length] at T
  clear ih hf
  obtain ⟨A, hA⟩ : ∃ A, A = l.filter fun c => !f c := ⟨_, rfl⟩
  obtain ⟨B, hB⟩ : ∃ B, B = l.filter f := ⟨_, rfl⟩
  have sA : A.Sublist l := by rw [hA]; exact List.filter_sublist
  have sB : B.Sublist l := by rw [hB]; exact List.filter_sublist
  have pm : (A ++ B).Perm l := by rw [hA, hB]; exact part_perm
  rw [← hA, ← hB] at T
  clear hA hB
  have rA : risB A 0 (h.ps.length - 1) = true := ris_of (pw.sublist sA) fun c hc => mb c (sA.subset hc)
  have rB : risB B 0 (h.ps.length - 1) = true := ris_of (pw.sublist sB) fun c hc => mb c (sB.subset hc)
  have lA := sA.length_le
  have lB := sB.length_le
  obtain ⟨u1, hu1⟩ : ∃ u, u = resL A := ⟨_, rfl⟩
  obtain ⟨u2, hu2⟩ : ∃ u, u = resL B := ⟨_, rfl⟩
  have U1 : IsSl 1 intL A u1 := by rw [hu1]; exact resL_is _
  have U2 : IsSl 1 intL B u2 := by rw [hu2]; exact resL_is _
  have v1 := fun st n => T.a.viewL (st := st) (k := n)
  have v2 := fun st n => T.b.viewL (st := st) (k := n)
  simp only [← hu1] at v1
  simp only [← hu2] at v2
  have cp := fun st => s18 V l1 st
  obtain ⟨v', hv'⟩ : ∃ v', v' = slV 1 intL l := ⟨_, rfl⟩
  have V' : IsSl 1 intL l v' := by rw [hv']; exact slV_is
  rw [← hv'] at cp
  have b1 := fun st => s21 H V' l1 st
  have b2 := fun st => s21 H U1 (by omega) st
  have b3 := fun st => s21 H U2 (by omega) st
  have zt : ∀ v : Int, (if (0 : Int) = 0 then v else 0) = v := fun v => rfl
  simp only [hsV, ansN, askS, hv, hp, rA, rB, if_true, zt] at b1 b2 b3
  have PA := pts_pg G A
  have PB := pts_pg G B
  have PL := pts_pg G l
  have subA : (h.pts A).Sublist (h.pts l) := sA.map _
  have subB : (h.pts B).Sublist (h.pts l) := sB.map _
  have kA := sl_sub G.g subA PL
  have kB := sl_sub G.g subB PL
  have bA := (sl_bd G.g PA).1
  have bB := (sl_bd G.g PB).1
  have bL := (sl_bd G.g PL).2
  have l6 := ris_len hp
  rw [pts_len] at bL
  have both : sameB h l l.length = true → slP h.ks h.fl (h.pts l) ≤ slP h.ks h.fl (h.pts A) + slP h.ks h.fl (h.pts B) := by
    intro hs
    unfold sameB at hs
    rw [List.take_length, List.all_eq_true] at hs
    have pm2 : (h.pts A ++ h.pts B).Perm (h.pts l) := by rw [← pts_app]; exact pm.map _
    rw [← sl_perm pm2]
    obtain ⟨z, hz⟩ : ∃ z, z = (h.ps.getD (l.getD 0 0).toNat default).k := ⟨_, rfl⟩
    refine sl_two G PA PB (z := (h.ks.getD z.toNat default).s) (G.g.kd ⟨z, 0⟩).1 fun q hq => ?_
    have hq2 := pm2.mem_iff.1 hq
    obtain ⟨c, hc, rfl⟩ := List.mem_map.1 hq2
    have := of_decide_eq_true (hs c hc)
    unfold kdP
    rw [this, ← hz]
  obtain ⟨S, hS⟩ : ∃ S, S = slP h.ks h.fl (h.pts l) := ⟨_, rfl⟩
  obtain ⟨S1, hS1⟩ : ∃ S, S = slP h.ks h.fl (h.pts A) := ⟨_, rfl⟩
  obtain ⟨S2, hS2⟩ : ∃ S, S = slP h.ks h.fl (h.pts B) := ⟨_, rfl⟩
  rw [← hS] at b1 kA kB bL
  rw [← hS1] at b2 kA bA
  rw [← hS2] at b3 kB bB
  rw [← hS, ← hS1, ← hS2] at both
  have m1 : mmx false S1 S2 ≥ 0 := by simp only [mmx, Bool.false_eq_true, if_false]; split <;> omega
  have m2 : S ≥ mmx true S1 S2 := by simp only [mmx, if_true]; split <;> omega
  have m3 : S ≤ 1000 := by omega
  have m4 : S1 ≤ 1000 := by omega
  have m5 : S2 ≤ 1000 := by omega
  obtain ⟨w1, hw1⟩ : ∃ w, w = mmx false S1 S2 := ⟨_, rfl⟩
  obtain ⟨w2, hw2⟩ : ∃ w, w = mmx true S1 S2 := ⟨_, rfl⟩
  rw [← hw1] at m1
  rw [← hw2] at m2
  cases hs : sameB h l l.length
  · simp (disch := first | assumption | omega | (simp only [az]; done)) only [ru, eq_self, if_true, if_false, BEq.rfl, binI, AO.row?, splice, fillL, mmAll, loadV, storeV, zeros, Am.rowAt, Am.part, addOff, Nat.reduceAdd, Nat.reduceMul, Nat.reduceLeDiff, Nat.reduceSub, Nat.reduceLT, Int.reduceEq, Int.reduceLT, Int.reduceLE, Int.reduceGT, Int.reduceGE, Int.reduceAdd, Int.reduceSub, Int.reduceMul, Int.reduceNeg, Int.reduceToNat, reduceCtorEq, reduceIte, lenV_sl H.k, lenV_sl H.p, lenV_sl H.b, elem_kd H.k, elem_pr H.p, elem_in H.b, view_sl H.k, view_sl H.p, view_sl H.b, scalar_sl H.k, scalar_sl H.p, scalar_sl H.b, cells_sl H.k, cells_sl H.p, cells_sl H.b, pure_sl H.k, pure_sl H.p, pure_sl H.b, Int.toNat_natCast, lenV_sl V, elem_in V, view_sl V, scalar_sl V, cells_sl V, pure_sl V, Int.toNat_natCast, lenV_sl V', elem_in V', view_sl V', scalar_sl V', cells_sl V', pure_sl V', Int.toNat_natCast, hlt, c0, cp, v1, v2, b1, b2, b3, ← hw1, ← hw2, m1, m2, m3, hs, s16, gUn, decide_true, Bool.not_false]
  · have m6 := both hs
    simp (disch := first | assumption | omega | (simp only [az]; done)) only [ru, eq_self, if_true, if_false, BEq.rfl, binI, AO.row?, splice, fillL, mmAll, loadV, storeV, zeros, Am.rowAt, Am.part, addOff, Nat.reduceAdd, Nat.reduceMul, Nat.reduceLeDiff, Nat.reduceSub, Nat.reduceLT, Int.reduceEq, Int.reduceLT, Int.reduceLE, Int.reduceGT, Int.reduceGE, Int.reduceAdd, Int.reduceSub, Int.reduceMul, Int.reduceNeg, Int.reduceToNat, reduceCtorEq, reduceIte, lenV_sl H.k, lenV_sl H.p, lenV_sl H.b, elem_kd H.k, elem_pr H.p, elem_in H.b, view_sl H.k, view_sl H.p, view_sl H.b, scalar_sl H.k, scalar_sl H.p, scalar_sl H.b, cells_sl H.k, cells_sl H.p, cells_sl H.b, pure_sl H.k, pure_sl H.p, pure_sl H.b, Int.toNat_natCast, lenV_sl V, elem_in V, view_sl V, scalar_sl V, cells_sl V, pure_sl V, Int.toNat_natCast, lenV_sl V', elem_in V', view_sl V', scalar_sl V', cells_sl V', pure_sl V', Int.toNat_natCast, hlt, c0, cp, v1, v2, b1, b2, b3, ← hw1, ← hw2, m1, m2, m3, m6, hs, s16, gUn, decide_true, Bool.not_true]
end
end Go.Proofs.Ytcdedbpmjhjehaa.S

