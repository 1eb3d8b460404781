/-
CutsEnds: both ends of a weight.
-/
import Derived.Test.YtkmcbiimlnphmaaS3
namespace Go.Proofs.Ytkmcbiimlnphmaa.S
open Go Go.Am Go.Proofs.Ytkmcbiimlnphmaa.T
set_option maxRecDepth 100000
set_option linter.unusedSimpArgs false
set_option linter.unusedVariables false

theorem lin_rA {u : Nat → Int} {p : Nat} : ∀ {k : Nat}, lin (rA p) u k = if p < k then u p else 0
  | 0 => by simp [lin]
  | k + 1 => by
    simp only [lin, lin_rA (k := k), rA]
    by_cases e : k = p
    · subst e; rw [if_neg (by omega), if_pos rfl, if_pos (by omega)]; omega
    · rw [if_neg e]
      by_cases h : p < k
      · rw [if_pos h, if_pos (by omega)]; omega
      · rw [if_neg h, if_neg (by omega)]; omega
theorem par_same {a b : List Pt} (hl : a.length = b.length) (hc : ∀ i, canC a i = canC b i) (h : ∀ j, (a.getD j default).of = (b.getD j default).of ∧ (a.getD j default).s = (b.getD j default).s) {u : Nat → Int} : PartF a u ↔ PartF b u := by
  have hw : ∀ i : Nat, wst a i = wst b i := fun i => by unfold wst; rw [hc, (h i).2]
  have hp : ∀ i, pcs a u i a.length = pcs b u i b.length := fun i => by rw [hl]; exact pcs_of fun j => (h j).1
  constructor
  · intro h1 i hi
    have := h1 i (by omega); rw [hw, hp] at this; exact this
  · intro h1 i hi
    have := h1 i (by omega); rw [hw, hp]; exact this
section
variable {t : List Pt} {v w : AV} {l : List Int}
theorem onl_len {p : Nat} {n : Int} : (onl t p n).length = t.length := by simp [onl]
theorem onl_par {p : Nat} (hp : p < t.length) {n : Int} {u : Nat → Int} : PartF (onl t p n) u ↔ PartF t u :=
  par_same onl_len (set_can hp rfl) fun j => by
    unfold onl; rw [set_at hp]; split
    · rename_i e; subst e; exact ⟨rfl, rfl⟩
    · exact ⟨rfl, rfl⟩
theorem onl_tru {p : Nat} (hp : p < t.length) {n : Int} (hn : (t.getD p default).w.lo ≤ n ∧ n ≤ (t.getD p default).w.hi) {u : Nat → Int} : TruF (onl t p n) u ↔ TruF t u ∧ u p = n := by
  unfold TruF
  rw [onl_par hp, onl_len]
  constructor
  · rintro ⟨h1, h2⟩
    have h3 := h2 p hp
    unfold onl at h3
    rw [set_at hp, if_pos rfl] at h3
    have h3' : n ≤ u p ∧ u p ≤ n := h3
    refine ⟨⟨h1, fun i hi => ?_⟩, by omega⟩
    by_cases e : i = p
    · subst e; omega
    · have h4 := h2 i hi
      unfold onl at h4
      rw [set_at hp, if_neg e] at h4; exact h4
  · rintro ⟨⟨h1, h2⟩, h3⟩
    refine ⟨h1, fun i hi => ?_⟩
    unfold onl
    rw [set_at hp]
    split
    · rename_i e; subst e; show n ≤ u i ∧ u i ≤ n; omega
    · exact h2 i hi
theorem onl_val (hv : tval t = true) {p : Nat} (hp : p < t.length) {n : Int} (hn : 0 ≤ n ∧ n ≤ 30) : tval (onl t p n) = true := by
  obtain ⟨T, h9⟩ := tval_iff.1 hv
  refine tval_iff.2 ⟨set_W T hp rfl (show 0 ≤ n ∧ n ≤ n ∧ n ≤ 30 by omega) (T.s p hp) (T.p p hp), fun i hi => ?_⟩
  rw [onl_len] at hi
  unfold onl
  rw [set_at hp]; split
  · exact h9 p hp
  · exact h9 i hi
/-- what a weight may be, when one weight of it alone is left -/
theorem ends_key (hv : tval t = true) (h1 : is1 t = true) {p : Nat} (hp : p < t.length) {n : Int} (hn : inR n (t.getD p default).w.lo (t.getD p default).w.hi = true)
    (hs : ¬ (loV t (rA p) < n ∧ n < hiV t (rA p))) (st : Bool) :
    Iso E 32 [slV 6 Pt.e (onl t p n), I p] st = some (if inR n (loV t (rA p)) (hiV t (rA p)) then .tup [.agg [I n, I n], I 0] else .tup [.agg [I 0, I 0], I 3]) := by
  have T := tval_W hv
  have hn' := inR_iff.1 hn
  have hw := T.w p hp
  have n8 := T.n
  have V := onl_val hv hp (n := n) (by omega)
  have TO := tval_W V
  have H : TbOk (onl t p n) (slV 6 Pt.e (onl t p n)) := ⟨slV_is, by rw [onl_len]; omega⟩
  have ll : ∀ u, lin (rA p) u t.length = u p := fun u => by rw [lin_rA, if_pos hp]
  have ll2 : ∀ u, lin (rA p) u (onl t p n).length = u p := fun u => by rw [onl_len]; exact ll u
  obtain ⟨⟨u1, a1, b1⟩, c1⟩ := loV_spec (r := rA p) T.toTG h1
  obtain ⟨⟨u2, a2, b2⟩, c2⟩ := hiV_spec (r := rA p) T.toTG h1
  rw [ll] at b1 b2
  rw [s32 H]
  simp only [askR, V, onl_len, inR_iff.2 (show (0 : Int) ≤ (p : Int) ∧ (p : Int) ≤ t.length - 1 by omega), if_true, Int.toNat_natCast]
  cases hi : inR n (loV t (rA p)) (hiV t (rA p))
  · have : is1 (onl t p n) = false := by
      rw [Bool.eq_false_iff]
      intro h
      obtain ⟨u, hu⟩ := (is1_iff TO.toTG).1 h
      obtain ⟨g1, g2⟩ := (onl_tru hp hn').1 hu
      have x1 := c1 u g1; have x2 := c2 u g1
      rw [ll, g2] at x1 x2
      rw [inR_iff.2 ⟨x1, x2⟩] at hi; cases hi
    simp only [btw, this]; rfl
  · have hi' := inR_iff.1 hi
    have ex : ∃ u, TruF (onl t p n) u := by
      rcases (show loV t (rA p) = n ∨ hiV t (rA p) = n by omega) with e | e
      · exact ⟨u1, (onl_tru hp hn').2 ⟨a1, by omega⟩⟩
      · exact ⟨u2, (onl_tru hp hn').2 ⟨a2, by omega⟩⟩
    obtain ⟨u, hu⟩ := ex
    have e1 : loV (onl t p n) (rA p) = n := loV_eq TO.toTG u hu (by rw [ll2]; exact ((onl_tru hp hn').1 hu).2) fun y hy => by rw [ll2]; have := ((onl_tru hp hn').1 hy).2; omega
    have e2 : hiV (onl t p n) (rA p) = n := hiV_eq TO.toTG u hu (by rw [ll2]; exact ((onl_tru hp hn').1 hu).2) fun y hy => by rw [ll2]; have := ((onl_tru hp hn').1 hy).2; omega
    simp only [btw, (is1_iff TO.toTG).2 ⟨u, hu⟩, e1, e2, if_true]
theorem wgt_in (hv : tval t = true) (h1 : is1 t = true) {p : Nat} (hp : p < t.length) : insB ⟨loV t (rA p), hiV t (rA p)⟩ (t.getD p default).w = true := by
  have T := tval_W hv
  have ll : ∀ u, lin (rA p) u t.length = u p := fun u => by rw [lin_rA, if_pos hp]
  obtain ⟨⟨u1, a1, b1⟩, c1⟩ := loV_spec (r := rA p) T.toTG h1
  obtain ⟨⟨u2, a2, b2⟩, c2⟩ := hiV_spec (r := rA p) T.toTG h1
  have x1 := a1.2 p hp; have x2 := a2.2 p hp
  have x3 := c1 u2 a2
  rw [ll] at b1 b2 x3
  exact insB_iff.2 ⟨by show _ ≤ loV t (rA p); omega, by show loV t (rA p) ≤ hiV t (rA p); omega, by show hiV t (rA p) ≤ _; omega⟩
set_option maxHeartbeats 4000000 in
theorem s4 (H0 : TbIn t v) (n : Int) : Iso E 4 [v, I n] false = some (Bo true) := by
  have g0 := fun st => s16 H0 st
  refine Iso_of (es _ _ _ _) e4 ?_
  simp only [f4]
  cases hv : tval t
  case false => simp (disch := first | assumption | omega | (simp only [az]; done)) only [ru, eq_self, if_true, if_false, BEq.rfl, binI, AO.row?, splice, fillL, mmAll, loadV, storeV, zeros, Am.rowAt, Am.part, addOff, Nat.reduceAdd, Nat.reduceMul, Nat.reduceLeDiff, Nat.reduceSub, Nat.reduceLT, Int.reduceEq, Int.reduceLT, Int.reduceLE, Int.reduceGT, Int.reduceGE, Int.reduceAdd, Int.reduceSub, Int.reduceMul, Int.reduceNeg, Int.reduceToNat, reduceCtorEq, reduceIte, lenV_sl H0.i, elem_pt H0.i, view_sl H0.i, scalar_sl H0.i, cells_sl H0.i, pure_sl H0.i, Int.toNat_natCast, g0, hv, gUn, s18, Bool.false_and]
  have T := tval_W hv
  have n8 := T.n
  have n40 : t.length ≤ 40 := by omega
  have H : TbOk t v := ⟨H0.i, by omega⟩
  have g0 : ∀ st, Iso E 16 [v] st = some (Bo true) := fun st => by rw [g0, hv, decide_eq_true n40]; rfl
  have a1 := fun st => s31 H n st
  cases hp : inR n 0 (t.length - 1)
  · simp (disch := first | assumption | omega | (simp only [az]; done)) only [ru, eq_self, if_true, if_false, BEq.rfl, binI, AO.row?, splice, fillL, mmAll, loadV, storeV, zeros, Am.rowAt, Am.part, addOff, Nat.reduceAdd, Nat.reduceMul, Nat.reduceLeDiff, Nat.reduceSub, Nat.reduceLT, Int.reduceEq, Int.reduceLT, Int.reduceLE, Int.reduceGT, Int.reduceGE, Int.reduceAdd, Int.reduceSub, Int.reduceMul, Int.reduceNeg, Int.reduceToNat, reduceCtorEq, reduceIte, lenV_sl H0.i, elem_pt H0.i, view_sl H0.i, scalar_sl H0.i, cells_sl H0.i, pure_sl H0.i, Int.toNat_natCast, g0, a1, hp, gUn, s18, Bool.not_true]
  have hp' := inR_iff.1 hp
  obtain ⟨p, rfl⟩ : ∃ p : Nat, n = p := ⟨n.toNat, by omega⟩
  have hi : p < t.length := by omega
  have hlt : (p : Int) < t.length := by omega
  have a2 := fun st => s32 H (p : Int) st
  have a3 := fun st => s34 H T st
  simp only [askR, hv, hp, if_true, Int.toNat_natCast] at a2
  cases h1 : is1 t
  · simp only [btw, h1] at a2
    simp (disch := first | assumption | omega | (simp only [az]; done)) only [ru, eq_self, if_true, if_false, BEq.rfl, binI, AO.row?, splice, fillL, mmAll, loadV, storeV, zeros, Am.rowAt, Am.part, addOff, Nat.reduceAdd, Nat.reduceMul, Nat.reduceLeDiff, Nat.reduceSub, Nat.reduceLT, Int.reduceEq, Int.reduceLT, Int.reduceLE, Int.reduceGT, Int.reduceGE, Int.reduceAdd, Int.reduceSub, Int.reduceMul, Int.reduceNeg, Int.reduceToNat, reduceCtorEq, reduceIte, lenV_sl H0.i, elem_pt H0.i, view_sl H0.i, scalar_sl H0.i, cells_sl H0.i, pure_sl H0.i, Int.toNat_natCast, g0, a1, hp, a2, a3, h1, s33, gUn, s18, Bool.not_true, decide_true, decide_false, Bool.or_true, Bool.or_false]
    done
  have wi := wgt_in hv h1 hi
  have key := fun k hk hs st => ends_key hv h1 hi (n := k) hk hs st
  simp only [btw, h1, if_true] at a2
  have a4 := fun k => s36 H hi k
  obtain ⟨lo, hlo⟩ : ∃ lo, lo = loV t (rA p) := ⟨_, rfl⟩
  obtain ⟨hh, hhi⟩ : ∃ hh, hh = hiV t (rA p) := ⟨_, rfl⟩
  rw [← hlo, ← hhi] at a2 wi
  simp only [← hlo, ← hhi] at key
  have wi' := insB_iff.1 wi
  obtain ⟨x, hx⟩ : ∃ x, x = t.getD p default := ⟨_, rfl⟩
  rw [← hx] at wi wi'
  simp only [← hx] at key
  have wi2 : insB ⟨lo, hh⟩ ⟨x.w.lo, x.w.hi⟩ = true := wi
  have lh : lo ≤ hh := wi'.2.1
  have xw := T.w p hi
  rw [← hx] at xw
  have lo0 : 0 ≤ lo := by have : x.w.lo ≤ lo := wi'.1; omega
  have hh30 : hh ≤ 30 := by have : hh ≤ x.w.hi := wi'.2.2; omega
  simp (disch := first | assumption | omega | (simp only [az]; done)) only [ru, eq_self, if_true, if_false, BEq.rfl, binI, AO.row?, splice, fillL, mmAll, loadV, storeV, zeros, Am.rowAt, Am.part, addOff, Nat.reduceAdd, Nat.reduceMul, Nat.reduceLeDiff, Nat.reduceSub, Nat.reduceLT, Int.reduceEq, Int.reduceLT, Int.reduceLE, Int.reduceGT, Int.reduceGE, Int.reduceAdd, Int.reduceSub, Int.reduceMul, Int.reduceNeg, Int.reduceToNat, reduceCtorEq, reduceIte, lenV_sl H0.i, elem_pt H0.i, view_sl H0.i, scalar_sl H0.i, cells_sl H0.i, pure_sl H0.i, Int.toNat_natCast, g0, a1, hp, a2, a3, h1, s33, hlt, ← hx, s35, wi2, gUn, s18, Bool.not_true, decide_true, decide_false, Bool.or_true, Bool.or_false, Bool.true_or]
  refine G_loop_ind (fun m' ts h mk => ∃ k : Int, lo - 1 ≤ k ∧ k ≤ hh + 2 ∧ m' = (hh + 2 - k).toNat ∧ ts.length = 109 ∧ ts.getD 0 .undef = v ∧ ts.getD 1 .undef = I p ∧ ts.getD 5 .undef = .ptr 0 0 ∧ ts.getD 7 .undef = I k ∧ h[0]? = some (.cells [I lo, I hh] false) ∧ mk = []) ?_ _ _ _ _ ⟨lo - 1, by omega, by omega, rfl, rfl, rfl, rfl, rfl, rfl, rfl, rfl⟩
  rintro m' ts h mk ih ⟨k, k1, k2, rfl, hl', q0, q1, q5, q7, h0, rfl⟩
  rw [lit_all hl']
  simp only [lit0, litS, Nat.reduceAdd, q0, q1, q5, q7]
  simp (disch := first | assumption | omega | (simp only [az]; done)) only [ru, eq_self, if_true, if_false, BEq.rfl, binI, AO.row?, splice, fillL, mmAll, loadV, storeV, zeros, Am.rowAt, Am.part, addOff, Nat.reduceAdd, Nat.reduceMul, Nat.reduceLeDiff, Nat.reduceSub, Nat.reduceLT, Int.reduceEq, Int.reduceLT, Int.reduceLE, Int.reduceGT, Int.reduceGE, Int.reduceAdd, Int.reduceSub, Int.reduceMul, Int.reduceNeg, Int.reduceToNat, reduceCtorEq, reduceIte, lenV_sl H.i, elem_pt H.i, view_sl H.i, scalar_sl H.i, cells_sl H.i, pure_sl H.i, Int.toNat_natCast, h0]
  by_cases hle : k ≤ hh + 1
  case neg => simp (disch := first | assumption | omega | (simp only [az]; done)) only [ru, eq_self, if_true, if_false, BEq.rfl, binI, AO.row?, splice, fillL, mmAll, loadV, storeV, zeros, Am.rowAt, Am.part, addOff, Nat.reduceAdd, Nat.reduceMul, Nat.reduceLeDiff, Nat.reduceSub, Nat.reduceLT, Int.reduceEq, Int.reduceLT, Int.reduceLE, Int.reduceGT, Int.reduceGE, Int.reduceAdd, Int.reduceSub, Int.reduceMul, Int.reduceNeg, Int.reduceToNat, reduceCtorEq, reduceIte, hle, s18]
  by_cases hs : k > lo ∧ k < hh
  · simp (disch := first | assumption | omega | (simp only [az]; done)) only [ru, eq_self, if_true, if_false, BEq.rfl, binI, AO.row?, splice, fillL, mmAll, loadV, storeV, zeros, Am.rowAt, Am.part, addOff, Nat.reduceAdd, Nat.reduceMul, Nat.reduceLeDiff, Nat.reduceSub, Nat.reduceLT, Int.reduceEq, Int.reduceLT, Int.reduceLE, Int.reduceGT, Int.reduceGE, Int.reduceAdd, Int.reduceSub, Int.reduceMul, Int.reduceNeg, Int.reduceToNat, reduceCtorEq, reduceIte, lenV_sl H.i, elem_pt H.i, view_sl H.i, scalar_sl H.i, cells_sl H.i, pure_sl H.i, Int.toNat_natCast, hle, h0, hs.1, hs.2, decide_true]
    exact ih (hh + 2 - (k + 1)).toNat _ _ _ (by omega) ⟨k + 1, by omega, by omega, rfl, rfl, rfl, rfl, rfl, rfl, h0, rfl⟩
  have hs1 : (decide (k > lo) = true ∧ decide (k < hh) = false) ∨ decide (k > lo) = false := by
    by_cases h1 : k > lo
    · exact .inl ⟨decide_eq_true h1, decide_eq_false (fun h2 => hs ⟨h1, h2⟩)⟩
    · exact .inr (decide_eq_false h1)
  have hs2 : ¬ (lo < k ∧ k < hh) := hs
  have h00 : ∀ y, (h ++ [y])[0]? = some (.cells [I lo, I hh] false) := fun y => Fr.at (Fr.app _ _) h0
  cases hw : inR k x.w.lo x.w.hi
  · rcases hs1 with ⟨s1, s2⟩ | s1
    · have s1' := of_decide_eq_true s1; have s2' := of_decide_eq_false s2
      simp (disch := first | assumption | omega | (simp only [az]; done)) only [ru, eq_self, if_true, if_false, BEq.rfl, binI, AO.row?, splice, fillL, mmAll, loadV, storeV, zeros, Am.rowAt, Am.part, addOff, Nat.reduceAdd, Nat.reduceMul, Nat.reduceLeDiff, Nat.reduceSub, Nat.reduceLT, Int.reduceEq, Int.reduceLT, Int.reduceLE, Int.reduceGT, Int.reduceGE, Int.reduceAdd, Int.reduceSub, Int.reduceMul, Int.reduceNeg, Int.reduceToNat, reduceCtorEq, reduceIte, lenV_sl H.i, elem_pt H.i, view_sl H.i, scalar_sl H.i, cells_sl H.i, pure_sl H.i, Int.toNat_natCast, hle, h0, s1', s2', decide_true, decide_false, hlt, ← hx, s22, hw, gUn, Bool.not_false]
      exact ih (hh + 2 - (k + 1)).toNat _ _ _ (by omega) ⟨k + 1, by omega, by omega, rfl, rfl, rfl, rfl, rfl, rfl, h0, rfl⟩
    · have s1' := of_decide_eq_false s1
      simp (disch := first | assumption | omega | (simp only [az]; done)) only [ru, eq_self, if_true, if_false, BEq.rfl, binI, AO.row?, splice, fillL, mmAll, loadV, storeV, zeros, Am.rowAt, Am.part, addOff, Nat.reduceAdd, Nat.reduceMul, Nat.reduceLeDiff, Nat.reduceSub, Nat.reduceLT, Int.reduceEq, Int.reduceLT, Int.reduceLE, Int.reduceGT, Int.reduceGE, Int.reduceAdd, Int.reduceSub, Int.reduceMul, Int.reduceNeg, Int.reduceToNat, reduceCtorEq, reduceIte, lenV_sl H.i, elem_pt H.i, view_sl H.i, scalar_sl H.i, cells_sl H.i, pure_sl H.i, Int.toNat_natCast, hle, h0, s1', decide_true, decide_false, hlt, ← hx, s22, hw, gUn, Bool.not_false]
      exact ih (hh + 2 - (k + 1)).toNat _ _ _ (by omega) ⟨k + 1, by omega, by omega, rfl, rfl, rfl, rfl, rfl, rfl, h0, rfl⟩
  have b1 := fun st => key k hw hs2 st
  have b0 := a4 k
  obtain ⟨y, hy⟩ : ∃ y, y = slV 6 Pt.e (onl t p k) := ⟨_, rfl⟩
  have Y : TbIn (onl t p k) y := by rw [hy]; exact ⟨slV_is⟩
  rw [← hy] at b0 b1
  cases hb : inR k lo hh
  all_goals
    rw [hb] at b1
    simp only [if_true, Bool.false_eq_true, if_false] at b1
    rcases hs1 with ⟨s1, s2⟩ | s1
    · have s1' := of_decide_eq_true s1; have s2' := of_decide_eq_false s2
      simp (disch := first | assumption | omega | (simp only [az]; done)) only [ru, eq_self, if_true, if_false, BEq.rfl, binI, AO.row?, splice, fillL, mmAll, loadV, storeV, zeros, Am.rowAt, Am.part, addOff, Nat.reduceAdd, Nat.reduceMul, Nat.reduceLeDiff, Nat.reduceSub, Nat.reduceLT, Int.reduceEq, Int.reduceLT, Int.reduceLE, Int.reduceGT, Int.reduceGE, Int.reduceAdd, Int.reduceSub, Int.reduceMul, Int.reduceNeg, Int.reduceToNat, reduceCtorEq, reduceIte, lenV_sl H.i, elem_pt H.i, view_sl H.i, scalar_sl H.i, cells_sl H.i, pure_sl H.i, Int.toNat_natCast, lenV_sl Y.i, elem_pt Y.i, view_sl Y.i, scalar_sl Y.i, cells_sl Y.i, pure_sl Y.i, Int.toNat_natCast, hle, h0, h00, s1', s2', decide_true, decide_false, hlt, ← hx, s22, hw, b0, b1, hb, s33, gUn, Bool.not_false, Bool.not_true, Bool.or_true, Bool.or_false, Bool.true_or, atE, setE, lenE, Nat.le_refl, bne_self_eq_false]
      exact ih (hh + 2 - (k + 1)).toNat _ _ _ (by omega) ⟨k + 1, by omega, by omega, rfl, rfl, rfl, rfl, rfl, rfl, h00 _, rfl⟩
    · have s1' := of_decide_eq_false s1
      simp (disch := first | assumption | omega | (simp only [az]; done)) only [ru, eq_self, if_true, if_false, BEq.rfl, binI, AO.row?, splice, fillL, mmAll, loadV, storeV, zeros, Am.rowAt, Am.part, addOff, Nat.reduceAdd, Nat.reduceMul, Nat.reduceLeDiff, Nat.reduceSub, Nat.reduceLT, Int.reduceEq, Int.reduceLT, Int.reduceLE, Int.reduceGT, Int.reduceGE, Int.reduceAdd, Int.reduceSub, Int.reduceMul, Int.reduceNeg, Int.reduceToNat, reduceCtorEq, reduceIte, lenV_sl H.i, elem_pt H.i, view_sl H.i, scalar_sl H.i, cells_sl H.i, pure_sl H.i, Int.toNat_natCast, lenV_sl Y.i, elem_pt Y.i, view_sl Y.i, scalar_sl Y.i, cells_sl Y.i, pure_sl Y.i, Int.toNat_natCast, hle, h0, h00, s1', decide_true, decide_false, hlt, ← hx, s22, hw, b0, b1, hb, s33, gUn, Bool.not_false, Bool.not_true, Bool.or_true, Bool.or_false, Bool.true_or, atE, setE, lenE, Nat.le_refl, bne_self_eq_false]
      exact ih (hh + 2 - (k + 1)).toNat _ _ _ (by omega) ⟨k + 1, by omega, by omega, rfl, rfl, rfl, rfl, rfl, rfl, h00 _, rfl⟩
end
end Go.Proofs.Ytkmcbiimlnphmaa.S

