/-
What the specification says of one division.
-/
import Derived.Test.YtaeijjfgfenfhaaNqs
namespace Go.Proofs.Ytaeijjfgfenfhaa.S
open Go Go.Am Go.Proofs.Ytaeijjfgfenfhaa.T
set_option maxRecDepth 100000
set_option linter.unusedSimpArgs false
set_option linter.unusedVariables false

theorem rmap_put {f g : Nat → Int} {n m : Nat} (hm : m < n) {y : Int} (h1 : g m = y) (h2 : ∀ x, x < n → x ≠ m → g x = f x) : ((List.range n).map f).set m y = (List.range n).map g := by
  apply List.ext_getElem?
  intro k
  by_cases e : k = m
  · subst e
    rw [List.getElem?_set_self (by simpa using hm)]
    simp [hm, h1]
  · rw [List.getElem?_set_ne (Ne.symm e)]
    by_cases hk : k < n
    · simp [hk, h2 k hk e]
    · simp [hk]
/-- of each what is Fixed, and the parts of the first ones -/
def h2 (C : List Nd) (i p : Int) (B : List Nat) (m x : Nat) : Int := fvV C i p (B.getD x default) + if x < m then pt C (rsR C i p) (rsS C i) (B.getD x default) else 0
/-- and one more of the first ones -/
def h3 (C : List Nd) (i p : Int) (B : List Nat) (m x : Nat) : Int := fvV C i p (B.getD x default) + pt C (rsR C i p) (rsS C i) (B.getD x default) + if x < m then exV C (rsL C i p) (B.take x) (B.getD x default) else 0
theorem map_rng {B : List Nat} {f : Nat → Int} : B.map f = (List.range B.length).map fun x => f (B.getD x default) := by
  apply List.ext_getElem?
  intro k
  by_cases hk : k < B.length
  · simp [hk, List.getD_eq_getElem?_getD]
  · simp [hk]
theorem exR_stop {C : List Nd} {r : Int} {l : List Nat} {m : Nat} (h : ¬ 0 < exR C r (l.take m)) : ∀ x, m ≤ x → x ≤ l.length → ¬ 0 < exR C r (l.take x) := by
  intro x hx
  induction x with
  | zero => intro _; have : m = 0 := by omega
            subst this; exact h
  | succ x ih =>
    intro hl
    by_cases e : m = x + 1
    · subst e; exact h
    · have := ih (by omega) (by omega)
      rw [take_snoc (d := default) (by omega), exR_snoc, if_neg (fun c => this c.2)]
      exact this
theorem set_oth {h : List AO} {o j : Nat} {x y : AO} (hj : h[j]? = some x) (e : o ≠ j) : (h.set o y)[j]? = some x := by rw [List.getElem?_set_ne e]; exact hj
theorem set_own {h : List AO} {o : Nat} {x y : AO} (hj : h[o]? = some x) : (h.set o y)[o]? = some y := List.getElem?_set_self (List.getElem?_eq_some_iff.1 hj).1
section
variable {C : List Nd} {v : AV} (hv : IsSl 3 Nd.e C v) (H : CuOk C)
include hv H
set_option maxHeartbeats 4000000 in
theorem t72 {i : Nat} (hi : i < C.length) {p : Int} (hp : 0 ≤ p) (hp2 : p ≤ 1000) (st : Bool) : Iso E 72 [cuV v, I i, I p] st = some (.tup [resL (sL C i p), I (spk C i p)]) := by
  have n8 := H.n8
  refine Iso_of (es _ _ _ _) e72 ?_
  simp only [f72]
  have r8 := resL_is (ofN (bl C (i : Int) C.length))
  have h48 := fun st => t48 hv H (i := (i : Int)) (by omega) st
  have h50 := fun st => t50 hv H (i := (i : Int)) (by omega) st
  obtain ⟨w, hw⟩ : ∃ w, w = resL (ofN (bl C (i : Int) C.length)) := ⟨_, rfl⟩
  rw [← hw] at h48 r8
  have hR := fxR_bd H hp (l := bl C (i : Int) C.length) (fun j hj => bl_lt (Nat.le_refl _) hj)
  have sb := smW_bd H (l := bl C (i : Int) C.length) (fun j hj => bl_lt (Nat.le_refl _) hj)
  obtain ⟨B, hB⟩ : ∃ B, B = bl C (i : Int) C.length := ⟨_, rfl⟩
  have eR : rsR C i p = fxR C p B := by rw [hB]; rfl
  have eS : rsS C i = smW C B := by rw [hB]; rfl
  have eL : rsL C i p = lfR C (rsR C i p) (rsS C i) B := by rw [hB]; rfl
  have eG : sL C i p = B.map (spv C i p) := by rw [hB]; rfl
  have hbt : ∀ m, m < B.length → B.take m = bl C i (B.getD m default) := by rw [hB]; exact fun m hm => bl_take _ m hm
  have hBm : ∀ j ∈ B, j < C.length := fun j hj => bl_lt (Nat.le_refl _) (by rw [← hB]; exact hj)
  have hBl : B.length ≤ C.length := by rw [hB]; unfold bl; exact Nat.le_trans (List.length_filter_le _ _) (by simp)
  rw [← hB] at r8 hR sb
  simp (disch := first | assumption | omega | (simp only [az]; done)) only [ru, eq_self, if_true, if_false, BEq.rfl, binI, AO.row?, splice, fillL, mmAll, loadV, storeV, zeros, Am.rowAt, Am.part, addOff, Nat.reduceAdd, Nat.reduceMul, Nat.reduceLeDiff, Nat.reduceSub, Nat.reduceLT, Int.reduceEq, Int.reduceLT, Int.reduceLE, Int.reduceGT, Int.reduceGE, Int.reduceAdd, Int.reduceSub, Int.reduceMul, Int.reduceNeg, Int.reduceToNat, reduceCtorEq, reduceIte, lenV_sl hv, view_sl hv, scalar_sl hv, cells_sl hv, pure_sl hv, h48]
  obtain ⟨pre, hpre⟩ : ∃ pre, pre = [AO.cells [v] false] := ⟨_, rfl⟩
  have hp0 : ∀ m : List AO, (pre ++ m)[0]? = some (.cells [v] false) := fun m => by rw [hpre]; rfl
  have hpl : pre.length = 1 := by rw [hpre]; rfl
  refine G_loop_ind (fun y ts hk mk => ∃ (m : Nat) (J : List AO), m ≤ B.length ∧ y = B.length - m ∧ hk = pre ++ J ∧ OutE intL 1 pre.length (pre ++ J) (ts.getD 6 .undef) ((B.take m).map (fvV C i p)) ∧ ts.length = 111 ∧ ts.getD 1 .undef = I i ∧ ts.getD 3 .undef = .ptr 0 0 ∧ ts.getD 8 .undef = w ∧ ts.getD 9 .undef = I (fxR C p (B.take m)) ∧ ts.getD 10 .undef = I m ∧ mk = []) ?_ B.length _ _ _ ⟨0, [], Nat.zero_le _, rfl, by rw [hpre]; rfl, .inl ⟨rfl, rfl⟩, rfl, rfl, rfl, rfl, rfl, rfl, rfl⟩
  rintro y ts hk mk ih ⟨m, J, hm, rfl, rfl, ho, hl', q1, q3, q8, q9, q10, rfl⟩
  rw [lit_all hl']
  obtain ⟨w6, hw6⟩ : ∃ w, w = ts.getD 6 .undef := ⟨_, rfl⟩
  rw [← hw6] at ho
  have q6 := hw6.symm
  simp only [lit0, litS, Nat.reduceAdd, q1, q3, q6, q8, q9, q10]
  by_cases hlt : (m : Int) < B.length
  case pos =>
    have hm' : m < B.length := by omega
    obtain ⟨k, hk⟩ : ∃ k, k = B.getD m default := ⟨_, rfl⟩
    have hkn := hBm k (by rw [hk]; exact getD_mem hm')
    have hkz : (ofN B).getD m 0 = (k : Int) := by rw [ofN_at hm', hk]
    have lt4 : (m : Int) < ((ofN B).length : Int) := by rw [ofN_len]; exact hlt
    have lt6 : (k : Int) < C.length := by omega
    have tk := hbt m hm'
    rw [← hk] at tk
    have hmm : mmx false (fxR C p (B.take m)) (ndA C k).f = fvV C i p k := by rw [fvV, ← tk, mn_comm]; unfold mmx mn; simp
    have hR' := fxR_bd H hp (l := B.take m) (fun j hj => hBm j (List.mem_of_mem_take hj))
    have hf := H.f k hkn
    have hfv : 0 ≤ fvV C i p k ∧ fvV C i p k ≤ fxR C p (B.take m) := by rw [fvV, ← tk]; unfold mn; split <;> omega
    have ew := wr64 (n := fxR C p (B.take m) - fvV C i p k) (by omega) (by omega)
    have e2 : (B.take (m + 1)).map (fvV C i p) = (B.take m).map (fvV C i p) ++ [fvV C i p k] := by rw [take_snoc (d := default) hm', ← hk]; simp
    have e3 : fxR C p (B.take (m + 1)) = fxR C p (B.take m) - fvV C i p k := by rw [take_snoc (d := default) hm', ← hk, fxR_snoc, fvV, ← tk]
    obtain ⟨v', J', ha, ho'⟩ := outE_app (pre := pre) (J := J) (eb := 8) (lim := 0) intE intSc (by omega) (by omega) (by omega) ho (Nat.zero_le _) (by simp; omega) (fvV C i p k)
    simp (disch := first | assumption | omega | (simp only [az]; done)) only [ru, eq_self, if_true, if_false, BEq.rfl, binI, AO.row?, splice, fillL, mmAll, loadV, storeV, zeros, Am.rowAt, Am.part, addOff, Nat.reduceAdd, Nat.reduceMul, Nat.reduceLeDiff, Nat.reduceSub, Nat.reduceLT, Int.reduceEq, Int.reduceLT, Int.reduceLE, Int.reduceGT, Int.reduceGE, Int.reduceAdd, Int.reduceSub, Int.reduceMul, Int.reduceNeg, Int.reduceToNat, reduceCtorEq, reduceIte, hlt, lt4, lt6, lenV_sl hv, view_sl hv, scalar_sl hv, cells_sl hv, pure_sl hv, elem_nd hv, lenV_sl r8, elem_in r8, view_sl r8, scalar_sl r8, cells_sl r8, pure_sl r8, Int.toNat_natCast, ofN_len, hkz, Int.toNat_natCast, hp0, hmm, exOp_litS, ha, ew]
    exact ih (B.length - (m + 1)) _ _ _ (by omega) ⟨m + 1, J', by omega, rfl, rfl, by rw [e2]; exact ho', rfl, rfl, rfl, rfl, by rw [e3]; rfl, rfl, rfl⟩
  case neg =>
    obtain rfl : m = B.length := by omega
    rw [List.take_length] at ho q9
    clear ih
    by_cases hS : rsS C i = 0
    · have e1 : B.map (fvV C i p) = sL C i p := by rw [eG]; congr 1; funext j; rw [spv, if_pos hS]
      have e2 : fxR C p B = spk C i p := by rw [spk, if_pos hS, eR]
      rw [e1] at ho
      simp (disch := first | assumption | omega | (simp only [az]; done)) only [ru, eq_self, if_true, if_false, BEq.rfl, binI, AO.row?, splice, fillL, mmAll, loadV, storeV, zeros, Am.rowAt, Am.part, addOff, Nat.reduceAdd, Nat.reduceMul, Nat.reduceLeDiff, Nat.reduceSub, Nat.reduceLT, Int.reduceEq, Int.reduceLT, Int.reduceLE, Int.reduceGT, Int.reduceGE, Int.reduceAdd, Int.reduceSub, Int.reduceMul, Int.reduceNeg, Int.reduceToNat, reduceCtorEq, reduceIte, hlt, lenV_sl hv, view_sl hv, scalar_sl hv, cells_sl hv, pure_sl hv, lenV_sl r8, elem_in r8, view_sl r8, scalar_sl r8, cells_sl r8, pure_sl r8, Int.toNat_natCast, ofN_len, hp0, h50, hS, List.take_length, e2, ho.viewL]
    · have hS1 : 0 < rsS C i := by rw [eS] at hS ⊢; omega
      have hSb : (rsS C i == 0) = false := by simpa using hS
      rcases ho with ⟨e, _⟩ | ⟨_, o, ho1, hov, hoc⟩
      · exfalso; apply hS; rw [eS, List.map_eq_nil_iff.1 e]; rfl
      rw [List.length_map] at hov
      subst hov
      have hpt : ∀ j, j < C.length → 0 ≤ pt C (rsR C i p) (rsS C i) j ∧ pt C (rsR C i p) (rsS C i) j ≤ 9000 := by
        intro j hj
        obtain ⟨b1, b2, b3⟩ := pt_bd H (R := rsR C i p) (by rw [eR]; exact hR.1) hS1 hj
        have hw := H.w j hj
        refine ⟨b1, ?_⟩
        have e1 : rsR C i p * (ndA C j).w ≤ 1000 * 9 := Int.mul_le_mul (by rw [eR]; omega) (by omega) (by omega) (by omega)
        have e2 : 1 * pt C (rsR C i p) (rsS C i) j ≤ rsS C i * pt C (rsR C i p) (rsS C i) j := Int.mul_le_mul_of_nonneg_right (by omega) b1
        omega
      have hlb : ∀ m, m ≤ B.length → lfR C (rsR C i p) (rsS C i) (B.take m) ≤ rsR C i p ∧ rsR C i p - 9000 * m ≤ lfR C (rsR C i p) (rsS C i) (B.take m) := by
        intro m
        induction m with
        | zero => intro _; show rsR C i p ≤ rsR C i p ∧ rsR C i p - 9000 * ((0 : Nat) : Int) ≤ rsR C i p; omega
        | succ m ih =>
          intro hm
          have := ih (by omega)
          have hp9 := hpt (B.getD m default) (hBm _ (getD_mem (by omega)))
          rw [take_snoc (d := default) (by omega), lfR_snoc]; omega
      have c0 := hp0 J
      obtain ⟨g, hg⟩ : ∃ g, g = pre ++ J := ⟨_, rfl⟩
      rw [← hg] at c0 hoc
      have o0 : o ≠ 0 := by omega
      have hoc2 : g[o]? = some (.cells (((List.range B.length).map (h2 C i p B 0)).flatMap intL) false) := by
        have e : (h2 C i p B 0) = fun x => fvV C i p (B.getD x default) := by funext x; simp [h2]
        rw [hoc, map_rng, e]
      have z9 : fxR C p B = rsR C i p := eR.symm
      have f5 := fun st => h50 st
      simp (disch := first | assumption | omega | (simp only [az]; done)) only [ru, eq_self, if_true, if_false, BEq.rfl, binI, AO.row?, splice, fillL, mmAll, loadV, storeV, zeros, Am.rowAt, Am.part, addOff, Nat.reduceAdd, Nat.reduceMul, Nat.reduceLeDiff, Nat.reduceSub, Nat.reduceLT, Int.reduceEq, Int.reduceLT, Int.reduceLE, Int.reduceGT, Int.reduceGE, Int.reduceAdd, Int.reduceSub, Int.reduceMul, Int.reduceNeg, Int.reduceToNat, reduceCtorEq, reduceIte, hlt, lenV_sl hv, view_sl hv, scalar_sl hv, cells_sl hv, pure_sl hv, lenV_sl r8, elem_in r8, view_sl r8, scalar_sl r8, cells_sl r8, pure_sl r8, Int.toNat_natCast, ofN_len, hp0, ← hg, c0, h50, hSb, List.take_length, z9]
      refine G_loop_ind (fun y ts hk mk => ∃ m : Nat, m ≤ B.length ∧ y = B.length - m ∧ hk[0]? = some (.cells [v] false) ∧ hk[o]? = some (.cells (((List.range B.length).map (h2 C i p B m)).flatMap intL) false) ∧ ts.length = 111 ∧ ts.getD 3 .undef = .ptr 0 0 ∧ ts.getD 6 .undef = .ms 1 o 0 B.length ∧ ts.getD 8 .undef = w ∧ ts.getD 9 .undef = I (rsR C i p) ∧ ts.getD 12 .undef = I (rsS C i) ∧ ts.getD 13 .undef = I (lfR C (rsR C i p) (rsS C i) (B.take m)) ∧ ts.getD 14 .undef = I m ∧ mk = []) ?_ B.length _ _ _ ⟨0, Nat.zero_le _, rfl, c0, hoc2, rfl, rfl, rfl, rfl, rfl, rfl, rfl, rfl, rfl⟩
      clear hl' q1 q3 q6 q8 q9 q10 c0 hoc hoc2 hp0 hg hlt hm hw6 ts
      rintro y ts hk mk ih ⟨m, hm, rfl, c0, hoc, hl', q3, q6, q8, q9, q12, q13, q14, rfl⟩
      rw [lit_all hl']
      simp only [lit0, litS, Nat.reduceAdd, q3, q6, q8, q9, q12, q13, q14]
      by_cases hlt : (m : Int) < B.length
      case pos =>
        have hm' : m < B.length := by omega
        obtain ⟨k, hk'⟩ : ∃ k, k = B.getD m default := ⟨_, rfl⟩
        have hkn := hBm k (by rw [hk']; exact getD_mem hm')
        have hkz : (ofN B).getD m 0 = (k : Int) := by rw [ofN_at hm', hk']
        have lt4 : (m : Int) < ((ofN B).length : Int) := by rw [ofN_len]; exact hlt
        have lt6 : (k : Int) < C.length := by omega
        have hw9 := H.w k hkn
        have hR1 : 0 ≤ rsR C i p := by rw [eR]; exact hR.1
        have hR2 : rsR C i p ≤ 1000 := by rw [eR]; omega
        have m0 := Int.mul_nonneg hR1 hw9.1
        have m9 : rsR C i p * (ndA C k).w ≤ 1000 * 9 := Int.mul_le_mul (by omega) (by omega) (by omega) (by omega)
        have em := wr64 (n := rsR C i p * (ndA C k).w) (by omega) (by omega)
        obtain ⟨p0, p9⟩ := hpt k hkn
        have ep : (rsR C i p * (ndA C k).w).tdiv (rsS C i) = pt C (rsR C i p) (rsS C i) k := rfl
        have ewp := wr64 (n := pt C (rsR C i p) (rsS C i) k) (by omega) (by omega)
        have tk := hbt m hm'
        rw [← hk'] at tk
        have hRt := fxR_bd H hp (l := B.take m) (fun j hj => hBm j (List.mem_of_mem_take hj))
        have hf := H.f k hkn
        have hfv : 0 ≤ fvV C i p k ∧ fvV C i p k ≤ fxR C p (B.take m) := by rw [fvV, ← tk]; unfold mn; split <;> omega
        have ea := wr64 (n := fvV C i p k + pt C (rsR C i p) (rsS C i) k) (by omega) (by omega)
        have hlbm := hlb m (by omega)
        have el := wr64 (n := lfR C (rsR C i p) (rsS C i) (B.take m) - pt C (rsR C i p) (rsS C i) k) (by omega) (by omega)
        have e3 : lfR C (rsR C i p) (rsS C i) (B.take (m + 1)) = lfR C (rsR C i p) (rsS C i) (B.take m) - pt C (rsR C i p) (rsS C i) k := by rw [take_snoc (d := default) hm', ← hk', lfR_snoc]
        have hd := int_hd (l := (List.range B.length).map (h2 C i p B m)) (i := m) (by simpa using hm')
        rw [rmap_at hm', show h2 C i p B m m = fvV C i p k by rw [h2, if_neg (by omega), ← hk', Int.add_zero]] at hd
        have p1 := int_put (l := (List.range B.length).map (h2 C i p B m)) (i := m) (by simpa using hm') (fvV C i p k + pt C (rsR C i p) (rsS C i) k)
        rw [rmap_put (g := h2 C i p B (m + 1)) hm' (by rw [h2, if_pos (by omega), ← hk']) (fun x hx hn => by
          have : (x < m + 1) = (x < m) := by simp only [eq_iff_iff]; omega
          simp only [h2, this])] at p1
        have rl : (((List.range B.length).map (h2 C i p B m)).flatMap intL).length = B.length := by rw [flat_len intE]; simp
        obtain ⟨row, hrow⟩ : ∃ row, row = ((List.range B.length).map (h2 C i p B m)).flatMap intL := ⟨_, rfl⟩
        rw [← hrow] at hoc hd p1 rl
        have fit1 : m + 1 ≤ row.length := by omega
        simp (disch := first | assumption | omega | (simp only [az]; done)) only [ru, eq_self, if_true, if_false, BEq.rfl, binI, AO.row?, splice, fillL, mmAll, loadV, storeV, zeros, Am.rowAt, Am.part, addOff, Nat.reduceAdd, Nat.reduceMul, Nat.reduceLeDiff, Nat.reduceSub, Nat.reduceLT, Int.reduceEq, Int.reduceLT, Int.reduceLE, Int.reduceGT, Int.reduceGE, Int.reduceAdd, Int.reduceSub, Int.reduceMul, Int.reduceNeg, Int.reduceToNat, reduceCtorEq, reduceIte, hlt, lt4, lt6, lenV_sl hv, view_sl hv, scalar_sl hv, cells_sl hv, pure_sl hv, elem_nd hv, lenV_sl r8, elem_in r8, view_sl r8, scalar_sl r8, cells_sl r8, pure_sl r8, Int.toNat_natCast, ofN_len, hkz, Int.toNat_natCast, c0, em, hS, hSb, ep, ewp, Nat.mul_one, Nat.zero_add, hoc, hd, ea, fit1, p1, el]
        exact ih (B.length - (m + 1)) _ _ _ (by omega) ⟨m + 1, by omega, rfl, set_oth c0 o0, set_own hoc, rfl, rfl, rfl, rfl, rfl, rfl, by rw [e3]; rfl, rfl, rfl⟩
      case neg =>
        obtain rfl : m = B.length := by omega
        rw [List.take_length, ← eL] at q13
        clear ih
        have lb := rsL_bd H hp hS
        have hRb : rsR C i p ≤ 1000 := by rw [eR]; omega
        have hoc2 : hk[o]? = some (.cells (((List.range B.length).map (h3 C i p B 0)).flatMap intL) false) := by
          rw [hoc, List.map_congr_left (g := h3 C i p B 0)]
          intro x hx
          rw [List.mem_range] at hx
          simp [h2, h3, hx]
        simp (disch := first | assumption | omega | (simp only [az]; done)) only [ru, eq_self, if_true, if_false, BEq.rfl, binI, AO.row?, splice, fillL, mmAll, loadV, storeV, zeros, Am.rowAt, Am.part, addOff, Nat.reduceAdd, Nat.reduceMul, Nat.reduceLeDiff, Nat.reduceSub, Nat.reduceLT, Int.reduceEq, Int.reduceLT, Int.reduceLE, Int.reduceGT, Int.reduceGE, Int.reduceAdd, Int.reduceSub, Int.reduceMul, Int.reduceNeg, Int.reduceToNat, reduceCtorEq, reduceIte, hlt, lenV_sl hv, view_sl hv, scalar_sl hv, cells_sl hv, pure_sl hv, lenV_sl r8, elem_in r8, view_sl r8, scalar_sl r8, cells_sl r8, pure_sl r8, Int.toNat_natCast, ofN_len, List.take_length, ← eL]
        refine G_loop_ind (fun y ts hk mk => ∃ m : Nat, m ≤ B.length ∧ y = B.length - m ∧ hk[0]? = some (.cells [v] false) ∧ hk[o]? = some (.cells (((List.range B.length).map (h3 C i p B m)).flatMap intL) false) ∧ ts.length = 111 ∧ ts.getD 3 .undef = .ptr 0 0 ∧ ts.getD 6 .undef = .ms 1 o 0 B.length ∧ ts.getD 8 .undef = w ∧ ts.getD 13 .undef = I (exR C (rsL C i p) (B.take m)) ∧ ts.getD 16 .undef = I m ∧ mk = []) ?_ B.length _ _ _ ⟨0, Nat.zero_le _, rfl, c0, hoc2, rfl, rfl, rfl, rfl, rfl, rfl, rfl⟩
        clear hl' q3 q6 q8 q9 q12 q13 q14 c0 hoc hoc2 hlt hm ts
        rintro y ts hk mk ih ⟨m, hm, rfl, c0, hoc, hl', q3, q6, q8, q13, q16, rfl⟩
        rw [lit_all hl']
        simp only [lit0, litS, Nat.reduceAdd, q3, q6, q8, q13, q16]
        have rl : (((List.range B.length).map (h3 C i p B m)).flatMap intL).length = B.length := by rw [flat_len intE]; simp
        have eK : spk C i p = 0 := by rw [spk, if_neg hS]
        -- what is answered, as soon as nothing is left
        have fin : (m = B.length ∨ ¬ 0 < exR C (rsL C i p) (B.take m)) → (List.range B.length).map (h3 C i p B m) = sL C i p := fun c => by
          rw [eG, map_rng (B := B) (f := spv C i p)]
          refine List.map_congr_left fun x hx => ?_
          rw [List.mem_range] at hx
          rw [spv, if_neg hS, ← hbt x hx, h3]
          split
          · rfl
          · rename_i hxm
            rcases c with c | c
            · omega
            · have := exR_stop c x (by omega) (by omega)
              unfold exV
              rw [if_neg (fun d => this d.2)]
        by_cases hlt : (m : Int) < B.length
        case pos =>
          by_cases hlf : exR C (rsL C i p) (B.take m) > 0
          case pos =>
            have hm' : m < B.length := by omega
            obtain ⟨k, hk'⟩ : ∃ k, k = B.getD m default := ⟨_, rfl⟩
            have hkn := hBm k (by rw [hk']; exact getD_mem hm')
            have hkz : (ofN B).getD m 0 = (k : Int) := by rw [ofN_at hm', hk']
            have lt4 : (m : Int) < ((ofN B).length : Int) := by rw [ofN_len]; exact hlt
            have lt6 : (k : Int) < C.length := by omega
            have hw9 := H.w k hkn
            obtain ⟨b0, b1, _⟩ := exR_bd (C := C) lb.1 (l := B.take m)
            have tk := hbt m hm'
            rw [← hk'] at tk
            have e3 : exR C (rsL C i p) (B.take (m + 1)) = if 0 < (ndA C k).w ∧ 0 < exR C (rsL C i p) (B.take m) then exR C (rsL C i p) (B.take m) - 1 else exR C (rsL C i p) (B.take m) := by rw [take_snoc (d := default) hm', ← hk', exR_snoc]
            have nx : ∀ x, x ≠ m → h3 C i p B (m + 1) x = h3 C i p B m x := fun x hn => by
              have : (x < m + 1) = (x < m) := by simp only [eq_iff_iff]; omega
              simp only [h3, this]
            by_cases hw : (ndA C k).w > 0
            case pos =>
              rw [if_pos ⟨hw, hlf⟩] at e3
              have hRt := fxR_bd H hp (l := B.take m) (fun j hj => hBm j (List.mem_of_mem_take hj))
              have hf := H.f k hkn
              have hfv : 0 ≤ fvV C i p k ∧ fvV C i p k ≤ fxR C p (B.take m) := by rw [fvV, ← tk]; unfold mn; split <;> omega
              obtain ⟨p0, p9⟩ := hpt k hkn
              have ea := wr64 (n := fvV C i p k + pt C (rsR C i p) (rsS C i) k + 1) (by omega) (by omega)
              have el := wr64 (n := exR C (rsL C i p) (B.take m) - 1) (by omega) (by omega)
              have hd := int_hd (l := (List.range B.length).map (h3 C i p B m)) (i := m) (by simpa using hm')
              rw [rmap_at hm', show h3 C i p B m m = fvV C i p k + pt C (rsR C i p) (rsS C i) k by rw [h3, if_neg (by omega), ← hk', Int.add_zero]] at hd
              have p1 := int_put (l := (List.range B.length).map (h3 C i p B m)) (i := m) (by simpa using hm') (fvV C i p k + pt C (rsR C i p) (rsS C i) k + 1)
              rw [rmap_put (g := h3 C i p B (m + 1)) hm' (by rw [h3, if_pos (by omega), ← hk', exV, if_pos ⟨hw, hlf⟩]) (fun x hx hn => nx x hn)] at p1
              obtain ⟨row, hrow⟩ : ∃ row, row = ((List.range B.length).map (h3 C i p B m)).flatMap intL := ⟨_, rfl⟩
              rw [← hrow] at hoc hd p1 rl
              have fit1 : m + 1 ≤ row.length := by omega
              simp (disch := first | assumption | omega | (simp only [az]; done)) only [ru, eq_self, if_true, if_false, BEq.rfl, binI, AO.row?, splice, fillL, mmAll, loadV, storeV, zeros, Am.rowAt, Am.part, addOff, Nat.reduceAdd, Nat.reduceMul, Nat.reduceLeDiff, Nat.reduceSub, Nat.reduceLT, Int.reduceEq, Int.reduceLT, Int.reduceLE, Int.reduceGT, Int.reduceGE, Int.reduceAdd, Int.reduceSub, Int.reduceMul, Int.reduceNeg, Int.reduceToNat, reduceCtorEq, reduceIte, hlt, hlf, hw, lt4, lt6, lenV_sl hv, view_sl hv, scalar_sl hv, cells_sl hv, pure_sl hv, elem_nd hv, lenV_sl r8, elem_in r8, view_sl r8, scalar_sl r8, cells_sl r8, pure_sl r8, Int.toNat_natCast, ofN_len, hkz, Int.toNat_natCast, c0, gUn, decide_true, Nat.mul_one, Nat.zero_add, hoc, hd, ea, fit1, p1, el]
              exact ih (B.length - (m + 1)) _ _ _ (by omega) ⟨m + 1, by omega, rfl, set_oth c0 o0, set_own hoc, rfl, rfl, rfl, rfl, by rw [e3]; rfl, rfl, rfl⟩
            case neg =>
              rw [if_neg (fun c => hw c.1)] at e3
              have hoc2 : hk[o]? = some (.cells (((List.range B.length).map (h3 C i p B (m + 1))).flatMap intL) false) := by
                rw [hoc, List.map_congr_left (g := h3 C i p B (m + 1))]
                intro x hx
                by_cases e : x = m
                · subst e
                  rw [h3, h3, if_neg (by omega), if_pos (by omega), ← hk', exV, if_neg (fun c => hw c.1)]
                · exact (nx x e).symm
              simp (disch := first | assumption | omega | (simp only [az]; done)) only [ru, eq_self, if_true, if_false, BEq.rfl, binI, AO.row?, splice, fillL, mmAll, loadV, storeV, zeros, Am.rowAt, Am.part, addOff, Nat.reduceAdd, Nat.reduceMul, Nat.reduceLeDiff, Nat.reduceSub, Nat.reduceLT, Int.reduceEq, Int.reduceLT, Int.reduceLE, Int.reduceGT, Int.reduceGE, Int.reduceAdd, Int.reduceSub, Int.reduceMul, Int.reduceNeg, Int.reduceToNat, reduceCtorEq, reduceIte, hlt, hlf, hw, lt4, lt6, lenV_sl hv, view_sl hv, scalar_sl hv, cells_sl hv, pure_sl hv, elem_nd hv, lenV_sl r8, elem_in r8, view_sl r8, scalar_sl r8, cells_sl r8, pure_sl r8, Int.toNat_natCast, ofN_len, hkz, Int.toNat_natCast, c0, gUn, decide_true]
              exact ih (B.length - (m + 1)) _ _ _ (by omega) ⟨m + 1, by omega, rfl, c0, hoc2, rfl, rfl, rfl, rfl, by rw [e3]; rfl, rfl, rfl⟩
          case neg =>
            have ef := fin (.inr hlf)
            have el : (sL C i p).length = B.length := by rw [eG, List.length_map]
            rw [ef] at hoc
            have vw := viewB hoc (st := st) (n := 6)
            have vw7 := viewB hoc (st := st) (n := 7)
            rw [el] at vw vw7
            have er : slV 1 intL (sL C i p) = resL (sL C i p) := by unfold resL; rw [if_neg (fun e => by rw [e] at el; simp at el; omega)]
            simp (disch := first | assumption | omega | (simp only [az]; done)) only [ru, eq_self, if_true, if_false, BEq.rfl, binI, AO.row?, splice, fillL, mmAll, loadV, storeV, zeros, Am.rowAt, Am.part, addOff, Nat.reduceAdd, Nat.reduceMul, Nat.reduceLeDiff, Nat.reduceSub, Nat.reduceLT, Int.reduceEq, Int.reduceLT, Int.reduceLE, Int.reduceGT, Int.reduceGE, Int.reduceAdd, Int.reduceSub, Int.reduceMul, Int.reduceNeg, Int.reduceToNat, reduceCtorEq, reduceIte, hlt, hlf, lenV_sl hv, view_sl hv, scalar_sl hv, cells_sl hv, pure_sl hv, lenV_sl r8, elem_in r8, view_sl r8, scalar_sl r8, cells_sl r8, pure_sl r8, Int.toNat_natCast, ofN_len, gUn, decide_true, decide_false, vw, vw7, er, eK]
            done
        case neg =>
          have ef := fin (.inl (by omega))
          have el : (sL C i p).length = B.length := by rw [eG, List.length_map]
          rw [ef] at hoc
          have vw := viewB hoc (st := st) (n := 6)
          have vw7 := viewB hoc (st := st) (n := 7)
          rw [el] at vw vw7
          have hB0 : B.length ≠ 0 := fun e => by
            apply hS; rw [eS, List.length_eq_zero_iff.1 e]; rfl
          have er : slV 1 intL (sL C i p) = resL (sL C i p) := by unfold resL; rw [if_neg (fun e => by rw [e] at el; simp at el; omega)]
          simp (disch := first | assumption | omega | (simp only [az]; done)) only [ru, eq_self, if_true, if_false, BEq.rfl, binI, AO.row?, splice, fillL, mmAll, loadV, storeV, zeros, Am.rowAt, Am.part, addOff, Nat.reduceAdd, Nat.reduceMul, Nat.reduceLeDiff, Nat.reduceSub, Nat.reduceLT, Int.reduceEq, Int.reduceLT, Int.reduceLE, Int.reduceGT, Int.reduceGE, Int.reduceAdd, Int.reduceSub, Int.reduceMul, Int.reduceNeg, Int.reduceToNat, reduceCtorEq, reduceIte, hlt, lenV_sl hv, view_sl hv, scalar_sl hv, cells_sl hv, pure_sl hv, lenV_sl r8, elem_in r8, view_sl r8, scalar_sl r8, cells_sl r8, pure_sl r8, Int.toNat_natCast, ofN_len, gUn, decide_true, decide_false, vw, vw7, er, eK]
          done
end
end Go.Proofs.Ytaeijjfgfenfhaa.S

