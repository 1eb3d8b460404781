/-
The law of the parts.
-/
import Derived.Test.YtaeijjfgfenfhaaNqs
import Derived.Test.YtaeijjfgfenfhaaOh
namespace Go.Proofs.Ytaeijjfgfenfhaa.S
open Go Go.Am Go.Proofs.Ytaeijjfgfenfhaa.T
set_option maxRecDepth 100000
set_option linter.unusedSimpArgs false
set_option linter.unusedVariables false

set_option maxHeartbeats 1000000 in
theorem q58 {a b : Nat} (ha : a ≤ 1000000000000000) (hb : b ≤ 1000000000000000) (hb1 : 0 < b) (st : Bool) : Iso E 58 [I (a : Int), I (b : Int)] st = some (ratV (red a b)) := by
  refine Iso_of (es _ _ _ _) e58 ?_
  simp only [f58]
  have wn := wr64 (n := 0 - (a : Int)) (by omega) (by omega)
  have hmm : mmx true (a : Int) (0 - (a : Int)) = a := by unfold mmx; simp; omega
  simp (disch := first | assumption | omega | (simp only [az]; done)) only [ru, eq_self, if_true, if_false, BEq.rfl, binI, AO.row?, splice, fillL, mmAll, loadV, storeV, zeros, Am.rowAt, Am.part, addOff, Nat.reduceAdd, Nat.reduceMul, Nat.reduceLeDiff, Nat.reduceSub, Nat.reduceLT, Int.reduceEq, Int.reduceLT, Int.reduceLE, Int.reduceGT, Int.reduceGE, Int.reduceAdd, Int.reduceSub, Int.reduceMul, Int.reduceNeg, Int.reduceToNat, reduceCtorEq, reduceIte, wn, hmm]
  refine G_loop_ind (fun y ts hk mk => ∃ d r : Nat, y = r ∧ Nat.gcd d r = Nat.gcd b a ∧ d ≤ 1000000000000000 ∧ r ≤ 1000000000000000 ∧ hk = [.cells [I 0, I 0] false] ∧ ts.length = 25 ∧ ts.getD 0 .undef = I (a : Int) ∧ ts.getD 1 .undef = I (b : Int) ∧ ts.getD 4 .undef = .ptr 0 0 ∧ ts.getD 5 .undef = I (d : Int) ∧ ts.getD 6 .undef = I (r : Int) ∧ mk = []) ?_ b _ _ _ ⟨a, b, rfl, Nat.gcd_comm a b, ha, hb, rfl, rfl, rfl, rfl, rfl, rfl, rfl, rfl⟩
  rintro y ts hk mk ih ⟨d, r, rfl, hg, hd, hr, rfl, hl', q0, q1, q4, q5, q6, rfl⟩
  rw [lit_all hl']
  simp only [lit0, litS, Nat.reduceAdd, q0, q1, q4, q5, q6]
  by_cases c : (y : Int) > 0
  · have n0 : ¬ (y : Int) = 0 := by omega
    have tm : (d : Int).tmod (y : Int) = ((d % y : Nat) : Int) := rfl
    have hlt : d % y < y := Nat.mod_lt _ (by omega)
    simp (disch := first | assumption | omega | (simp only [az]; done)) only [ru, eq_self, if_true, if_false, BEq.rfl, binI, AO.row?, splice, fillL, mmAll, loadV, storeV, zeros, Am.rowAt, Am.part, addOff, Nat.reduceAdd, Nat.reduceMul, Nat.reduceLeDiff, Nat.reduceSub, Nat.reduceLT, Int.reduceEq, Int.reduceLT, Int.reduceLE, Int.reduceGT, Int.reduceGE, Int.reduceAdd, Int.reduceSub, Int.reduceMul, Int.reduceNeg, Int.reduceToNat, reduceCtorEq, reduceIte, c, n0, tm]
    refine ih (d % y) _ _ _ (by omega) ⟨y, d % y, rfl, ?_, by omega, by omega, rfl, rfl, rfl, rfl, rfl, rfl, rfl, rfl⟩
    rw [← hg, Nat.gcd_comm y, ← Nat.gcd_rec, Nat.gcd_comm]
  · obtain rfl : y = 0 := by omega
    rw [Nat.gcd_zero_right] at hg
    subst hg
    have hg0 : 0 < Nat.gcd b a := Nat.gcd_pos_of_pos_left _ hb1
    have n0 : ¬ ((Nat.gcd b a : Nat) : Int) = 0 := by omega
    have t1 : (a : Int).tdiv ((Nat.gcd b a : Nat) : Int) = ((a / Nat.gcd b a : Nat) : Int) := rfl
    have t2 : (b : Int).tdiv ((Nat.gcd b a : Nat) : Int) = ((b / Nat.gcd b a : Nat) : Int) := rfl
    have b1 := Nat.div_le_self a (Nat.gcd b a)
    have b2 := Nat.div_le_self b (Nat.gcd b a)
    have er : red a b = (a / Nat.gcd b a, b / Nat.gcd b a) := rfl
    rw [er]
    obtain ⟨x1, hx1⟩ : ∃ x, x = a / Nat.gcd b a := ⟨_, rfl⟩
    obtain ⟨x2, hx2⟩ : ∃ x, x = b / Nat.gcd b a := ⟨_, rfl⟩
    rw [← hx1] at t1 b1 ⊢
    rw [← hx2] at t2 b2 ⊢
    have w1 := wr64 (n := (x1 : Int)) (by omega) (by omega)
    have w2 := wr64 (n := (x2 : Int)) (by omega) (by omega)
    simp (disch := first | assumption | omega | (simp only [az]; done)) only [ru, eq_self, if_true, if_false, BEq.rfl, binI, AO.row?, splice, fillL, mmAll, loadV, storeV, zeros, Am.rowAt, Am.part, addOff, Nat.reduceAdd, Nat.reduceMul, Nat.reduceLeDiff, Nat.reduceSub, Nat.reduceLT, Int.reduceEq, Int.reduceLT, Int.reduceLE, Int.reduceGT, Int.reduceGE, Int.reduceAdd, Int.reduceSub, Int.reduceMul, Int.reduceNeg, Int.reduceToNat, reduceCtorEq, reduceIte, c, n0, t1, t2, w1, w2, finC, getRes, Option.some.injEq, exists_eq_left', view_agg]
/-- a part that may be -/
theorem q57 {a b : Nat} (hb : b ≤ 536870912) (hb1 : 0 < b) (hab : a ≤ b) (hr : red a b = (a, b)) (st : Bool) : Iso E 57 [ratV (a, b)] st = some (Bo true) := by
  refine Iso_of (es _ _ _ _) e57 ?_
  simp only [f57]
  have h1 : (b : Int) ≥ 1 := by omega
  have h2 : (b : Int) ≤ 536870912 := by omega
  have h3 : (a : Int) ≥ 0 := by omega
  have h4 : (a : Int) ≤ (b : Int) := by omega
  have h58 := fun st => q58 (a := a) (b := b) (by omega) (by omega) hb1 st
  rw [hr] at h58
  have eq : ∀ a b : Int, eqCells [true, true] [I a, I b] [I a, I b] = some true := fun a b => by simp [eqCells]
  simp (disch := first | assumption | omega | (simp only [az]; done)) only [ru, eq_self, if_true, if_false, BEq.rfl, binI, AO.row?, splice, fillL, mmAll, loadV, storeV, zeros, Am.rowAt, Am.part, addOff, Nat.reduceAdd, Nat.reduceMul, Nat.reduceLeDiff, Nat.reduceSub, Nat.reduceLT, Int.reduceEq, Int.reduceLT, Int.reduceLE, Int.reduceGT, Int.reduceGE, Int.reduceAdd, Int.reduceSub, Int.reduceMul, Int.reduceNeg, Int.reduceToNat, reduceCtorEq, reduceIte, h1, h2, h3, h4, decide_true, gUn, h58, pex_eqS, eq, Option.map_some]
theorem set_own' {h : List AO} {o : Nat} {x y : AO} (hj : h[o]? = some x) : (h.set o y)[o]? = some y := List.getElem?_set_self (List.getElem?_eq_some_iff.1 hj).1
theorem set_oth' {h : List AO} {o j : Nat} {x y : AO} (hj : h[j]? = some x) (e : o ≠ j) : (h.set o y)[j]? = some x := by rw [List.getElem?_set_ne e]; exact hj
def sumF (f : Nat → Nat) (l : List Nat) : Nat := l.foldl (fun r k => r + f k) 0
theorem sumF_snoc {f : Nat → Nat} {l : List Nat} {k : Nat} : sumF f (l ++ [k]) = sumF f l + f k := by unfold sumF; rw [List.foldl_append]; rfl
theorem sumF_le {f : Nat → Nat} {q : Nat} {l : List Nat} (h : ∀ k ∈ l, f k ≤ q) : sumF f l ≤ l.length * q := by
  refine snocRec (fun l => (∀ k ∈ l, f k ≤ q) → sumF f l ≤ l.length * q) l (fun _ => by simp [sumF]) ?_ h
  intro l c ih h
  rw [sumF_snoc, List.length_append, List.length_singleton, Nat.add_mul, Nat.one_mul]
  have := ih fun k hk => h k (by simp [hk])
  have := h c (by simp)
  omega
theorem sumF_w {C : List Nd} (H : CuOk C) {f : Nat → Nat} {N : Nat} {l : List Nat} (hl : ∀ k ∈ l, k < C.length) (h : ∀ k ∈ l, f k = N * (ndA C k).w.toNat) : sumF f l = N * (smW C l).toNat := by
  refine (snocRec (fun l => (∀ k ∈ l, k < C.length) → (∀ k ∈ l, f k = N * (ndA C k).w.toNat) → sumF f l = N * (smW C l).toNat ∧ 0 ≤ smW C l) l (fun _ _ => by simp [sumF, smW]) ?_ hl h).1
  intro l c ih hl h
  obtain ⟨i1, i2⟩ := ih (fun k hk => hl k (by simp [hk])) fun k hk => h k (by simp [hk])
  have hw := H.w c (hl c (by simp))
  rw [sumF_snoc, smW_snoc, i1, h c (by simp), ← Nat.mul_add]
  refine ⟨?_, by omega⟩
  congr 1; omega
/-- the parts of the nodes below one have one denominator -/
theorem parts {C : List Nd} (H : CuOk C) {i : Nat} (hi : i < C.length) : ∃ (f : Nat → Nat) (Q : Nat), 0 < Q ∧ Q ≤ 4782969 ∧ (∀ k ∈ bl C (i : Int) C.length, exA C k = (f k, Q) ∧ f k ≤ Q) ∧
    (if rsS C i = 0 then sumF f (bl C (i : Int) C.length) = 0 else red (sumF f (bl C (i : Int) C.length)) Q = red (exA C i).1 (exA C i).2) := by
  have bd := exA_bd H i hi
  have key : ∀ k ∈ bl C (i : Int) C.length, 1 ≤ k ∧ k < C.length ∧ (ndA C k).up = i := fun k hk => by
    obtain ⟨h1, h2⟩ := mem_bl.1 hk
    refine ⟨?_, h1, h2⟩
    by_cases e : k = 0
    · subst e; rw [H.top] at h2; omega
    · omega
  by_cases hS : rsS C i = 0
  · refine ⟨fun _ => 0, 1, by omega, by omega, fun k hk => ?_, ?_⟩
    · obtain ⟨h1, h2, h3⟩ := key k hk
      rw [exA_eq H h1 h2, h3, if_pos hS]; exact ⟨rfl, Nat.zero_le _⟩
    · rw [if_pos hS, sumF_w H (N := 0) (fun k hk => (key k hk).2.1) (fun k hk => by simp)]; simp
  · have hs := rsS_bd H (i := (i : Int))
    by_cases hB : bl C (i : Int) C.length = []
    · exfalso; apply hS; unfold rsS; rw [hB]; rfl
    obtain ⟨k0, hk0⟩ := List.exists_mem_of_ne_nil _ hB
    have hx : ∀ k ∈ bl C (i : Int) C.length, exA C k = ((exA C i).1 * (ndA C k).w.toNat, (exA C i).2 * (rsS C i).toNat) := fun k hk => by
      obtain ⟨h1, h2, h3⟩ := key k hk
      rw [exA_eq H h1 h2, h3, if_neg hS, Int.toNat_natCast]
    refine ⟨fun k => (exA C i).1 * (ndA C k).w.toNat, (exA C i).2 * (rsS C i).toNat, Nat.mul_pos bd.2.1 (by omega), ?_, fun k hk => ⟨hx k hk, ?_⟩, ?_⟩
    · have := exA_2 H (key k0 hk0).2.1
      rw [hx k0 hk0] at this; exact this
    · have := (exA_bd9 H k (key k hk).2.1).2
      rw [hx k hk] at this; exact this
    · rw [if_neg hS, sumF_w H (N := (exA C i).1) (fun k hk => (key k hk).2.1) (fun k hk => rfl)]
      show red ((exA C i).1 * (rsS C i).toNat) ((exA C i).2 * (rsS C i).toNat) = _
      rw [Nat.mul_comm _ (rsS C i).toNat, Nat.mul_comm (exA C i).2]
      exact red_mul (by omega)
section
variable {C : List Nd} {v : AV} (hv : IsSl 3 Nd.e C v)
include hv
theorem x33r (H : CuOk C) {j : Nat} (hj : j < C.length) (st : Bool) : Iso E 33 [cuV v, I j] st = some (.tup [ratV (red (exA C j).1 (exA C j).2), I 0]) := by
  have h := t33 hv (by have := H.n8; omega) (j : Int) st
  have e : exE C j = 0 := by unfold exE; rw [fit_val H, if_pos (inR_iff.2 (by omega))]
  unfold exR2 at h
  rw [e, if_pos rfl, Int.toNat_natCast] at h
  exact h
set_option maxHeartbeats 4000000 in
theorem l14 (i : Int) (st : Bool) : Iso E 14 [cuV v, I i] st = some (Bo true) := by
  refine Iso_of (es _ _ _ _) e14 ?_
  simp only [f14]
  cases hr : rdy C
  · simp (disch := first | assumption | omega | (simp only [az]; done)) only [ru, eq_self, if_true, if_false, BEq.rfl, binI, AO.row?, splice, fillL, mmAll, loadV, storeV, zeros, Am.rowAt, Am.part, addOff, Nat.reduceAdd, Nat.reduceMul, Nat.reduceLeDiff, Nat.reduceSub, Nat.reduceLT, Int.reduceEq, Int.reduceLT, Int.reduceLE, Int.reduceGT, Int.reduceGE, Int.reduceAdd, Int.reduceSub, Int.reduceMul, Int.reduceNeg, Int.reduceToNat, reduceCtorEq, reduceIte, lenV_sl hv, view_sl hv, scalar_sl hv, cells_sl hv, pure_sl hv, t45r hv, hr, Bool.not_false, gUn, t17]
  obtain ⟨H, hl⟩ := rdy_ok hr
  cases hi : inR i 0 (C.length - 1)
  · simp (disch := first | assumption | omega | (simp only [az]; done)) only [ru, eq_self, if_true, if_false, BEq.rfl, binI, AO.row?, splice, fillL, mmAll, loadV, storeV, zeros, Am.rowAt, Am.part, addOff, Nat.reduceAdd, Nat.reduceMul, Nat.reduceLeDiff, Nat.reduceSub, Nat.reduceLT, Int.reduceEq, Int.reduceLT, Int.reduceLE, Int.reduceGT, Int.reduceGE, Int.reduceAdd, Int.reduceSub, Int.reduceMul, Int.reduceNeg, Int.reduceToNat, reduceCtorEq, reduceIte, lenV_sl hv, view_sl hv, scalar_sl hv, cells_sl hv, pure_sl hv, t45r hv, hr, Bool.not_true, Bool.not_false, gUn, t49 hv hl, hi, t17]
  have hi' := inR_iff.1 hi
  obtain ⟨j, rfl⟩ : ∃ j : Nat, i = j := ⟨i.toNat, by omega⟩
  have hj : j < C.length := by omega
  have n8 := H.n8
  have e0 : red (exA C 0).1 (exA C 0).2 = (1, 1) := by rw [exA_zero]; rfl
  have x0 : ∀ st, Iso E 33 [cuV v, I 0] st = some (.tup [.agg [I 1, I 1], I 0]) := fun st => by
    have h := x33r hv H (j := 0) (by omega) st
    rw [e0] at h; exact h
  have xj := fun st => x33r hv H hj st
  have bj := exA_bd H j hj
  have dj := exA_2 H hj
  have lj := red_le (a := (exA C j).1) (b := (exA C j).2)
  obtain ⟨_, _, _, _, pj⟩ := red_spec (a := (exA C j).1) bj.2.1
  have q7 := fun st => q57 (a := (red (exA C j).1 (exA C j).2).1) (b := (red (exA C j).1 (exA C j).2).2) (by omega) pj (red_num bj.2.1 (exA_bd9 H j hj).2) (red_idem bj.2.1) st
  obtain ⟨f, Q, hQ, hQ2, hf, hfin⟩ := parts H hj
  have h48 := fun st => t48 hv H (i := (j : Int)) (by omega) st
  have h50 := fun st => t50 hv H (i := (j : Int)) (by omega) st
  have r9 := resL_is (ofN (bl C (j : Int) C.length))
  obtain ⟨w, hw⟩ : ∃ w, w = resL (ofN (bl C (j : Int) C.length)) := ⟨_, rfl⟩
  rw [← hw] at h48 r9
  obtain ⟨B, hB⟩ : ∃ B, B = bl C (j : Int) C.length := ⟨_, rfl⟩
  rw [← hB] at r9 hf hfin
  have hBm : ∀ k ∈ B, k < C.length := fun k hk => bl_lt (Nat.le_refl _) (by rw [← hB]; exact hk)
  have hBl : B.length ≤ C.length := by rw [hB]; unfold bl; exact Nat.le_trans (List.length_filter_le _ _) (by simp)
  obtain ⟨⟨r1, r2⟩, hrr⟩ : ∃ r, r = red (exA C j).1 (exA C j).2 := ⟨_, rfl⟩
  rw [← hrr] at xj q7 hfin
  have n00 : ((0 : Int) != 0) = false := rfl
  have eq : ∀ a b : Int, eqCells [true, true] [I a, I b] [I a, I b] = some true := fun a b => by simp [eqCells]
  by_cases hb0 : (B.length : Int) = 0
  · have hb0' : ((B.length : Int) == 0) = true := by simp [hb0]
    simp (disch := first | assumption | omega | (simp only [az]; done)) only [ru, eq_self, if_true, if_false, BEq.rfl, binI, AO.row?, splice, fillL, mmAll, loadV, storeV, zeros, Am.rowAt, Am.part, addOff, Nat.reduceAdd, Nat.reduceMul, Nat.reduceLeDiff, Nat.reduceSub, Nat.reduceLT, Int.reduceEq, Int.reduceLT, Int.reduceLE, Int.reduceGT, Int.reduceGE, Int.reduceAdd, Int.reduceSub, Int.reduceMul, Int.reduceNeg, Int.reduceToNat, reduceCtorEq, reduceIte, lenV_sl hv, view_sl hv, scalar_sl hv, cells_sl hv, pure_sl hv, t45r hv, hr, Bool.not_true, Bool.not_false, gUn, t49 hv hl, hi, x0, xj, n00, pex_eqS, eq, Option.map_some, q7, h48, lenV_sl r9, view_sl r9, scalar_sl r9, cells_sl r9, pure_sl r9, ofN_len, hb0', t17]
    done
  have hb0' : ((B.length : Int) == 0) = false := by simpa using hb0
  simp (disch := first | assumption | omega | (simp only [az]; done)) only [ru, eq_self, if_true, if_false, BEq.rfl, binI, AO.row?, splice, fillL, mmAll, loadV, storeV, zeros, Am.rowAt, Am.part, addOff, Nat.reduceAdd, Nat.reduceMul, Nat.reduceLeDiff, Nat.reduceSub, Nat.reduceLT, Int.reduceEq, Int.reduceLT, Int.reduceLE, Int.reduceGT, Int.reduceGE, Int.reduceAdd, Int.reduceSub, Int.reduceMul, Int.reduceNeg, Int.reduceToNat, reduceCtorEq, reduceIte, lenV_sl hv, view_sl hv, scalar_sl hv, cells_sl hv, pure_sl hv, t45r hv, hr, Bool.not_true, Bool.not_false, gUn, t49 hv hl, hi, x0, xj, n00, pex_eqS, eq, Option.map_some, q7, h48, lenV_sl r9, view_sl r9, scalar_sl r9, cells_sl r9, pure_sl r9, ofN_len, hb0', t17]
  refine G_loop_ind (fun y ts hk mk => ∃ m : Nat, m ≤ B.length ∧ y = B.length - m ∧ hk[0]? = some (.cells [v] false) ∧ hk[2]? = some (.cells [I (r1 : Int), I (r2 : Int)] false) ∧ hk[3]? = some (.cells [I ((red (sumF f (B.take m)) Q).1 : Int), I ((red (sumF f (B.take m)) Q).2 : Int)] false) ∧ ts.length = 117 ∧ ts.getD 1 .undef = I j ∧ ts.getD 2 .undef = .ptr 0 0 ∧ ts.getD 7 .undef = .ptr 2 0 ∧ ts.getD 9 .undef = w ∧ ts.getD 10 .undef = .ptr 3 0 ∧ ts.getD 11 .undef = I m ∧ mk = []) ?_ B.length _ _ _ ⟨0, Nat.zero_le _, rfl, rfl, rfl, by rw [List.take_zero, show sumF f [] = 0 from rfl, red_zero hQ]; rfl, rfl, rfl, rfl, rfl, rfl, rfl, rfl, rfl⟩
  rintro y ts hk mk ih ⟨m, hm, rfl, c0, c2, c3, hl', q1, q2, q7', q9, q10, q11, rfl⟩
  rw [lit_all hl']
  simp only [lit0, litS, Nat.reduceAdd, q1, q2, q7', q9, q10, q11]
  have hsl := sumF_le (f := f) (q := Q) (l := B.take m) fun k hk => (hf k (List.mem_of_mem_take hk)).2
  have htl : (B.take m).length ≤ 8 := by rw [List.length_take]; omega
  have hsq : sumF f (B.take m) ≤ 8 * 4782969 := Nat.le_trans hsl (Nat.mul_le_mul htl hQ2)
  have lx := red_le (a := sumF f (B.take m)) (b := Q)
  by_cases hlt : (m : Int) < B.length
  · have hm' : m < B.length := by omega
    obtain ⟨k, hk'⟩ : ∃ k, k = B.getD m default := ⟨_, rfl⟩
    have hkm : k ∈ B := by rw [hk']; exact getD_mem hm'
    have hkn := hBm k hkm
    have hkz : (ofN B).getD m 0 = (k : Int) := by rw [ofN_at hm', hk']
    have lt4 : (m : Int) < ((ofN B).length : Int) := by rw [ofN_len]; exact hlt
    obtain ⟨f1, f2⟩ := hf k hkm
    have xk := fun st => x33r hv H hkn st
    rw [f1] at xk
    have ly := red_le (a := f k) (b := Q)
    obtain ⟨_, _, _, _, py⟩ := red_spec (a := f k) hQ
    obtain ⟨_, _, _, _, px⟩ := red_spec (a := sumF f (B.take m)) hQ
    have q8 := fun st => q57 (a := (red (f k) Q).1) (b := (red (f k) Q).2) (by omega) py (red_num hQ f2) (red_idem hQ) st
    have ra := red_add (a := sumF f (B.take m)) (b := f k) hQ
    have e3 : sumF f (B.take (m + 1)) = sumF f (B.take m) + f k := by rw [take_snoc (d := default) hm', ← hk', sumF_snoc]
    have hd2 := (red_le (a := sumF f (B.take m) + f k) (b := Q)).2
    obtain ⟨⟨x1, x2⟩, hx⟩ : ∃ x, x = red (sumF f (B.take m)) Q := ⟨_, rfl⟩
    obtain ⟨⟨y1, y2⟩, hy⟩ : ∃ y, y = red (f k) Q := ⟨_, rfl⟩
    rw [← hx] at c3 lx px ra
    rw [← hy] at xk ly py q8 ra
    dsimp only at xk lx ly px py q8 ra c3
    have m1 : x1 * y2 ≤ (8 * 4782969) * 4782969 := Nat.mul_le_mul (by omega) (by omega)
    have m2 : y1 * x2 ≤ 4782969 * 4782969 := Nat.mul_le_mul (by omega) (by omega)
    have m3 : x2 * y2 ≤ 4782969 * 4782969 := Nat.mul_le_mul (by omega) (by omega)
    have p3 : 0 < x2 * y2 := Nat.mul_pos px py
    have a1 : (x1 : Int) * (y2 : Int) = ((x1 * y2 : Nat) : Int) := rfl
    have a2 : (y1 : Int) * (x2 : Int) = ((y1 * x2 : Nat) : Int) := rfl
    have a3 : (x2 : Int) * (y2 : Int) = ((x2 * y2 : Nat) : Int) := rfl
    obtain ⟨z1, hz1⟩ : ∃ z, z = x1 * y2 := ⟨_, rfl⟩
    obtain ⟨z2, hz2⟩ : ∃ z, z = y1 * x2 := ⟨_, rfl⟩
    obtain ⟨z3, hz3⟩ : ∃ z, z = x2 * y2 := ⟨_, rfl⟩
    rw [← hz1] at a1 m1 ra
    rw [← hz2] at a2 m2 ra
    rw [← hz3] at a3 m3 p3 ra
    have a4 : (z1 : Int) + (z2 : Int) = ((z1 + z2 : Nat) : Int) := rfl
    have h58 := fun st => q58 (a := z1 + z2) (b := z3) (by omega) (by omega) p3 st
    rw [ra] at h58
    obtain ⟨z4, hz4⟩ : ∃ z, z = z1 + z2 := ⟨_, rfl⟩
    rw [← hz4] at a4 h58
    have w1 := wr64 (n := (z1 : Int)) (by omega) (by omega)
    have w2 := wr64 (n := (z2 : Int)) (by omega) (by omega)
    have w3 := wr64 (n := (z3 : Int)) (by omega) (by omega)
    have w4 := wr64 (n := (z4 : Int)) (by omega) (by omega)
    obtain ⟨⟨n1, n2⟩, hn⟩ : ∃ x, x = red (sumF f (B.take m) + f k) Q := ⟨_, rfl⟩
    rw [← hn] at h58 hd2
    dsimp only at h58 hd2
    have hng : ¬ (n2 : Int) > 536870912 := by omega
    have c3l := (List.getElem?_eq_some_iff.1 c3).1
    have k0 : ∀ X : List AO, (hk ++ X)[0]? = some (.cells [v] false) := fun X => at_up c0
    have k3 : ∀ X : List AO, (hk ++ X)[3]? = some (.cells [I (x1 : Int), I (x2 : Int)] false) := fun X => at_up c3
    have s3 : ∀ (X : List AO) (c : AO), (hk ++ X).set 3 c = hk.set 3 c ++ X := fun X c => List.set_append_left _ _ c3l
    have g3 : ∀ (X : List AO) (c : AO), (hk.set 3 c ++ X)[3]? = some c := fun X c => at_up (set_own' c3)
    simp (disch := first | assumption | omega | (simp only [az]; done)) only [ru, eq_self, if_true, if_false, BEq.rfl, binI, AO.row?, splice, fillL, mmAll, loadV, storeV, zeros, Am.rowAt, Am.part, addOff, Nat.reduceAdd, Nat.reduceMul, Nat.reduceLeDiff, Nat.reduceSub, Nat.reduceLT, Int.reduceEq, Int.reduceLT, Int.reduceLE, Int.reduceGT, Int.reduceGE, Int.reduceAdd, Int.reduceSub, Int.reduceMul, Int.reduceNeg, Int.reduceToNat, reduceCtorEq, reduceIte, hlt, lt4, lenV_sl hv, view_sl hv, scalar_sl hv, cells_sl hv, pure_sl hv, lenV_sl r9, elem_in r9, view_sl r9, scalar_sl r9, cells_sl r9, pure_sl r9, Int.toNat_natCast, ofN_len, hkz, hideN, hideC, GO_mload, GO_mcall1, unhN, unhC, c0, c3, k0, k3, s3, g3, lenE, setE, atE, xk, n00, q8, a1, a2, a3, a4, w1, w2, w3, w4, h58, hng, gUn, Bool.not_true]
    exact ih (B.length - (m + 1)) _ _ _ (by omega) ⟨m + 1, by omega, rfl, at_up (set_oth' c0 (by omega)), at_up (set_oth' c2 (by omega)), by rw [e3, ← hn]; exact at_up (set_own' c3), rfl, rfl, rfl, rfl, rfl, rfl, rfl, rfl⟩
  · obtain rfl : m = B.length := by omega
    rw [List.take_length] at c3
    by_cases hS : rsS C j = 0
    · rw [if_pos hS] at hfin
      rw [hfin, red_zero hQ] at c3
      have bS : (rsS C j == 0) = true := by simp [hS]
      simp (disch := first | assumption | omega | (simp only [az]; done)) only [ru, eq_self, if_true, if_false, BEq.rfl, binI, AO.row?, splice, fillL, mmAll, loadV, storeV, zeros, Am.rowAt, Am.part, addOff, Nat.reduceAdd, Nat.reduceMul, Nat.reduceLeDiff, Nat.reduceSub, Nat.reduceLT, Int.reduceEq, Int.reduceLT, Int.reduceLE, Int.reduceGT, Int.reduceGE, Int.reduceAdd, Int.reduceSub, Int.reduceMul, Int.reduceNeg, Int.reduceToNat, reduceCtorEq, reduceIte, hlt, lenV_sl hv, view_sl hv, scalar_sl hv, cells_sl hv, pure_sl hv, lenV_sl r9, view_sl r9, scalar_sl r9, cells_sl r9, pure_sl r9, ofN_len, c0, c2, c3, h50, bS, gUn, t17]
      done
    · rw [if_neg hS] at hfin
      rw [hfin] at c3
      have bS : (rsS C j == 0) = false := by simpa using hS
      simp (disch := first | assumption | omega | (simp only [az]; done)) only [ru, eq_self, if_true, if_false, BEq.rfl, binI, AO.row?, splice, fillL, mmAll, loadV, storeV, zeros, Am.rowAt, Am.part, addOff, Nat.reduceAdd, Nat.reduceMul, Nat.reduceLeDiff, Nat.reduceSub, Nat.reduceLT, Int.reduceEq, Int.reduceLT, Int.reduceLE, Int.reduceGT, Int.reduceGE, Int.reduceAdd, Int.reduceSub, Int.reduceMul, Int.reduceNeg, Int.reduceToNat, reduceCtorEq, reduceIte, hlt, lenV_sl hv, view_sl hv, scalar_sl hv, cells_sl hv, pure_sl hv, lenV_sl r9, view_sl r9, scalar_sl r9, cells_sl r9, pure_sl r9, ofN_len, c0, c2, c3, h50, bS, gUn, pex_eqS, eq, Option.map_some, t17]
      done
end
end Go.Proofs.Ytaeijjfgfenfhaa.S

