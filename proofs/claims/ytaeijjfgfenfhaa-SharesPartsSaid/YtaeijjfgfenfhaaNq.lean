/-
Each is paid once: the sums; the specification's nodes below a node.
-/
import Derived.Test.YtaeijjfgfenfhaaNp
namespace Go.Proofs.Ytaeijjfgfenfhaa.S
open Go Go.Am Go.Proofs.Ytaeijjfgfenfhaa.T
set_option maxRecDepth 100000
set_option linter.unusedSimpArgs false
set_option linter.unusedVariables false

theorem sV_range {g : Nat → Int} {n : Nat} : smV g (List.range (n + 1)) = smV g (List.range n) + g n := by rw [List.range_succ, smV_snoc]
theorem sV_add {f g : Nat → Int} : ∀ n, smV (fun j => f j + g j) (List.range n) = smV f (List.range n) + smV g (List.range n)
  | 0 => rfl
  | n + 1 => by rw [sV_range, sV_range, sV_range, sV_add n]; omega
theorem sV_congr {f g : Nat → Int} : ∀ n, (∀ j, j < n → f j = g j) → smV f (List.range n) = smV g (List.range n)
  | 0, _ => rfl
  | n + 1, h => by rw [sV_range, sV_range, sV_congr n (fun j hj => h j (by omega)), h n (by omega)]
theorem sV_bl {C : List Nd} {g : Nat → Int} {i : Int} : ∀ n, smV g (bl C i n) = smV (fun j => if (ndA C j).up = i then g j else 0) (List.range n)
  | 0 => rfl
  | n + 1 => by
    rw [sV_range, ← sV_bl n]
    by_cases h : (ndA C n).up = i
    · rw [bl_yes h, smV_snoc, if_pos h]
    · rw [bl_no h, if_neg h]; omega
section
variable {C : List Nd} (H : CuOk C)
include H
theorem g_below {p : Int} {i j : Nat} (hj : j ∈ bl C i C.length) : gG C p j = spv C i (gG C p i) j := by
  obtain ⟨h1, h2⟩ := mem_bl.1 hj
  have : j ≠ 0 := by rintro rfl; rw [H.top] at h2; omega
  rw [gG_eq H (by omega) h1, h2, Int.toNat_natCast]
omit H in
theorem smV_mem {f g : Nat → Int} (l : List Nat) (h : ∀ j ∈ l, f j = g j) : smV f l = smV g l := by
  revert h
  refine snocRec (fun l => (∀ j ∈ l, f j = g j) → smV f l = smV g l) l (fun _ => rfl) ?_
  intro l c ih h
  rw [smV_snoc, smV_snoc, ih fun j hj => h j (by simp [hj]), h c (by simp)]
/-- what a node gets is what it keeps, and what all below it get -/
theorem g_split {p : Int} (hp : 0 ≤ p) {i : Nat} (hi : i < C.length) : smV (gG C p) (bl C i C.length) + kK C p i = gG C p i := by
  have := sp_sum H (i := (i : Int)) (gG_bd H hp i hi).1
  rw [← smV_mem (f := gG C p) (bl C i C.length) fun j hj => g_below H hj] at this
  exact this
theorem k_sum {p : Int} (hp : 0 ≤ p) : smV (kK C p) (List.range C.length) = p := by
  have key : ∀ M, M ≤ C.length → smV (kK C p) (List.range M) + smV (fun j => if 0 ≤ (ndA C j).up ∧ (ndA C j).up < M then gG C p j else 0) (List.range C.length) = smV (gG C p) (List.range M) := by
    intro M
    induction M with
    | zero =>
      intro _
      have : smV (fun j => if 0 ≤ (ndA C j).up ∧ (ndA C j).up < ((0 : Nat) : Int) then gG C p j else 0) (List.range C.length) = smV (fun _ => 0) (List.range C.length) := sV_congr _ fun j hj => by rw [if_neg (by omega)]
      rw [this]
      have z : ∀ n, smV (fun _ => 0) (List.range n) = 0 := by
        intro n
        induction n with
        | zero => rfl
        | succ n ih => rw [sV_range, ih]; rfl
      rw [z]; rfl
    | succ M ih =>
      intro hM
      have ih := ih (by omega)
      have h1 := g_split H hp (i := M) (by omega)
      rw [sV_bl] at h1
      have h2 : smV (fun j => if 0 ≤ (ndA C j).up ∧ (ndA C j).up < ((M + 1 : Nat) : Int) then gG C p j else 0) (List.range C.length) = smV (fun j => (if 0 ≤ (ndA C j).up ∧ (ndA C j).up < (M : Int) then gG C p j else 0) + (if (ndA C j).up = (M : Int) then gG C p j else 0)) (List.range C.length) := sV_congr _ fun j hj => by
        by_cases e : (ndA C j).up = (M : Int)
        · rw [if_pos (by omega), if_neg (by omega), if_pos e]; omega
        · by_cases e2 : 0 ≤ (ndA C j).up ∧ (ndA C j).up < (M : Int)
          · rw [if_pos (by omega), if_pos e2, if_neg e]; omega
          · rw [if_neg (by omega), if_neg e2, if_neg e]; rfl
      rw [h2, sV_add, sV_range, sV_range]
      omega
  have h := key C.length (Nat.le_refl _)
  have n1 := H.n1
  obtain ⟨n, hn⟩ : ∃ n, C.length = n + 1 := ⟨C.length - 1, by omega⟩
  have e : ∀ m, m + 1 ≤ C.length → smV (fun j => if 0 ≤ (ndA C j).up ∧ (ndA C j).up < (C.length : Int) then gG C p j else 0) (List.range (m + 1)) = smV (gG C p) (List.range (m + 1)) - p := by
    intro m
    induction m with
    | zero =>
      intro _
      rw [sV_range, sV_range, gG_zero]
      simp only [H.top]
      rw [if_neg (by omega)]
      show (0 : Int) + 0 = 0 + p - p
      omega
    | succ m ih =>
      intro hm
      have hu := H.up (m + 1) (by omega) (by omega)
      rw [sV_range, ih (by omega), sV_range (n := m + 1), if_pos (by omega)]
      omega
  have := e n (by omega)
  rw [← hn] at this
  omega
theorem k_part {p : Int} (hp : 0 ≤ p) (m : Nat) (hm : m ≤ C.length) : 0 ≤ smV (kK C p) (List.range m) ∧ smV (kK C p) (List.range m) ≤ 400 * 8 + p * 8 := by
  have h8 := H.n8
  have : 0 ≤ smV (kK C p) (List.range m) ∧ smV (kK C p) (List.range m) ≤ p * m := by
    induction m with
    | zero => exact ⟨Int.le_refl _, by show (0 : Int) ≤ _; simp⟩
    | succ m ih =>
      have ih := ih (by omega)
      have hk := kK_bd H hp (j := m) (by omega)
      rw [sV_range]
      have : p * ((m + 1 : Nat) : Int) = p * m + p := by rw [show ((m + 1 : Nat) : Int) = (m : Int) + 1 from rfl, Int.mul_add, Int.mul_one]
      omega
  have : p * (m : Int) ≤ p * 8 := Int.mul_le_mul_of_nonneg_left (by omega) hp
  omega
end
section
variable {C : List Nd} {v : AV} (hv : IsSl 3 Nd.e C v) (H : CuOk C)
include hv H
set_option maxHeartbeats 1000000 in
theorem t48 {i : Int} (hi : 0 ≤ i) (st : Bool) : Iso E 48 [cuV v, I i] st = some (resL (ofN (bl C i C.length))) := by
  have n1 := H.n1
  have n8 := H.n8
  refine Iso_of (es _ _ _ _) e48 ?_
  simp only [f48]
  simp (disch := first | assumption | omega | (simp only [az]; done)) only [ru, eq_self, if_true, if_false, BEq.rfl, binI, AO.row?, splice, fillL, mmAll, loadV, storeV, zeros, Am.rowAt, Am.part, addOff, Nat.reduceAdd, Nat.reduceMul, Nat.reduceLeDiff, Nat.reduceSub, Nat.reduceLT, Int.reduceEq, Int.reduceLT, Int.reduceLE, Int.reduceGT, Int.reduceGE, Int.reduceAdd, Int.reduceSub, Int.reduceMul, Int.reduceNeg, Int.reduceToNat, reduceCtorEq, reduceIte, lenV_sl hv, view_sl hv, scalar_sl hv, cells_sl hv, pure_sl hv]
  obtain ⟨pre, hpre⟩ : ∃ pre, pre = [AO.cells [v] false] := ⟨_, rfl⟩
  have hp0 : ∀ m : List AO, (pre ++ m)[0]? = some (.cells [v] false) := fun m => by rw [hpre]; rfl
  have hpl : pre.length = 1 := by rw [hpre]; rfl
  have b1 : bl C i 1 = [] := by rw [show (1 : Nat) = 0 + 1 from rfl, bl_no (by rw [H.top]; omega)]; rfl
  refine G_loop_ind (fun y ts hk mk => ∃ (m : Nat) (J : List AO), 1 ≤ m ∧ m ≤ C.length ∧ y = C.length - m ∧ hk = pre ++ J ∧ OutE intL 1 pre.length (pre ++ J) (ts.getD 5 .undef) (ofN (bl C i m)) ∧ ts.length = 27 ∧ ts.getD 1 .undef = I i ∧ ts.getD 2 .undef = .ptr 0 0 ∧ ts.getD 6 .undef = I m ∧ mk = []) ?_ (C.length - 1) _ _ _ ⟨1, [], Nat.le_refl _, n1, rfl, by rw [hpre]; rfl, .inl ⟨by rw [b1]; rfl, rfl⟩, rfl, rfl, rfl, rfl, rfl⟩
  rintro y ts hk mk ih ⟨m, J, hm1, hm, rfl, rfl, ho, hl', q1, q2, q6, rfl⟩
  rw [lit_all hl']
  obtain ⟨w, hw⟩ : ∃ w, w = ts.getD 5 .undef := ⟨_, rfl⟩
  rw [← hw] at ho
  have hw' := hw.symm
  simp only [lit0, litS, Nat.reduceAdd, q1, q2, q6, hw']
  by_cases hlt : (m : Int) < C.length
  · have hb8 : (ofN (bl C i m)).length ≤ 1000 := by rw [ofN_len]; unfold bl; exact Nat.le_trans (List.length_filter_le _ _) (by simp; omega)
    by_cases c : (ndA C m).up = i
    · obtain ⟨v', J', ha, ho'⟩ := outE_app (pre := pre) (J := J) (eb := 8) (lim := 0) intE intSc (by omega) (by omega) (by omega) ho (Nat.zero_le _) (by omega) (m : Int)
      have e2 : ofN (bl C i (m + 1)) = ofN (bl C i m) ++ [(m : Int)] := by rw [bl_yes c]; simp [ofN]
      simp (disch := first | assumption | omega | (simp only [az]; done)) only [ru, eq_self, if_true, if_false, BEq.rfl, binI, AO.row?, splice, fillL, mmAll, loadV, storeV, zeros, Am.rowAt, Am.part, addOff, Nat.reduceAdd, Nat.reduceMul, Nat.reduceLeDiff, Nat.reduceSub, Nat.reduceLT, Int.reduceEq, Int.reduceLT, Int.reduceLE, Int.reduceGT, Int.reduceGE, Int.reduceAdd, Int.reduceSub, Int.reduceMul, Int.reduceNeg, Int.reduceToNat, reduceCtorEq, reduceIte, hlt, lenV_sl hv, view_sl hv, scalar_sl hv, cells_sl hv, pure_sl hv, elem_nd hv, Int.toNat_natCast, hp0, c, BEq.rfl, exOp_litS, ha]
      exact ih (C.length - (m + 1)) _ _ _ (by omega) ⟨m + 1, J', by omega, by omega, rfl, rfl, by rw [e2]; exact ho', rfl, rfl, rfl, rfl, rfl⟩
    · have cb : ((ndA C m).up == i) = false := by simp [c]
      simp (disch := first | assumption | omega | (simp only [az]; done)) only [ru, eq_self, if_true, if_false, BEq.rfl, binI, AO.row?, splice, fillL, mmAll, loadV, storeV, zeros, Am.rowAt, Am.part, addOff, Nat.reduceAdd, Nat.reduceMul, Nat.reduceLeDiff, Nat.reduceSub, Nat.reduceLT, Int.reduceEq, Int.reduceLT, Int.reduceLE, Int.reduceGT, Int.reduceGE, Int.reduceAdd, Int.reduceSub, Int.reduceMul, Int.reduceNeg, Int.reduceToNat, reduceCtorEq, reduceIte, hlt, lenV_sl hv, view_sl hv, scalar_sl hv, cells_sl hv, pure_sl hv, elem_nd hv, Int.toNat_natCast, hp0, cb]
      exact ih (C.length - (m + 1)) _ _ _ (by omega) ⟨m + 1, J, by omega, by omega, rfl, rfl, by rw [bl_no c]; exact ho, rfl, rfl, rfl, rfl, rfl⟩
  · obtain rfl : m = C.length := by omega
    simp (disch := first | assumption | omega | (simp only [az]; done)) only [ru, eq_self, if_true, if_false, BEq.rfl, binI, AO.row?, splice, fillL, mmAll, loadV, storeV, zeros, Am.rowAt, Am.part, addOff, Nat.reduceAdd, Nat.reduceMul, Nat.reduceLeDiff, Nat.reduceSub, Nat.reduceLT, Int.reduceEq, Int.reduceLT, Int.reduceLE, Int.reduceGT, Int.reduceGE, Int.reduceAdd, Int.reduceSub, Int.reduceMul, Int.reduceNeg, Int.reduceToNat, reduceCtorEq, reduceIte, hlt, lenV_sl hv, view_sl hv, scalar_sl hv, cells_sl hv, pure_sl hv, hp0, ho.viewL]
theorem t50 {i : Int} (hi : 0 ≤ i) (st : Bool) : Iso E 50 [cuV v, I i] st = some (I (rsS C i)) := by
  have n8 := H.n8
  refine Iso_of (es _ _ _ _) e50 ?_
  simp only [f50]
  have rl := resL_is (ofN (bl C i C.length))
  have h48 := fun st => t48 hv H hi st
  obtain ⟨w, hw⟩ : ∃ w, w = resL (ofN (bl C i C.length)) := ⟨_, rfl⟩
  rw [← hw] at h48 rl
  obtain ⟨B, hB⟩ : ∃ B, B = bl C i C.length := ⟨_, rfl⟩
  have hBm : ∀ j ∈ B, j < C.length := fun j hj => bl_lt (Nat.le_refl _) (by rw [← hB]; exact hj)
  rw [← hB] at rl
  have hBl : B.length ≤ C.length := by rw [hB]; unfold bl; exact Nat.le_trans (List.length_filter_le _ _) (by simp)
  simp (disch := first | assumption | omega | (simp only [az]; done)) only [ru, eq_self, if_true, if_false, BEq.rfl, binI, AO.row?, splice, fillL, mmAll, loadV, storeV, zeros, Am.rowAt, Am.part, addOff, Nat.reduceAdd, Nat.reduceMul, Nat.reduceLeDiff, Nat.reduceSub, Nat.reduceLT, Int.reduceEq, Int.reduceLT, Int.reduceLE, Int.reduceGT, Int.reduceGE, Int.reduceAdd, Int.reduceSub, Int.reduceMul, Int.reduceNeg, Int.reduceToNat, reduceCtorEq, reduceIte, lenV_sl hv, view_sl hv, scalar_sl hv, cells_sl hv, pure_sl hv, h48]
  refine G_loop_ind (fun y ts hk mk => ∃ m : Nat, m ≤ B.length ∧ y = B.length - m ∧ hk = [.cells [v] false] ∧ ts.length = 29 ∧ ts.getD 2 .undef = .ptr 0 0 ∧ ts.getD 5 .undef = I (smW C (B.take m)) ∧ ts.getD 6 .undef = w ∧ ts.getD 7 .undef = I m ∧ mk = []) ?_ B.length _ _ _ ⟨0, Nat.zero_le _, rfl, rfl, rfl, rfl, rfl, rfl, rfl, rfl⟩
  rintro y ts hk mk ih ⟨m, hm, rfl, rfl, hl', q2, q5, q6, q7, rfl⟩
  rw [lit_all hl']
  simp only [lit0, litS, Nat.reduceAdd, q2, q5, q6, q7]
  by_cases hlt : (m : Int) < B.length
  · have hm' : m < B.length := by omega
    obtain ⟨k, hk⟩ : ∃ k, k = B.getD m default := ⟨_, rfl⟩
    have hkn : k < C.length := hBm k (by rw [hk]; exact getD_mem hm')
    have hkz : (ofN B).getD m 0 = (k : Int) := by
      unfold ofN
      rw [hk, List.getD_eq_getElem?_getD, List.getElem?_map, List.getD_eq_getElem?_getD, List.getElem?_eq_getElem hm']; rfl
    have hlt2 : (m : Int) < ((ofN B).length : Int) := by rw [ofN_len]; exact hlt
    have hkl : (k : Int) < C.length := by omega
    have sb := smW_bd H (l := B.take m) fun j hj => hBm j (List.mem_of_mem_take hj)
    have hw9 := H.w k hkn
    have htl : (B.take m).length ≤ 8 := by rw [List.length_take]; omega
    have ew := wr64 (n := smW C (B.take m) + (ndA C k).w) (by omega) (by omega)
    have es' : smW C (B.take (m + 1)) = smW C (B.take m) + (ndA C k).w := by rw [take_snoc (d := default) hm', ← hk, smW_snoc]
    simp (disch := first | assumption | omega | (simp only [az]; done)) only [ru, eq_self, if_true, if_false, BEq.rfl, binI, AO.row?, splice, fillL, mmAll, loadV, storeV, zeros, Am.rowAt, Am.part, addOff, Nat.reduceAdd, Nat.reduceMul, Nat.reduceLeDiff, Nat.reduceSub, Nat.reduceLT, Int.reduceEq, Int.reduceLT, Int.reduceLE, Int.reduceGT, Int.reduceGE, Int.reduceAdd, Int.reduceSub, Int.reduceMul, Int.reduceNeg, Int.reduceToNat, reduceCtorEq, reduceIte, hlt, hlt2, lenV_sl hv, view_sl hv, scalar_sl hv, cells_sl hv, pure_sl hv, elem_nd hv, lenV_sl rl, elem_in rl, view_sl rl, scalar_sl rl, cells_sl rl, pure_sl rl, Int.toNat_natCast, ofN_len, hkz, Int.toNat_natCast, ew]
    exact ih (B.length - (m + 1)) _ _ _ (by omega) ⟨m + 1, by omega, rfl, rfl, rfl, rfl, by rw [es']; rfl, rfl, rfl, rfl⟩
  · obtain rfl : m = B.length := by omega
    have e : smW C (B.take B.length) = rsS C i := by rw [List.take_length, hB]; rfl
    simp (disch := first | assumption | omega | (simp only [az]; done)) only [ru, eq_self, if_true, if_false, BEq.rfl, binI, AO.row?, splice, fillL, mmAll, loadV, storeV, zeros, Am.rowAt, Am.part, addOff, Nat.reduceAdd, Nat.reduceMul, Nat.reduceLeDiff, Nat.reduceSub, Nat.reduceLT, Int.reduceEq, Int.reduceLT, Int.reduceLE, Int.reduceGT, Int.reduceGE, Int.reduceAdd, Int.reduceSub, Int.reduceMul, Int.reduceNeg, Int.reduceToNat, reduceCtorEq, reduceIte, hlt, lenV_sl hv, view_sl hv, scalar_sl hv, cells_sl hv, pure_sl hv, lenV_sl rl, elem_in rl, view_sl rl, scalar_sl rl, cells_sl rl, pure_sl rl, Int.toNat_natCast, ofN_len, e]
end
section
variable {C : List Nd} {v : AV} (hv : IsSl 3 Nd.e C v)
include hv
theorem x23r (H : CuOk C) {p : Int} (hp : inR p 0 400 = true) : Iso E 23 [cuV v, I p] false = some (.tup [resL (kL C p), I 0]) := by
  have h := t23 hv (by have := H.n8; omega) p
  rw [hp, fit_val H, if_pos rfl, ansL, if_pos rfl] at h
  exact h
theorem x25r (H : CuOk C) {i p : Int} (hi : inR i 0 (C.length - 1) = true) (hp : inR p 0 400 = true) : Iso E 25 [cuV v, I i, I p] false = some (.tup [resL (sL C i p), I (spk C i p), I 0]) := by
  have h := t25 hv (by have := H.n8; omega) i p
  rw [hi, hp, Bool.and_self, fit_val H, if_pos rfl, ansS, if_pos rfl, if_pos rfl] at h
  exact h
set_option maxHeartbeats 2000000 in
theorem l7 (p : Int) (st : Bool) : Iso E 7 [cuV v, I p] st = some (Bo true) := by
  refine Iso_of (es _ _ _ _) e7 ?_
  simp only [f7]
  cases hr : rdy C
  · simp (disch := first | assumption | omega | (simp only [az]; done)) only [ru, eq_self, if_true, if_false, BEq.rfl, binI, AO.row?, splice, fillL, mmAll, loadV, storeV, zeros, Am.rowAt, Am.part, addOff, Nat.reduceAdd, Nat.reduceMul, Nat.reduceLeDiff, Nat.reduceSub, Nat.reduceLT, Int.reduceEq, Int.reduceLT, Int.reduceLE, Int.reduceGT, Int.reduceGE, Int.reduceAdd, Int.reduceSub, Int.reduceMul, Int.reduceNeg, Int.reduceToNat, reduceCtorEq, reduceIte, lenV_sl hv, view_sl hv, scalar_sl hv, cells_sl hv, pure_sl hv, t45r hv, hr, Bool.not_false, gUn, t17]
  obtain ⟨H, hl⟩ := rdy_ok hr
  cases hp : inR p 0 400
  · simp (disch := first | assumption | omega | (simp only [az]; done)) only [ru, eq_self, if_true, if_false, BEq.rfl, binI, AO.row?, splice, fillL, mmAll, loadV, storeV, zeros, Am.rowAt, Am.part, addOff, Nat.reduceAdd, Nat.reduceMul, Nat.reduceLeDiff, Nat.reduceSub, Nat.reduceLT, Int.reduceEq, Int.reduceLT, Int.reduceLE, Int.reduceGT, Int.reduceGE, Int.reduceAdd, Int.reduceSub, Int.reduceMul, Int.reduceNeg, Int.reduceToNat, reduceCtorEq, reduceIte, lenV_sl hv, view_sl hv, scalar_sl hv, cells_sl hv, pure_sl hv, t45r hv, hr, Bool.not_true, Bool.not_false, gUn, t46, hp, t17]
  have hp' := inR_iff.1 hp
  have n8 := H.n8
  have n1 := H.n1
  have r1 := resL_is (gL C p)
  have r2 := resL_is (kL C p)
  have h1 := t47 hv H hp'.1 (by omega)
  have h2 := x23r hv H hp
  obtain ⟨w1, hw1⟩ : ∃ w, w = resL (gL C p) := ⟨_, rfl⟩
  obtain ⟨w2, hw2⟩ : ∃ w, w = resL (kL C p) := ⟨_, rfl⟩
  rw [← hw1] at r1 h1
  rw [← hw2] at r2 h2
  have n00 : ((0 : Int) != 0) = false := rfl
  have ncc : ((C.length : Int) != C.length) = false := by simp
  simp (disch := first | assumption | omega | (simp only [az]; done)) only [ru, eq_self, if_true, if_false, BEq.rfl, binI, AO.row?, splice, fillL, mmAll, loadV, storeV, zeros, Am.rowAt, Am.part, addOff, Nat.reduceAdd, Nat.reduceMul, Nat.reduceLeDiff, Nat.reduceSub, Nat.reduceLT, Int.reduceEq, Int.reduceLT, Int.reduceLE, Int.reduceGT, Int.reduceGE, Int.reduceAdd, Int.reduceSub, Int.reduceMul, Int.reduceNeg, Int.reduceToNat, reduceCtorEq, reduceIte, lenV_sl hv, view_sl hv, scalar_sl hv, cells_sl hv, pure_sl hv, t45r hv, hr, Bool.not_true, Bool.not_false, gUn, t46, hp, h1, h2, n00, lenV_sl r2, elem_in r2, view_sl r2, scalar_sl r2, cells_sl r2, pure_sl r2, Int.toNat_natCast, kL_len, ncc]
  refine G_loop_ind (fun y ts hk mk => ∃ i : Nat, i ≤ C.length ∧ y = C.length - i ∧ hk = [.cells [v] false] ∧ ts.length = 154 ∧ ts.getD 1 .undef = I p ∧ ts.getD 2 .undef = .ptr 0 0 ∧ ts.getD 5 .undef = w1 ∧ ts.getD 7 .undef = w2 ∧ ts.getD 9 .undef = I (smV (kK C p) (List.range i)) ∧ ts.getD 10 .undef = I i ∧ mk = []) ?_ C.length _ _ _ ⟨0, Nat.zero_le _, rfl, rfl, rfl, rfl, rfl, rfl, rfl, rfl, rfl, rfl⟩
  rintro y ts hk mk ih ⟨i, hi, rfl, rfl, hl', q1, q2, q5, q7, q9, q10, rfl⟩
  rw [lit_all hl']
  simp only [lit0, litS, Nat.reduceAdd, q1, q2, q5, q7, q9, q10]
  by_cases hlt : (i : Int) < C.length
  · have hi' : i < C.length := by omega
    have lt1 : (i : Int) < ((gL C p).length : Int) := by rw [gL_len]; exact hlt
    have lt2 : (i : Int) < ((kL C p).length : Int) := by rw [kL_len]; exact hlt
    have a1 := gL_at (C := C) (p := p) hi'
    have a2 := kL_at (C := C) (p := p) hi'
    have gb := gG_bd H hp'.1 i hi'
    have kb := kK_bd H hp'.1 hi'
    have ii : inR (i : Int) 0 (C.length - 1) = true := inR_iff.2 (by omega)
    have ig : inR (gG C p i) 0 400 = true := inR_iff.2 (by omega)
    have h25 := x25r hv H ii ig
    have h48 := fun st => t48 hv H (i := (i : Int)) (by omega) st
    have r3 := resL_is (sL C i (gG C p i))
    have r4 := resL_is (ofN (bl C i C.length))
    obtain ⟨w3, hw3⟩ : ∃ w, w = resL (sL C i (gG C p i)) := ⟨_, rfl⟩
    obtain ⟨w4, hw4⟩ : ∃ w, w = resL (ofN (bl C i C.length)) := ⟨_, rfl⟩
    rw [← hw3] at r3 h25
    rw [← hw4] at r4 h48
    have ek : spk C i (gG C p i) = kK C p i := rfl
    rw [ek] at h25
    obtain ⟨B, hB⟩ : ∃ B, B = bl C (i : Int) C.length := ⟨_, rfl⟩
    have hBm : ∀ j ∈ B, j < C.length ∧ gG C p j = spv C i (gG C p i) j := fun j hj => ⟨bl_lt (Nat.le_refl _) (by rw [← hB]; exact hj), g_below H (by rw [← hB]; exact hj)⟩
    have hsp := g_split H hp'.1 hi'
    have hsL : sL C i (gG C p i) = B.map (spv C i (gG C p i)) := by rw [hB]; rfl
    rw [hsL] at r3
    rw [← hB] at r4 hsp
    have l3 : ((B.map (spv C i (gG C p i))).length : Int) = B.length := by simp
    have l4 : ((ofN B).length : Int) = B.length := by rw [ofN_len]
    have nbb : ((B.length : Int) != B.length) = false := by simp
    have nkk : (kK C p i != kK C p i) = false := by simp
    have k0 : ¬ kK C p i < 0 := by omega
    have k1 : ¬ kK C p i > p := by omega
    simp (disch := first | assumption | omega | (simp only [az]; done)) only [ru, eq_self, if_true, if_false, BEq.rfl, binI, AO.row?, splice, fillL, mmAll, loadV, storeV, zeros, Am.rowAt, Am.part, addOff, Nat.reduceAdd, Nat.reduceMul, Nat.reduceLeDiff, Nat.reduceSub, Nat.reduceLT, Int.reduceEq, Int.reduceLT, Int.reduceLE, Int.reduceGT, Int.reduceGE, Int.reduceAdd, Int.reduceSub, Int.reduceMul, Int.reduceNeg, Int.reduceToNat, reduceCtorEq, reduceIte, hlt, lt1, lt2, lenV_sl hv, view_sl hv, scalar_sl hv, cells_sl hv, pure_sl hv, lenV_sl r1, elem_in r1, view_sl r1, scalar_sl r1, cells_sl r1, pure_sl r1, Int.toNat_natCast, lenV_sl r2, elem_in r2, view_sl r2, scalar_sl r2, cells_sl r2, pure_sl r2, Int.toNat_natCast, gL_len, kL_len, a1, a2, h25, h48, gUn, n00, lenV_sl r3, elem_in r3, view_sl r3, scalar_sl r3, cells_sl r3, pure_sl r3, Int.toNat_natCast, lenV_sl r4, elem_in r4, view_sl r4, scalar_sl r4, cells_sl r4, pure_sl r4, Int.toNat_natCast, l3, l4, nbb, nkk, k0, k1, decide_false]
    refine G_loop_ind (fun y ts hk mk => ∃ m : Nat, m ≤ B.length ∧ y = B.length - m ∧ hk = [.cells [v] false] ∧ ts.length = 154 ∧ ts.getD 1 .undef = I p ∧ ts.getD 2 .undef = .ptr 0 0 ∧ ts.getD 5 .undef = w1 ∧ ts.getD 7 .undef = w2 ∧ ts.getD 9 .undef = I (smV (kK C p) (List.range i)) ∧ ts.getD 10 .undef = I i ∧ ts.getD 11 .undef = w3 ∧ ts.getD 14 .undef = w4 ∧ ts.getD 15 .undef = I (kK C p i + smV (gG C p) (B.take m)) ∧ ts.getD 16 .undef = I m ∧ mk = []) ?_ B.length _ _ _ ⟨0, Nat.zero_le _, rfl, rfl, rfl, rfl, rfl, rfl, rfl, rfl, rfl, rfl, rfl, by show _ = I (kK C p i + 0); rw [Int.add_zero]; rfl, rfl, rfl⟩
    clear hl' q1 q2 q5 q7 q9 q10 ts
    rintro y ts hk mk ih2 ⟨m, hm, rfl, rfl, hl', q1, q2, q5, q7, q9, q10, q11, q14, q15, q16, rfl⟩
    rw [lit_all hl']
    simp only [lit0, litS, Nat.reduceAdd, q1, q2, q5, q7, q9, q10, q11, q14, q15, q16]
    have sbd : ∀ m, m ≤ B.length → 0 ≤ smV (gG C p) (B.take m) ∧ smV (gG C p) (B.take m) ≤ 400 * m := by
      intro m
      induction m with
      | zero => intro _; exact ⟨Int.le_refl _, by show (0 : Int) ≤ _; simp⟩
      | succ m ih =>
        intro hm
        have ih := ih (by omega)
        have hk := hBm (B.getD m default) (getD_mem (by omega))
        have hg := gG_bd H hp'.1 _ hk.1
        rw [take_snoc (d := default) (by omega), smV_snoc]
        omega
    have hB8 : B.length ≤ 8 := by rw [hB]; unfold bl; exact Nat.le_trans (List.length_filter_le _ _) (by simp; omega)
    have hb := sbd m hm
    by_cases hlt3 : (m : Int) < B.length
    · have hm' : m < B.length := by omega
      obtain ⟨k, hk⟩ : ∃ k, k = B.getD m default := ⟨_, rfl⟩
      obtain ⟨hkn, hkg⟩ := hBm k (by rw [hk]; exact getD_mem hm')
      have hkz : (ofN B).getD m 0 = (k : Int) := by
        unfold ofN
        rw [hk, List.getD_eq_getElem?_getD, List.getElem?_map, List.getD_eq_getElem?_getD, List.getElem?_eq_getElem hm']; rfl
      have hsz : (B.map (spv C i (gG C p i))).getD m 0 = gG C p k := by
        rw [List.getD_eq_getElem?_getD, List.getElem?_map, List.getElem?_eq_getElem hm', hkg, hk, List.getD_eq_getElem?_getD, List.getElem?_eq_getElem hm']; rfl
      have lt4 : (m : Int) < ((ofN B).length : Int) := by rw [ofN_len]; exact hlt3
      have lt5 : (m : Int) < ((B.map (spv C i (gG C p i))).length : Int) := by rw [List.length_map]; exact hlt3
      have lt6 : (k : Int) < ((gL C p).length : Int) := by rw [gL_len]; omega
      have a3 := gL_at (C := C) (p := p) hkn
      have gb2 := gG_bd H hp'.1 k hkn
      have nee : (gG C p k != gG C p k) = false := by simp
      have ew := wr64 (n := kK C p i + smV (gG C p) (B.take m) + gG C p k) (by omega) (by omega)
      have es' : kK C p i + smV (gG C p) (B.take (m + 1)) = kK C p i + smV (gG C p) (B.take m) + gG C p k := by rw [take_snoc (d := default) hm', ← hk, smV_snoc]; omega
      simp (disch := first | assumption | omega | (simp only [az]; done)) only [ru, eq_self, if_true, if_false, BEq.rfl, binI, AO.row?, splice, fillL, mmAll, loadV, storeV, zeros, Am.rowAt, Am.part, addOff, Nat.reduceAdd, Nat.reduceMul, Nat.reduceLeDiff, Nat.reduceSub, Nat.reduceLT, Int.reduceEq, Int.reduceLT, Int.reduceLE, Int.reduceGT, Int.reduceGE, Int.reduceAdd, Int.reduceSub, Int.reduceMul, Int.reduceNeg, Int.reduceToNat, reduceCtorEq, reduceIte, hlt3, lt4, lt5, lt6, lenV_sl r1, elem_in r1, view_sl r1, scalar_sl r1, cells_sl r1, pure_sl r1, Int.toNat_natCast, lenV_sl r3, elem_in r3, view_sl r3, scalar_sl r3, cells_sl r3, pure_sl r3, Int.toNat_natCast, lenV_sl r4, elem_in r4, view_sl r4, scalar_sl r4, cells_sl r4, pure_sl r4, Int.toNat_natCast, l4, hkz, hsz, a3, nee, ew, Int.toNat_natCast]
      exact ih2 (B.length - (m + 1)) _ _ _ (by omega) ⟨m + 1, by omega, rfl, rfl, rfl, rfl, rfl, rfl, rfl, rfl, rfl, rfl, rfl, by rw [es']; rfl, rfl, rfl⟩
    · obtain rfl : m = B.length := by omega
      have e1 : kK C p i + smV (gG C p) (B.take B.length) = gG C p i := by rw [List.take_length]; omega
      have nee : (gG C p i != gG C p i) = false := by simp
      have kp := k_part H hp'.1 i (by omega)
      have ew := wr64 (n := smV (kK C p) (List.range i) + kK C p i) (by omega) (by omega)
      have es' : smV (kK C p) (List.range (i + 1)) = smV (kK C p) (List.range i) + kK C p i := sV_range
      simp (disch := first | assumption | omega | (simp only [az]; done)) only [ru, eq_self, if_true, if_false, BEq.rfl, binI, AO.row?, splice, fillL, mmAll, loadV, storeV, zeros, Am.rowAt, Am.part, addOff, Nat.reduceAdd, Nat.reduceMul, Nat.reduceLeDiff, Nat.reduceSub, Nat.reduceLT, Int.reduceEq, Int.reduceLT, Int.reduceLE, Int.reduceGT, Int.reduceGE, Int.reduceAdd, Int.reduceSub, Int.reduceMul, Int.reduceNeg, Int.reduceToNat, reduceCtorEq, reduceIte, hlt3, lt1, lt2, lenV_sl r1, elem_in r1, view_sl r1, scalar_sl r1, cells_sl r1, pure_sl r1, Int.toNat_natCast, lenV_sl r2, elem_in r2, view_sl r2, scalar_sl r2, cells_sl r2, pure_sl r2, Int.toNat_natCast, lenV_sl r4, elem_in r4, view_sl r4, scalar_sl r4, cells_sl r4, pure_sl r4, Int.toNat_natCast, l4, e1, a1, a2, nee, ew, Int.toNat_natCast]
      exact ih (C.length - (i + 1)) _ _ _ (by omega) ⟨i + 1, by omega, rfl, rfl, rfl, rfl, rfl, rfl, rfl, by rw [es']; rfl, rfl, rfl⟩
  · obtain rfl : i = C.length := by omega
    have es1 := k_sum H hp'.1
    have epp : (p == p) = true := by simp
    have g0 := gL_at (C := C) (p := p) (j := 0) (by omega)
    rw [gG_zero] at g0
    have lt0 : (0 : Int) < ((gL C p).length : Int) := by rw [gL_len]; omega
    simp (disch := first | assumption | omega | (simp only [az]; done)) only [ru, eq_self, if_true, if_false, BEq.rfl, binI, AO.row?, splice, fillL, mmAll, loadV, storeV, zeros, Am.rowAt, Am.part, addOff, Nat.reduceAdd, Nat.reduceMul, Nat.reduceLeDiff, Nat.reduceSub, Nat.reduceLT, Int.reduceEq, Int.reduceLT, Int.reduceLE, Int.reduceGT, Int.reduceGE, Int.reduceAdd, Int.reduceSub, Int.reduceMul, Int.reduceNeg, Int.reduceToNat, reduceCtorEq, reduceIte, hlt, lt0, lenV_sl hv, view_sl hv, scalar_sl hv, cells_sl hv, pure_sl hv, lenV_sl r1, elem_in r1, view_sl r1, scalar_sl r1, cells_sl r1, pure_sl r1, Int.toNat_natCast, gL_len, es1, epp, gUn, g0, Int.toNat_zero, t17]
    done
end
end Go.Proofs.Ytaeijjfgfenfhaa.S

