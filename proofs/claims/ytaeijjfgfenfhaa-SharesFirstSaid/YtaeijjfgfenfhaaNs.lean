/-
The first ones.
-/
import Derived.Test.YtaeijjfgfenfhaaNq
namespace Go.Proofs.Ytaeijjfgfenfhaa.S
open Go Go.Am Go.Proofs.Ytaeijjfgfenfhaa.T
set_option maxRecDepth 100000
set_option linter.unusedSimpArgs false
set_option linter.unusedVariables false

/-- the first with a weight, or -1 -/
def fstW (C : List Nd) (l : List Nat) : Int := match l.find? fun j => decide (0 < (ndA C j).w) with
  | some j => j
  | none => -1
theorem fstW_snoc {C : List Nd} {l : List Nat} {j : Nat} : fstW C (l ++ [j]) = if fstW C l < 0 ∧ 0 < (ndA C j).w then (j : Int) else fstW C l := by
  unfold fstW
  rw [List.find?_append]
  cases h : l.find? fun j => decide (0 < (ndA C j).w) with
  | some k =>
    simp only [Option.some_or]
    rw [if_neg (by omega)]
  | none =>
    simp only [Option.none_or]
    by_cases c : 0 < (ndA C j).w
    · rw [if_pos ⟨by omega, c⟩]; simp [c]
    · rw [if_neg (fun h => c h.2)]; simp [c]
def isF (C : List Nd) : Nat → Int → Bool
  | 0, _ => true
  | k + 1, x => if 0 < x then (if fstW C (bl C (ndA C x.toNat).up C.length) = x then isF C k (ndA C x.toNat).up else false) else true
def isFb (C : List Nd) (x : Int) : Bool := isF C (x.toNat + 1) x
section
variable {C : List Nd} (H : CuOk C)
include H
theorem isF_fuel : ∀ (k k' : Nat) (j : Nat), j < k → j < k' → j < C.length → isF C k j = isF C k' j
  | 0, _, _, h, _, _ => by omega
  | _, 0, _, _, h, _ => by omega
  | k + 1, k' + 1, j, h, h', hj => by
    simp only [isF]
    by_cases e : j = 0
    · subst e; simp
    · have hu := H.up j (by omega) hj
      rw [Int.toNat_natCast]
      obtain ⟨u, hu'⟩ : ∃ u : Nat, (ndA C j).up = u := ⟨(ndA C j).up.toNat, by omega⟩
      rw [hu', isF_fuel k k' u (by omega) (by omega) (by omega)]
theorem isFb_eq {j : Nat} (h1 : 1 ≤ j) (hj : j < C.length) : isFb C j = (decide (fstW C (bl C (ndA C j).up C.length) = j) && isFb C (ndA C j).up) := by
  have hu := H.up j h1 hj
  unfold isFb
  conv => lhs; unfold isF
  rw [if_pos (by omega), Int.toNat_natCast]
  obtain ⟨u, hu'⟩ : ∃ u : Nat, (ndA C j).up = u := ⟨(ndA C j).up.toNat, by omega⟩
  rw [hu', Int.toNat_natCast, isF_fuel H j (u + 1) u (by omega) (by omega) (by omega)]
  by_cases c : fstW C (bl C u C.length) = j
  · rw [if_pos c, decide_eq_true c]; rfl
  · rw [if_neg c, decide_eq_false c]; rfl
omit H in
theorem isFb_zero : isFb C 0 = true := by simp [isFb, isF]
/-- the first with a weight: those ahead have none -/
theorem fst_spec {i : Int} {j : Nat} (h : fstW C (bl C i C.length) = j) : j ∈ bl C i C.length ∧ 0 < (ndA C j).w ∧ ∀ k ∈ bl C i j, (ndA C k).w = 0 := by
  have key : ∀ n, n ≤ C.length → (fstW C (bl C i n) < 0 → ∀ k ∈ bl C i n, (ndA C k).w = 0) ∧ (∀ j : Nat, fstW C (bl C i n) = j → j ∈ bl C i n ∧ 0 < (ndA C j).w ∧ ∀ k ∈ bl C i j, (ndA C k).w = 0) := by
    intro n
    induction n with
    | zero => intro _; exact ⟨fun _ k hk => by simp [bl_zero] at hk, fun j hj => by simp [bl_zero, fstW] at hj⟩
    | succ n ih =>
      intro hn
      obtain ⟨i1, i2⟩ := ih (by omega)
      by_cases c : (ndA C n).up = i
      · rw [bl_yes c, fstW_snoc]
        by_cases d : fstW C (bl C i n) < 0 ∧ 0 < (ndA C n).w
        · rw [if_pos d]
          refine ⟨fun h => by omega, fun j hj => ?_⟩
          obtain rfl : n = j := by omega
          exact ⟨by simp, d.2, i1 d.1⟩
        · rw [if_neg d]
          refine ⟨fun h k hk => ?_, fun j hj => ?_⟩
          · rcases List.mem_append.1 hk with hk | hk
            · exact i1 h k hk
            · rw [List.mem_singleton] at hk; subst hk
              have hw := H.w k (by omega)
              by_cases e : 0 < (ndA C k).w
              · exact absurd ⟨h, e⟩ d
              · omega
          · obtain ⟨a, b, c⟩ := i2 j hj
            exact ⟨by simp [a], b, c⟩
      · rw [bl_no c]; exact ⟨i1, i2⟩
  exact (key C.length (Nat.le_refl _)).2 j h
/-- what the parts have lost, part by part -/
theorem df_mono {i R : Int} (hR : 0 ≤ R) (hS : 0 < rsS C i) : ∀ (m n : Nat), m ≤ n → n ≤ C.length → rsS C i * lfR C R (rsS C i) (bl C i m) - R * (rsS C i - smW C (bl C i m)) ≤ rsS C i * lfR C R (rsS C i) (bl C i n) - R * (rsS C i - smW C (bl C i n)) := by
  intro m n hmn
  induction n with
  | zero => intro _; have : m = 0 := by omega
            subst this; exact Int.le_refl _
  | succ n ih =>
    intro hn
    by_cases e : m = n + 1
    · subst e; exact Int.le_refl _
    · have ih := ih (by omega) (by omega)
      by_cases c : (ndA C n).up = i
      · rw [bl_yes c, lfR_snoc, smW_snoc]
        obtain ⟨b1, b2, b3⟩ := pt_bd H hR hS (j := n) (by omega)
        have e1 : R * (rsS C i - (smW C (bl C i n) + (ndA C n).w)) = R * (rsS C i - smW C (bl C i n)) - R * (ndA C n).w := by rw [← Int.mul_sub]; congr 1; omega
        have e2 : rsS C i * (lfR C R (rsS C i) (bl C i n) - pt C R (rsS C i) n) = rsS C i * lfR C R (rsS C i) (bl C i n) - rsS C i * pt C R (rsS C i) n := Int.mul_sub _ _ _
        rw [e1, e2]; omega
      · rw [bl_no c]; exact ih
/-- if nothing is left, each part is whole -/
theorem pt_whole {i R : Int} (hR : 0 ≤ R) (hS : 0 < rsS C i) (h0 : lfR C R (rsS C i) (bl C i C.length) = 0) {j : Nat} (hj : j < C.length) (hu : (ndA C j).up = i) : rsS C i * pt C R (rsS C i) j = R * (ndA C j).w := by
  have d1 := df_mono H hR hS (j + 1) C.length (by omega) (Nat.le_refl _)
  have d0 := df_mono H hR hS 0 j (by omega) (by omega)
  rw [h0] at d1
  have e0 : rsS C i - smW C (bl C i C.length) = 0 := by unfold rsS; omega
  rw [e0, bl_yes hu, lfR_snoc, smW_snoc] at d1
  have z0 : rsS C i * lfR C R (rsS C i) (bl C i 0) - R * (rsS C i - smW C (bl C i 0)) = 0 := by
    show rsS C i * R - R * (rsS C i - 0) = 0
    rw [Int.sub_zero, Int.mul_comm]; omega
  rw [z0] at d0
  obtain ⟨b1, b2, b3⟩ := pt_bd H hR hS (j := j) hj
  have e1 : R * (rsS C i - (smW C (bl C i j) + (ndA C j).w)) = R * (rsS C i - smW C (bl C i j)) - R * (ndA C j).w := by rw [← Int.mul_sub]; congr 1; omega
  have e2 : rsS C i * (lfR C R (rsS C i) (bl C i j) - pt C R (rsS C i) j) = rsS C i * lfR C R (rsS C i) (bl C i j) - rsS C i * pt C R (rsS C i) j := Int.mul_sub _ _ _
  rw [e1, e2] at d1
  simp only [Int.mul_zero, Int.sub_zero] at d1
  omega
omit H in
theorem exR_none {r : Int} {l : List Nat} (h : ∀ k ∈ l, (ndA C k).w = 0) : exR C r l = r := by
  revert h
  refine snocRec (fun l => (∀ k ∈ l, (ndA C k).w = 0) → exR C r l = r) l (fun _ => rfl) ?_
  intro l c ih h
  rw [exR_snoc, if_neg (by rw [h c (by simp)]; omega), ih fun k hk => h k (by simp [hk])]
/-- the first one never falls -/
theorem spv_first {i p : Int} (hp : 0 ≤ p) {j : Nat} (h : fstW C (bl C i C.length) = j) : spv C i p j ≤ spv C i (p + 1) j := by
  obtain ⟨hm, hw, hz⟩ := fst_spec H h
  obtain ⟨hj, hu⟩ := mem_bl.1 hm
  have hR := fxR_bd H hp (l := bl C i C.length) (fun j hj => bl_lt (Nat.le_refl _) hj)
  have hR' : 0 ≤ rsR C i p := hR.1
  unfold spv
  rcases pen_cases (C := C) (i := i) hp with ⟨e, hf⟩ | ⟨e, hf⟩
  · have hl : rsL C i (p + 1) = rsL C i p := by unfold rsL; rw [e]
    rw [e, hl]
    have := hf j hj
    split <;> omega
  · have hfj := hf j hj hu
    split
    · omega
    · rename_i hS
      have hS1 : 0 < rsS C i := by have := (rsS_bd H (i := i)).1; omega
      rw [hfj]
      have hp1 := pt_pen H hR' hS1 hj (smW_ge H hj hu)
      rw [← e] at hp1
      have hx := exV_01 (C := C) (r := rsL C i p) (l := bl C i j) (j := j)
      have hx' := exV_01 (C := C) (r := rsL C i (p + 1)) (l := bl C i j) (j := j)
      rcases hp1 with hp1 | hp1
      · -- the same part: it is not that something was left, and now nothing is
        rw [hp1]
        by_cases c : exV C (rsL C i p) (bl C i j) j = 1 ∧ exV C (rsL C i (p + 1)) (bl C i j) j = 0
        · exfalso
          have hr := (rsL_bd H (i := i) (p := p + 1) (by omega) hS).1
          have h0 : rsL C i (p + 1) = 0 := by
            have := c.2
            unfold exV at this
            rw [exR_none hz] at this
            split at this
            · omega
            · rename_i hn
              by_cases hq : 0 < rsL C i (p + 1)
              · exact absurd ⟨hw, hq⟩ hn
              · omega
          have hwh := pt_whole H (i := i) (R := rsR C i (p + 1)) (by omega) hS1 h0 hj hu
          obtain ⟨b1, b2, b3⟩ := pt_bd H (R := rsR C i p) hR' hS1 hj
          rw [hp1, e, Int.add_mul, Int.one_mul] at hwh
          omega
        · omega
      · omega
theorem gG_first {p : Int} (hp : 0 ≤ p) : ∀ (j : Nat), j < C.length → isFb C j = true → gG C p j ≤ gG C (p + 1) j := by
  intro j
  induction j using Nat.strongRecOn with
  | _ j ih =>
    intro hj hF
    by_cases e : j = 0
    · subst e; rw [gG_zero, gG_zero]; omega
    · have hu := H.up j (by omega) hj
      rw [isFb_eq H (by omega) hj] at hF
      simp only [Bool.and_eq_true, decide_eq_true_eq] at hF
      obtain ⟨u, hu'⟩ : ∃ u : Nat, (ndA C j).up = u := ⟨(ndA C j).up.toNat, by omega⟩
      rw [hu'] at hF
      have h1 := ih u (by omega) (by omega) hF.2
      have h2 := gG_pen H hp u (by omega)
      have b0 := gG_bd H hp u (by omega)
      rw [gG_eq H (by omega) hj, gG_eq H (by omega) hj, hu', Int.toNat_natCast]
      obtain ⟨a, ha⟩ : ∃ a, a = gG C p u := ⟨_, rfl⟩
      obtain ⟨b, hb⟩ : ∃ b, b = gG C (p + 1) u := ⟨_, rfl⟩
      rw [← ha] at h1 h2 b0 ⊢
      rw [← hb] at h1 h2 ⊢
      have : b = a ∨ b = a + 1 := by omega
      rcases this with rfl | rfl
      · omega
      · exact spv_first H b0.1 hF.1
end
section
variable {C : List Nd} {v : AV} (hv : IsSl 3 Nd.e C v)
include hv
omit hv in
theorem ofN_at' {B : List Nat} {m : Nat} (hm : m < B.length) : (ofN B).getD m 0 = ((B.getD m default : Nat) : Int) := by
  unfold ofN
  rw [List.getD_eq_getElem?_getD, List.getElem?_map, List.getD_eq_getElem?_getD, List.getElem?_eq_getElem hm]; rfl
set_option maxHeartbeats 1000000 in
theorem t52 (H : CuOk C) {j : Nat} (hj : j < C.length) (st : Bool) : Iso E 52 [cuV v, I j] st = some (Bo (isFb C j)) := by
  refine Iso_of (es _ _ _ _) e52 ?_
  simp only [f52]
  have n8 := H.n8
  simp (disch := first | assumption | omega | (simp only [az]; done)) only [ru, eq_self, if_true, if_false, BEq.rfl, binI, AO.row?, splice, fillL, mmAll, loadV, storeV, zeros, Am.rowAt, Am.part, addOff, Nat.reduceAdd, Nat.reduceMul, Nat.reduceLeDiff, Nat.reduceSub, Nat.reduceLT, Int.reduceEq, Int.reduceLT, Int.reduceLE, Int.reduceGT, Int.reduceGE, Int.reduceAdd, Int.reduceSub, Int.reduceMul, Int.reduceNeg, Int.reduceToNat, reduceCtorEq, reduceIte, lenV_sl hv, view_sl hv, scalar_sl hv, cells_sl hv, pure_sl hv]
  refine G_loop_ind (fun y ts hk mk => ∃ x : Nat, x < C.length ∧ y = x ∧ isFb C j = isFb C x ∧ hk = [.cells [v] false] ∧ ts.length = 51 ∧ ts.getD 1 .undef = I x ∧ ts.getD 2 .undef = .ptr 0 0 ∧ mk = []) ?_ j _ _ _ ⟨j, hj, rfl, rfl, rfl, rfl, rfl, rfl, rfl⟩
  rintro y ts hk mk ih ⟨x, hx, rfl, hF, rfl, hl', q1, q2, rfl⟩
  rw [lit_all hl']
  simp only [lit0, litS, Nat.reduceAdd, q1, q2]
  by_cases c : (y : Int) > 0
  · have hu := H.up y (by omega) hx
    have hlt : (y : Int) < C.length := by omega
    obtain ⟨u, hu'⟩ : ∃ u : Nat, (ndA C y).up = u := ⟨(ndA C y).up.toNat, by omega⟩
    have hFx := isFb_eq H (show 1 ≤ y by omega) hx
    rw [hu'] at hFx hu
    have h48 := fun st => t48 hv H (i := (u : Int)) (by omega) st
    have r4 := resL_is (ofN (bl C u C.length))
    obtain ⟨w4, hw4⟩ : ∃ w, w = resL (ofN (bl C u C.length)) := ⟨_, rfl⟩
    rw [← hw4] at r4 h48
    obtain ⟨B, hB⟩ : ∃ B, B = bl C (u : Int) C.length := ⟨_, rfl⟩
    have hBm : ∀ k ∈ B, k < C.length := fun k hk => bl_lt (Nat.le_refl _) (by rw [← hB]; exact hk)
    have hB8 : B.length ≤ C.length := by rw [hB]; unfold bl; exact Nat.le_trans (List.length_filter_le _ _) (by simp)
    rw [← hB] at r4 hFx
    have l4 : ((ofN B).length : Int) = B.length := by rw [ofN_len]
    simp (disch := first | assumption | omega | (simp only [az]; done)) only [ru, eq_self, if_true, if_false, BEq.rfl, binI, AO.row?, splice, fillL, mmAll, loadV, storeV, zeros, Am.rowAt, Am.part, addOff, Nat.reduceAdd, Nat.reduceMul, Nat.reduceLeDiff, Nat.reduceSub, Nat.reduceLT, Int.reduceEq, Int.reduceLT, Int.reduceLE, Int.reduceGT, Int.reduceGE, Int.reduceAdd, Int.reduceSub, Int.reduceMul, Int.reduceNeg, Int.reduceToNat, reduceCtorEq, reduceIte, c, hlt, lenV_sl hv, view_sl hv, scalar_sl hv, cells_sl hv, pure_sl hv, elem_nd hv, Int.toNat_natCast, hu', h48]
    refine G_loop_ind (fun z ts hk mk => ∃ m : Nat, m ≤ B.length ∧ z = B.length - m ∧ hk = [.cells [v] false] ∧ ts.length = 51 ∧ ts.getD 1 .undef = I y ∧ ts.getD 2 .undef = .ptr 0 0 ∧ ts.getD 5 .undef = w4 ∧ ts.getD 6 .undef = I (fstW C (B.take m)) ∧ ts.getD 7 .undef = I m ∧ mk = []) ?_ B.length _ _ _ ⟨0, Nat.zero_le _, rfl, rfl, rfl, rfl, rfl, rfl, rfl, rfl, rfl⟩
    clear hl' q1 q2 ts
    rintro z ts hk mk ih2 ⟨m, hm, rfl, rfl, hl', q1, q2, q5, q6, q7, rfl⟩
    rw [lit_all hl']
    simp only [lit0, litS, Nat.reduceAdd, q1, q2, q5, q6, q7]
    by_cases hlt2 : (m : Int) < B.length
    · have hm' : m < B.length := by omega
      obtain ⟨k, hk⟩ : ∃ k, k = B.getD m default := ⟨_, rfl⟩
      have hkn := hBm k (by rw [hk]; exact getD_mem hm')
      have hkz : (ofN B).getD m 0 = (k : Int) := by rw [ofN_at' hm', hk]
      have lt4 : (m : Int) < ((ofN B).length : Int) := by rw [ofN_len]; exact hlt2
      have lt6 : (k : Int) < C.length := by omega
      have es' : fstW C (B.take (m + 1)) = if fstW C (B.take m) < 0 ∧ 0 < (ndA C k).w then (k : Int) else fstW C (B.take m) := by rw [take_snoc (d := default) hm', ← hk, fstW_snoc]
      by_cases c1 : fstW C (B.take m) < 0
      · by_cases c2 : (ndA C k).w > 0
        · rw [if_pos ⟨c1, c2⟩] at es'
          simp (disch := first | assumption | omega | (simp only [az]; done)) only [ru, eq_self, if_true, if_false, BEq.rfl, binI, AO.row?, splice, fillL, mmAll, loadV, storeV, zeros, Am.rowAt, Am.part, addOff, Nat.reduceAdd, Nat.reduceMul, Nat.reduceLeDiff, Nat.reduceSub, Nat.reduceLT, Int.reduceEq, Int.reduceLT, Int.reduceLE, Int.reduceGT, Int.reduceGE, Int.reduceAdd, Int.reduceSub, Int.reduceMul, Int.reduceNeg, Int.reduceToNat, reduceCtorEq, reduceIte, hlt2, lt4, lt6, lenV_sl hv, view_sl hv, scalar_sl hv, cells_sl hv, pure_sl hv, elem_nd hv, lenV_sl r4, elem_in r4, view_sl r4, scalar_sl r4, cells_sl r4, pure_sl r4, Int.toNat_natCast, l4, hkz, Int.toNat_natCast, c1, c2, decide_true, gUn]
          exact ih2 (B.length - (m + 1)) _ _ _ (by omega) ⟨m + 1, by omega, rfl, rfl, rfl, rfl, rfl, rfl, by rw [es']; rfl, rfl, rfl⟩
        · rw [if_neg (fun h => c2 h.2)] at es'
          simp (disch := first | assumption | omega | (simp only [az]; done)) only [ru, eq_self, if_true, if_false, BEq.rfl, binI, AO.row?, splice, fillL, mmAll, loadV, storeV, zeros, Am.rowAt, Am.part, addOff, Nat.reduceAdd, Nat.reduceMul, Nat.reduceLeDiff, Nat.reduceSub, Nat.reduceLT, Int.reduceEq, Int.reduceLT, Int.reduceLE, Int.reduceGT, Int.reduceGE, Int.reduceAdd, Int.reduceSub, Int.reduceMul, Int.reduceNeg, Int.reduceToNat, reduceCtorEq, reduceIte, hlt2, lt4, lt6, lenV_sl hv, view_sl hv, scalar_sl hv, cells_sl hv, pure_sl hv, elem_nd hv, lenV_sl r4, elem_in r4, view_sl r4, scalar_sl r4, cells_sl r4, pure_sl r4, Int.toNat_natCast, l4, hkz, Int.toNat_natCast, c1, c2, decide_true, decide_false, gUn]
          exact ih2 (B.length - (m + 1)) _ _ _ (by omega) ⟨m + 1, by omega, rfl, rfl, rfl, rfl, rfl, rfl, by rw [es']; rfl, rfl, rfl⟩
      · rw [if_neg (fun h => c1 h.1)] at es'
        simp (disch := first | assumption | omega | (simp only [az]; done)) only [ru, eq_self, if_true, if_false, BEq.rfl, binI, AO.row?, splice, fillL, mmAll, loadV, storeV, zeros, Am.rowAt, Am.part, addOff, Nat.reduceAdd, Nat.reduceMul, Nat.reduceLeDiff, Nat.reduceSub, Nat.reduceLT, Int.reduceEq, Int.reduceLT, Int.reduceLE, Int.reduceGT, Int.reduceGE, Int.reduceAdd, Int.reduceSub, Int.reduceMul, Int.reduceNeg, Int.reduceToNat, reduceCtorEq, reduceIte, hlt2, lt4, lt6, lenV_sl hv, view_sl hv, scalar_sl hv, cells_sl hv, pure_sl hv, elem_nd hv, lenV_sl r4, elem_in r4, view_sl r4, scalar_sl r4, cells_sl r4, pure_sl r4, Int.toNat_natCast, l4, hkz, Int.toNat_natCast, c1, decide_false, gUn]
        exact ih2 (B.length - (m + 1)) _ _ _ (by omega) ⟨m + 1, by omega, rfl, rfl, rfl, rfl, rfl, rfl, by rw [es']; rfl, rfl, rfl⟩
    · obtain rfl : m = B.length := by omega
      rw [List.take_length] at q6
      by_cases cf : fstW C B = y
      · have cb : (fstW C B != (y : Int)) = false := by simp [cf]
        have hF2 : isFb C j = isFb C u := by rw [hF, hFx, decide_eq_true cf]; simp
        simp (disch := first | assumption | omega | (simp only [az]; done)) only [ru, eq_self, if_true, if_false, BEq.rfl, binI, AO.row?, splice, fillL, mmAll, loadV, storeV, zeros, Am.rowAt, Am.part, addOff, Nat.reduceAdd, Nat.reduceMul, Nat.reduceLeDiff, Nat.reduceSub, Nat.reduceLT, Int.reduceEq, Int.reduceLT, Int.reduceLE, Int.reduceGT, Int.reduceGE, Int.reduceAdd, Int.reduceSub, Int.reduceMul, Int.reduceNeg, Int.reduceToNat, reduceCtorEq, reduceIte, hlt2, hlt, lenV_sl hv, view_sl hv, scalar_sl hv, cells_sl hv, pure_sl hv, elem_nd hv, lenV_sl r4, elem_in r4, view_sl r4, scalar_sl r4, cells_sl r4, pure_sl r4, Int.toNat_natCast, l4, List.take_length, cb, Int.toNat_natCast, hu']
        exact ih u _ _ _ (by omega) ⟨u, by omega, rfl, hF2, rfl, rfl, rfl, rfl, rfl⟩
      · have cb : (fstW C B != (y : Int)) = true := by simp [cf]
        have hF2 : isFb C j = false := by rw [hF, hFx, decide_eq_false cf]; simp
        simp (disch := first | assumption | omega | (simp only [az]; done)) only [ru, eq_self, if_true, if_false, BEq.rfl, binI, AO.row?, splice, fillL, mmAll, loadV, storeV, zeros, Am.rowAt, Am.part, addOff, Nat.reduceAdd, Nat.reduceMul, Nat.reduceLeDiff, Nat.reduceSub, Nat.reduceLT, Int.reduceEq, Int.reduceLT, Int.reduceLE, Int.reduceGT, Int.reduceGE, Int.reduceAdd, Int.reduceSub, Int.reduceMul, Int.reduceNeg, Int.reduceToNat, reduceCtorEq, reduceIte, hlt2, hlt, lenV_sl hv, view_sl hv, scalar_sl hv, cells_sl hv, pure_sl hv, elem_nd hv, lenV_sl r4, elem_in r4, view_sl r4, scalar_sl r4, cells_sl r4, pure_sl r4, Int.toNat_natCast, l4, List.take_length, cb, hF2]
  · obtain rfl : y = 0 := by omega
    have hF2 : isFb C j = true := by rw [hF]; exact isFb_zero
    simp (disch := first | assumption | omega | (simp only [az]; done)) only [ru, eq_self, if_true, if_false, BEq.rfl, binI, AO.row?, splice, fillL, mmAll, loadV, storeV, zeros, Am.rowAt, Am.part, addOff, Nat.reduceAdd, Nat.reduceMul, Nat.reduceLeDiff, Nat.reduceSub, Nat.reduceLT, Int.reduceEq, Int.reduceLT, Int.reduceLE, Int.reduceGT, Int.reduceGE, Int.reduceAdd, Int.reduceSub, Int.reduceMul, Int.reduceNeg, Int.reduceToNat, reduceCtorEq, reduceIte, c, hF2]
    done
/-- Falls -/
theorem x31r (H : CuOk C) {j : Nat} (hj : j < C.length) (st : Bool) : Iso E 31 [cuV v, I j] st = some (.tup [I (frN 399 fun p => decide (gG C p j > gG C (p + 1) j)), I (frE 399 fun p => decide (gG C p j > gG C (p + 1) j))]) := by
  have h := t31 hv (by have := H.n8; omega) (j : Int) st
  have hi : inR (j : Int) 0 (C.length - 1) = true := inR_iff.2 (by omega)
  rw [hi, fit_val H, if_pos rfl, ansN, if_pos rfl, Int.toNat_natCast] at h
  exact h
/-- what a node gets of two numbers of pence, one after the other -/
theorem two (H : CuOk C) {j : Nat} (hj : j < C.length) {p : Int} (hp : 0 ≤ p) (hp2 : p ≤ 399) : ∃ w1 w2, Iso E 47 [cuV v, I p] false = some (.tup [w1, Bo true]) ∧ Iso E 47 [cuV v, I (p + 1)] false = some (.tup [w2, Bo true]) ∧ IsSl 1 intL (gL C p) w1 ∧ IsSl 1 intL (gL C (p + 1)) w2 :=
  ⟨_, _, t47 hv H hp (by omega), t47 hv H (by omega) (by omega), resL_is _, resL_is _⟩
set_option maxHeartbeats 1000000 in
theorem l10 (i q : Int) (st : Bool) : Iso E 10 [cuV v, I i, I q] st = some (Bo true) := by
  refine Iso_of (es _ _ _ _) e10 ?_
  simp only [f10]
  cases hr : rdy C
  · simp (disch := first | assumption | omega | (simp only [az]; done)) only [ru, eq_self, if_true, if_false, BEq.rfl, binI, AO.row?, splice, fillL, mmAll, loadV, storeV, zeros, Am.rowAt, Am.part, addOff, Nat.reduceAdd, Nat.reduceMul, Nat.reduceLeDiff, Nat.reduceSub, Nat.reduceLT, Int.reduceEq, Int.reduceLT, Int.reduceLE, Int.reduceGT, Int.reduceGE, Int.reduceAdd, Int.reduceSub, Int.reduceMul, Int.reduceNeg, Int.reduceToNat, reduceCtorEq, reduceIte, lenV_sl hv, view_sl hv, scalar_sl hv, cells_sl hv, pure_sl hv, t45r hv, hr, Bool.not_false, gUn, t17]
  obtain ⟨H, hl⟩ := rdy_ok hr
  cases hi : inR i 0 (C.length - 1)
  · simp (disch := first | assumption | omega | (simp only [az]; done)) only [ru, eq_self, if_true, if_false, BEq.rfl, binI, AO.row?, splice, fillL, mmAll, loadV, storeV, zeros, Am.rowAt, Am.part, addOff, Nat.reduceAdd, Nat.reduceMul, Nat.reduceLeDiff, Nat.reduceSub, Nat.reduceLT, Int.reduceEq, Int.reduceLT, Int.reduceLE, Int.reduceGT, Int.reduceGE, Int.reduceAdd, Int.reduceSub, Int.reduceMul, Int.reduceNeg, Int.reduceToNat, reduceCtorEq, reduceIte, lenV_sl hv, view_sl hv, scalar_sl hv, cells_sl hv, pure_sl hv, t45r hv, hr, Bool.not_true, Bool.not_false, gUn, t49 hv hl, hi, t17]
  have hi' := inR_iff.1 hi
  obtain ⟨j, rfl⟩ : ∃ j : Nat, i = j := ⟨i.toNat, by omega⟩
  have hjl : j < C.length := by omega
  have h31 := fun st => x31r hv H hjl st
  have h52 := fun st => t52 hv H hjl st
  have n33 : ((3 : Int) != 3) = false := rfl
  have n30 : ((3 : Int) != 0) = true := rfl
  have n00 : ((0 : Int) != 0) = false := rfl
  have n03 : ((0 : Int) != 3) = true := rfl
  have e30 : ((3 : Int) == 0) = false := rfl
  have e00 : ((0 : Int) == 0) = true := rfl
  have lt1 : ∀ p, (j : Int) < ((gL C p).length : Int) := fun p => by rw [gL_len]; omega
  have at1 : ∀ p, (gL C p).getD j 0 = gG C p j := fun p => gL_at hjl
  rcases fr_cases 399 (fun p => decide (gG C p j > gG C (p + 1) j)) with ⟨k, f1, f2, hk, hq, hbe⟩ | ⟨f1, f2, hbe⟩
  · have hfall : gG C k j > gG C (k + 1) j := by simpa using hq
    have hF : isFb C j = false := by
      cases h : isFb C j with
      | false => rfl
      | true => have := gG_first H (p := (k : Int)) (by omega) j hjl h; omega
    have pn := gG_pen H (p := (k : Int)) (by omega) j hjl
    have heq : gG C k j = gG C (k + 1) j + 1 := by omega
    have ik : inR (k : Int) 0 399 = true := inR_iff.2 (by omega)
    obtain ⟨w1, w2, a1, a2, r1, r2⟩ := two hv H hjl (p := (k : Int)) (by omega) (by omega)
    have ew := wr64 (n := (k : Int) + 1) (by omega) (by omega)
    have gb := gG_bd H (p := (k : Int) + 1) (by omega) j hjl
    have ew2 := wr64 (n := gG C (k + 1) j + 1) (by omega) (by omega)
    have lt1k := lt1 (k : Int)
    have lt1k' := lt1 ((k : Int) + 1)
    have at1k := at1 (k : Int)
    have at1k' := at1 ((k : Int) + 1)
    have nee : (gG C (k + 1) j + 1 != gG C (k + 1) j + 1) = false := by simp
    cases hp : inR q 0 399
    · simp (disch := first | assumption | omega | (simp only [az]; done)) only [ru, eq_self, if_true, if_false, BEq.rfl, binI, AO.row?, splice, fillL, mmAll, loadV, storeV, zeros, Am.rowAt, Am.part, addOff, Nat.reduceAdd, Nat.reduceMul, Nat.reduceLeDiff, Nat.reduceSub, Nat.reduceLT, Int.reduceEq, Int.reduceLT, Int.reduceLE, Int.reduceGT, Int.reduceGE, Int.reduceAdd, Int.reduceSub, Int.reduceMul, Int.reduceNeg, Int.reduceToNat, reduceCtorEq, reduceIte, lenV_sl hv, view_sl hv, scalar_sl hv, cells_sl hv, pure_sl hv, t45r hv, hr, Bool.not_true, Bool.not_false, gUn, t49 hv hl, hi, h31, f1, f2, n00, h52, hF, e00, s57, ik, a1, a2, ew, lenV_sl r1, elem_in r1, view_sl r1, scalar_sl r1, cells_sl r1, pure_sl r1, Int.toNat_natCast, lenV_sl r2, elem_in r2, view_sl r2, scalar_sl r2, cells_sl r2, pure_sl r2, Int.toNat_natCast, at1k, at1k', heq, ew2, nee, hp, t17]
    · by_cases hqk : q ≥ k
      · simp (disch := first | assumption | omega | (simp only [az]; done)) only [ru, eq_self, if_true, if_false, BEq.rfl, binI, AO.row?, splice, fillL, mmAll, loadV, storeV, zeros, Am.rowAt, Am.part, addOff, Nat.reduceAdd, Nat.reduceMul, Nat.reduceLeDiff, Nat.reduceSub, Nat.reduceLT, Int.reduceEq, Int.reduceLT, Int.reduceLE, Int.reduceGT, Int.reduceGE, Int.reduceAdd, Int.reduceSub, Int.reduceMul, Int.reduceNeg, Int.reduceToNat, reduceCtorEq, reduceIte, lenV_sl hv, view_sl hv, scalar_sl hv, cells_sl hv, pure_sl hv, t45r hv, hr, Bool.not_true, Bool.not_false, gUn, t49 hv hl, hi, h31, f1, f2, n00, h52, hF, e00, s57, ik, a1, a2, ew, lenV_sl r1, elem_in r1, view_sl r1, scalar_sl r1, cells_sl r1, pure_sl r1, Int.toNat_natCast, lenV_sl r2, elem_in r2, view_sl r2, scalar_sl r2, cells_sl r2, pure_sl r2, Int.toNat_natCast, at1k, at1k', heq, ew2, nee, hp, hqk, decide_true, t17]
      · have hp' := inR_iff.1 hp
        obtain ⟨m, rfl⟩ : ∃ m : Nat, q = m := ⟨q.toNat, by omega⟩
        obtain ⟨w3, w4, b1, b2, r3, r4⟩ := two hv H hjl (p := (m : Int)) (by omega) (by omega)
        have ew3 := wr64 (n := (m : Int) + 1) (by omega) (by omega)
        have hle : gG C m j ≤ gG C (m + 1) j := by
          have := hbe m (Int.ofNat_lt.1 (Int.not_le.1 hqk))
          simp only [decide_eq_false_iff_not] at this; omega
        have lt1m := lt1 (m : Int)
        have lt1m' := lt1 ((m : Int) + 1)
        have at1m := at1 (m : Int)
        have at1m' := at1 ((m : Int) + 1)
        simp (disch := first | assumption | omega | (simp only [az]; done)) only [ru, eq_self, if_true, if_false, BEq.rfl, binI, AO.row?, splice, fillL, mmAll, loadV, storeV, zeros, Am.rowAt, Am.part, addOff, Nat.reduceAdd, Nat.reduceMul, Nat.reduceLeDiff, Nat.reduceSub, Nat.reduceLT, Int.reduceEq, Int.reduceLT, Int.reduceLE, Int.reduceGT, Int.reduceGE, Int.reduceAdd, Int.reduceSub, Int.reduceMul, Int.reduceNeg, Int.reduceToNat, reduceCtorEq, reduceIte, lenV_sl hv, view_sl hv, scalar_sl hv, cells_sl hv, pure_sl hv, t45r hv, hr, Bool.not_true, Bool.not_false, gUn, t49 hv hl, hi, h31, f1, f2, n00, h52, hF, e00, s57, ik, a1, a2, ew, lenV_sl r1, elem_in r1, view_sl r1, scalar_sl r1, cells_sl r1, pure_sl r1, Int.toNat_natCast, lenV_sl r2, elem_in r2, view_sl r2, scalar_sl r2, cells_sl r2, pure_sl r2, Int.toNat_natCast, at1k, at1k', heq, ew2, nee, hp, hqk, decide_true, decide_false, b1, b2, ew3, lenV_sl r3, elem_in r3, view_sl r3, scalar_sl r3, cells_sl r3, pure_sl r3, Int.toNat_natCast, lenV_sl r4, elem_in r4, view_sl r4, scalar_sl r4, cells_sl r4, pure_sl r4, Int.toNat_natCast, at1m, at1m', hle, t17]
  · cases hp : inR q 0 399
    · cases hF : isFb C j <;> simp (disch := first | assumption | omega | (simp only [az]; done)) only [ru, eq_self, if_true, if_false, BEq.rfl, binI, AO.row?, splice, fillL, mmAll, loadV, storeV, zeros, Am.rowAt, Am.part, addOff, Nat.reduceAdd, Nat.reduceMul, Nat.reduceLeDiff, Nat.reduceSub, Nat.reduceLT, Int.reduceEq, Int.reduceLT, Int.reduceLE, Int.reduceGT, Int.reduceGE, Int.reduceAdd, Int.reduceSub, Int.reduceMul, Int.reduceNeg, Int.reduceToNat, reduceCtorEq, reduceIte, lenV_sl hv, view_sl hv, scalar_sl hv, cells_sl hv, pure_sl hv, t45r hv, hr, Bool.not_true, Bool.not_false, gUn, t49 hv hl, hi, h31, f1, f2, n30, n33, h52, hF, e30, s57, hp, t17]
    · have hp' := inR_iff.1 hp
      obtain ⟨m, rfl⟩ : ∃ m : Nat, q = m := ⟨q.toNat, by omega⟩
      obtain ⟨w3, w4, b1, b2, r3, r4⟩ := two hv H hjl (p := (m : Int)) (by omega) (by omega)
      have ew3 := wr64 (n := (m : Int) + 1) (by omega) (by omega)
      have hle : gG C m j ≤ gG C (m + 1) j := by
        have := hbe m (by omega)
        simp only [decide_eq_false_iff_not] at this; omega
      have lt1m := lt1 (m : Int)
      have lt1m' := lt1 ((m : Int) + 1)
      have at1m := at1 (m : Int)
      have at1m' := at1 ((m : Int) + 1)
      cases hF : isFb C j <;> simp (disch := first | assumption | omega | (simp only [az]; done)) only [ru, eq_self, if_true, if_false, BEq.rfl, binI, AO.row?, splice, fillL, mmAll, loadV, storeV, zeros, Am.rowAt, Am.part, addOff, Nat.reduceAdd, Nat.reduceMul, Nat.reduceLeDiff, Nat.reduceSub, Nat.reduceLT, Int.reduceEq, Int.reduceLT, Int.reduceLE, Int.reduceGT, Int.reduceGE, Int.reduceAdd, Int.reduceSub, Int.reduceMul, Int.reduceNeg, Int.reduceToNat, reduceCtorEq, reduceIte, lenV_sl hv, view_sl hv, scalar_sl hv, cells_sl hv, pure_sl hv, t45r hv, hr, Bool.not_true, Bool.not_false, gUn, t49 hv hl, hi, h31, f1, f2, n30, n33, h52, hF, e30, s57, hp, b1, b2, ew3, lenV_sl r3, elem_in r3, view_sl r3, scalar_sl r3, cells_sl r3, pure_sl r3, Int.toNat_natCast, lenV_sl r4, elem_in r4, view_sl r4, scalar_sl r4, cells_sl r4, pure_sl r4, Int.toNat_natCast, at1m, at1m', hle, decide_true, t17]
end
end Go.Proofs.Ytaeijjfgfenfhaa.S

