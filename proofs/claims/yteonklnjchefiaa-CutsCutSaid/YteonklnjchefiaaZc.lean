/-
The specification: sums of numbers times weights, Whole, Price and Rank.
-/
import Derived.Test.YteonklnjchefiaaZb
namespace Go.Proofs.Yteonklnjchefiaa.S
open Go Go.Am Go.Proofs.Yteonklnjchefiaa.T
set_option maxRecDepth 100000
set_option linter.unusedSimpArgs false
set_option linter.unusedVariables false

theorem set_at0 {l : List AO} {i : Nat} {x y : AO} (h : l[i]? = some y) : (l.set i x)[i]? = some x := by
  have := (List.getElem?_eq_some_iff.1 h).1
  simp [this]
section
variable {t : List Pt} {v : AV}
/-- costs of words, and a number times the weight -/
def pI (t : List Pt) (r : Nat → Int) (i b : Nat) : Int := wI t i b + r i * b
def mI (t : List Pt) (r : Nat → Int) (i b : Nat) : Int := wI t i b - r i * b
theorem wI_01 {i b : Nat} : wI t i b = 0 ∨ wI t i b = NV := by unfold wI; split <;> simp
theorem pI_rp {r : Nat → Int} {i b : Nat} (hm : -3000 ≤ r i * (b : Int) ∧ r i * (b : Int) ≤ 3000) : Rp 3000 (pI t r i b) (cT t r i b) := by
  unfold pI wI cT
  have h := @awy_zero (t.getD i default).w b
  have h0 := @awy_nn (t.getD i default).w b
  by_cases c : awy (t.getD i default).w b > 0
  · rw [if_pos c, if_neg (fun hh => by have := h.2 hh; omega)]
    exact ⟨(fun v hv => by cases hv), fun _ => by show NV - 3000 ≤ NV + r i * (b : Int) ∧ NV + r i * (b : Int) ≤ NV + 3000; omega⟩
  · rw [if_neg c, if_pos (h.1 (by omega))]
    exact ⟨fun v hv => by simp only [Option.some.injEq] at hv; omega, (fun e => by cases e)⟩
theorem mI_rp {r : Nat → Int} {i b : Nat} (hm : -3000 ≤ r i * (b : Int) ∧ r i * (b : Int) ≤ 3000) : Rp 3000 (mI t r i b) (cT t (fun i => 0 - r i) i b) := by
  have e : mI t r i b = pI t (fun i => 0 - r i) i b := by
    unfold mI pI
    have : (0 - r i) * (b : Int) = 0 - r i * (b : Int) := by rw [Int.sub_mul, Int.zero_mul]
    rw [this]; omega
  rw [e]
  refine pI_rp ?_
  have : (0 - r i) * (b : Int) = 0 - r i * (b : Int) := by rw [Int.sub_mul, Int.zero_mul]
  rw [this]; omega
theorem till_at {F G : Nat → Nat → Int} {i b : Nat} : till F G i b i b = G i b := if_neg (by omega)
theorem till_put {F G : Nat → Nat → Int} {i b : Nat} (hb : b < 31) {Z : List AV} (hZ : Z = rw_ 31 (till F G i b i)) : Z.take b ++ I (F i b) :: Z.drop (b + 1) = rw_ 31 (till F G i (b + 1) i) := by
  have : Z.take b ++ [I (F i b)] ++ Z.drop (b + 1) = rw_ 31 (till F G i (b + 1) i) := by
    rw [hZ]
    refine rw_put hb fun y hy => ?_
    unfold till
    by_cases e : y = b
    · subst e; rw [if_pos rfl, if_pos (by omega)]
    · rw [if_neg e]; by_cases e2 : i < i ∨ (i = i ∧ y < b)
      · rw [if_pos e2, if_pos (by omega)]
      · rw [if_neg e2, if_neg (by omega)]
  simpa using this
theorem till_ne {F G : Nat → Nat → Int} {i b k y : Nat} (h : k ≠ i) : till F G i (b + 1) k y = till F G i b k y := by
  unfold till
  by_cases e2 : k < i ∨ (k = i ∧ y < b)
  · rw [if_pos e2, if_pos (by omega)]
  · rw [if_neg e2, if_neg (by omega)]
set_option maxHeartbeats 8000000 in
theorem s94 (H : TbOk t v) (T : TW t) (h1 : is1 t = true) {r : Nat → Int} (hr : RB r) {u : AV} (U : IsSl 1 intL (rng t.length r) u) (st : Bool) : Iso E 94 [v, u] st = some (.agg [I (loV t r), I (hiV t r)]) := by
  have sp := H.n
  have n8 := T.n
  have nvv : NV = 1099511627776 := rfl
  have mb : ∀ i, i < t.length → ∀ b : Nat, b < 31 → -3000 ≤ r i * (b : Int) ∧ r i * (b : Int) ≤ 3000 := fun i hi b hb => mul_bd (hr i (by omega)) (by omega)
  obtain ⟨w1, h1', hr1, f1, T1⟩ := r80 H T (h := [.cells [I 0, I 0] false]) (lim := 0) (Nat.zero_le _)
  obtain ⟨w2, h2', hr2, f2, T2⟩ := r80 H T (h := h1') (lim := 0) (Nat.zero_le _)
  have z0 := f2.at (f1.at (j := 0) rfl)
  have ul : ((rng t.length r).length : Int) = t.length := by rw [rng_len]
  obtain ⟨lw, hlw⟩ : ∃ w, w = resLL (rowsL t.length (pI t r)) := ⟨_, rfl⟩
  obtain ⟨hw, hhw⟩ : ∃ w, w = resLL (rowsL t.length (mI t r)) := ⟨_, rfl⟩
  have LW : IsSl 1 resE (rowsL t.length (pI t r)) lw := by rw [hlw]; exact resLL_is _
  have HW : IsSl 1 resE (rowsL t.length (mI t r)) hw := by rw [hhw]; exact resLL_is _
  obtain ⟨x, gx, rx⟩ := s79 H T.toTG (c := cT t r) (F := pI t r) (fun i hi b hb => pI_rp (mb i hi b hb)) LW
  obtain ⟨y, gy, ry⟩ := s79 H T.toTG (c := cT t fun i => 0 - r i) (F := mI t r) (fun i hi b hb => mI_rp (mb i hi b hb)) HW
  obtain ⟨xv, hxv⟩ := LstT_some (r := r) T.toTG h1
  obtain ⟨yv, hyv⟩ := LstT_some (r := fun i => 0 - r i) T.toTG h1
  have ex : x = loV t r := by have := rx.1 xv hxv; unfold loV; rw [hxv]; exact this
  have ey : -y = hiV t r := by have := ry.1 yv hyv; unfold hiV; rw [hyv]; show -y = 0 - yv; omega
  have by1 := ry.2.2
  have wN : wr .i64 (0 - y) = hiV t r := by rw [wr64 (by omega) (by omega)]; omega
  refine Iso_of (es _ _ _ _) e94 ?_
  simp only [f94]
  rcases T1 with ⟨h0, rfl⟩ | ⟨hn, o1, q1, rfl, T1⟩
  · rcases T2 with ⟨_, rfl⟩ | ⟨hn, _⟩
    · have VL : lw = .nils := by rw [hlw, h0]; rfl
      have VH : hw = .nils := by rw [hhw, h0]; rfl
      rw [VL] at gx
      rw [VH] at gy
      have exy : x = y := by have := (gx true).symm.trans (gy true); simpa using this
      have wM : wr .i64 (0 - loV t r) = hiV t r := by rw [← ex, exy]; exact wN
      have z : ¬ (0 : Int) < t.length := by omega
      simp (disch := first | assumption | omega | (simp only [az]; done)) only [ru, eq_self, if_true, if_false, BEq.rfl, binI, AO.row?, splice, fillL, mmAll, loadV, storeV, zeros, Am.rowAt, Am.part, addOff, Nat.reduceAdd, Nat.reduceMul, Nat.reduceLeDiff, Nat.reduceSub, Nat.reduceLT, Int.reduceEq, Int.reduceLT, Int.reduceLE, Int.reduceGT, Int.reduceGE, Int.reduceAdd, Int.reduceSub, Int.reduceMul, Int.reduceNeg, Int.reduceToNat, reduceCtorEq, reduceIte, lenV_sl H.i, elem_pt H.i, view_sl H.i, scalar_sl H.i, cells_sl H.i, pure_sl H.i, Int.toNat_natCast, exOp_call0, hr1, hr2]
      rw [G_loop]
      simp (disch := first | assumption | omega | (simp only [az]; done)) only [ru, eq_self, if_true, if_false, BEq.rfl, binI, AO.row?, splice, fillL, mmAll, loadV, storeV, zeros, Am.rowAt, Am.part, addOff, Nat.reduceAdd, Nat.reduceMul, Nat.reduceLeDiff, Nat.reduceSub, Nat.reduceLT, Int.reduceEq, Int.reduceLT, Int.reduceLE, Int.reduceGT, Int.reduceGE, Int.reduceAdd, Int.reduceSub, Int.reduceMul, Int.reduceNeg, Int.reduceToNat, reduceCtorEq, reduceIte, lenV_sl H.i, elem_pt H.i, view_sl H.i, scalar_sl H.i, cells_sl H.i, pure_sl H.i, Int.toNat_natCast, z, z0, decide_false, gx, ex, wM, set_at0 z0, finC, getRes, Option.some.injEq, exists_eq_left']
      done
    · omega
  rcases T2 with ⟨h0, _⟩ | ⟨_, o2, q2, rfl, T2⟩
  · omega
  simp (disch := first | assumption | omega | (simp only [az]; done)) only [ru, eq_self, if_true, if_false, BEq.rfl, binI, AO.row?, splice, fillL, mmAll, loadV, storeV, zeros, Am.rowAt, Am.part, addOff, Nat.reduceAdd, Nat.reduceMul, Nat.reduceLeDiff, Nat.reduceSub, Nat.reduceLT, Int.reduceEq, Int.reduceLT, Int.reduceLE, Int.reduceGT, Int.reduceGE, Int.reduceAdd, Int.reduceSub, Int.reduceMul, Int.reduceNeg, Int.reduceToNat, reduceCtorEq, reduceIte, lenV_sl H.i, elem_pt H.i, view_sl H.i, scalar_sl H.i, cells_sl H.i, pure_sl H.i, Int.toNat_natCast, exOp_call0, hr1, hr2]
  have l12 := f2.l
  have l01 := f1.l
  simp only [List.length_cons, List.length_nil, Nat.zero_add] at l01 T1
  have T1' := T1.fr (h' := h2') fun j h1 h2 => f2.k j h2
  refine G_loop_ind (fun m ts hh mk => ∃ i : Nat, i ≤ t.length ∧ m = t.length - i ∧ hh.length = h2'.length ∧ hh[0]? = some (.cells [I 0, I 0] false) ∧ TabN 1 h1'.length hh t.length o1 q1 (till (pI t r) (wI t) i 0) ∧ TabN h1'.length h2'.length hh t.length o2 q2 (till (mI t r) (wI t) i 0) ∧ ts.length = 61 ∧ ts.getD 0 .undef = v ∧ ts.getD 1 .undef = u ∧ ts.getD 4 .undef = .ptr 0 0 ∧ ts.getD 5 .undef = .ms 1 o1 0 t.length ∧ ts.getD 6 .undef = .ms 1 o2 0 t.length ∧ ts.getD 7 .undef = I i ∧ mk = []) ?_ _ _ _ _
    ⟨0, Nat.zero_le _, rfl, rfl, z0, T1'.congr (fun k _ y _ => by rw [till_zero]), T2.congr (fun k _ y _ => by rw [till_zero]), rfl, rfl, rfl, rfl, rfl, rfl, rfl, rfl⟩
  clear T1 T2 T1' z0
  rintro m ts hh mk ih ⟨i, hi, rfl, lh, z0, TA, TB, hl', q0, q1', q4, q5, q6, q7, rfl⟩
  rw [lit_all hl']
  simp only [lit0, litS, Nat.reduceAdd, q0, q1', q4, q5, q6, q7]
  by_cases hlt : (i : Int) < t.length
  case neg =>
    obtain rfl : i = t.length := by omega
    have va := fun st => (TA.congr (g := pI t r) fun k hk y _ => till_full hk).view hn st 6
    have vb := fun st => (TB.congr (g := mI t r) fun k hk y _ => till_full hk).view hn st 6
    rw [← hlw] at va
    rw [← hhw] at vb
    simp (disch := first | assumption | omega | (simp only [az]; done)) only [ru, eq_self, if_true, if_false, BEq.rfl, binI, AO.row?, splice, fillL, mmAll, loadV, storeV, zeros, Am.rowAt, Am.part, addOff, Nat.reduceAdd, Nat.reduceMul, Nat.reduceLeDiff, Nat.reduceSub, Nat.reduceLT, Int.reduceEq, Int.reduceLT, Int.reduceLE, Int.reduceGT, Int.reduceGE, Int.reduceAdd, Int.reduceSub, Int.reduceMul, Int.reduceNeg, Int.reduceToNat, reduceCtorEq, reduceIte, lenV_sl H.i, elem_pt H.i, view_sl H.i, scalar_sl H.i, cells_sl H.i, pure_sl H.i, Int.toNat_natCast, lenV_sl LW, view_sl LW, scalar_sl LW, cells_sl LW, pure_sl LW, lenV_sl HW, view_sl HW, scalar_sl HW, cells_sl HW, pure_sl HW, hlt, decide_false, va, vb, gx, gy, ex, wN, z0, set_at0 z0, finC, getRes, Option.some.injEq, exists_eq_left']
    done
  have hi2 : i < t.length := by omega
  simp (disch := first | assumption | omega | (simp only [az]; done)) only [ru, eq_self, if_true, if_false, BEq.rfl, binI, AO.row?, splice, fillL, mmAll, loadV, storeV, zeros, Am.rowAt, Am.part, addOff, Nat.reduceAdd, Nat.reduceMul, Nat.reduceLeDiff, Nat.reduceSub, Nat.reduceLT, Int.reduceEq, Int.reduceLT, Int.reduceLE, Int.reduceGT, Int.reduceGE, Int.reduceAdd, Int.reduceSub, Int.reduceMul, Int.reduceNeg, Int.reduceToNat, reduceCtorEq, reduceIte, lenV_sl H.i, elem_pt H.i, view_sl H.i, scalar_sl H.i, cells_sl H.i, pure_sl H.i, Int.toNat_natCast, hlt, decide_true]
  refine G_loop_ind (fun m ts hh mk => ∃ b : Nat, b ≤ 31 ∧ m = 31 - b ∧ hh.length = h2'.length ∧ hh[0]? = some (.cells [I 0, I 0] false) ∧ TabN 1 h1'.length hh t.length o1 q1 (till (pI t r) (wI t) i b) ∧ TabN h1'.length h2'.length hh t.length o2 q2 (till (mI t r) (wI t) i b) ∧ ts.length = 61 ∧ ts.getD 0 .undef = v ∧ ts.getD 1 .undef = u ∧ ts.getD 4 .undef = .ptr 0 0 ∧ ts.getD 5 .undef = .ms 1 o1 0 t.length ∧ ts.getD 6 .undef = .ms 1 o2 0 t.length ∧ ts.getD 7 .undef = I i ∧ ts.getD 8 .undef = I b ∧ mk = []) ?_ _ _ _ _
    ⟨0, Nat.zero_le _, rfl, lh, z0, TA, TB, rfl, rfl, rfl, rfl, rfl, rfl, rfl, rfl, rfl⟩
  clear TA TB z0 lh
  rintro m ts hh mk ih2 ⟨b, hb, rfl, lh, z0, TA, TB, hl', q0, q1', q4, q5, q6, q7, q8, rfl⟩
  rw [lit_all hl']
  simp only [lit0, litS, Nat.reduceAdd, q0, q1', q4, q5, q6, q7, q8]
  by_cases hlb : (b : Int) ≤ 30
  case neg =>
    obtain rfl : b = 31 := by omega
    simp (disch := first | assumption | omega | (simp only [az]; done)) only [ru, eq_self, if_true, if_false, BEq.rfl, binI, AO.row?, splice, fillL, mmAll, loadV, storeV, zeros, Am.rowAt, Am.part, addOff, Nat.reduceAdd, Nat.reduceMul, Nat.reduceLeDiff, Nat.reduceSub, Nat.reduceLT, Int.reduceEq, Int.reduceLT, Int.reduceLE, Int.reduceGT, Int.reduceGE, Int.reduceAdd, Int.reduceSub, Int.reduceMul, Int.reduceNeg, Int.reduceToNat, reduceCtorEq, reduceIte, hlb, decide_false]
    exact ih (t.length - (i + 1)) _ _ _ (by omega) ⟨i + 1, by omega, rfl, lh, z0, TA.congr fun k _ y hy => till_next hy, TB.congr fun k _ y hy => till_next hy, rfl, rfl, rfl, rfl, rfl, rfl, rfl, rfl⟩
  have hb2 : b < 31 := by omega
  have ua : (rng t.length r).getD i 0 = r i := rng_at hi2
  have ub : (i : Int) < (rng t.length r).length := by rw [rng_len]; omega
  obtain ⟨UL, hUL⟩ : ∃ L, L = rng t.length r := ⟨_, rfl⟩
  rw [← hUL] at U ul ua ub
  have mbi := mb i hi2 b hb2
  have w01 := @wI_01 t i b
  have tA := TA.rows i hi2
  have tB := TB.rows i hi2
  have cA := TA.oc
  have cB := TB.oc
  have obA := TA.ob
  have obB := TB.ob
  obtain ⟨ZA, hZA⟩ : ∃ Z, Z = rw_ 31 (till (pI t r) (wI t) i b i) := ⟨_, rfl⟩
  obtain ⟨ZB, hZB⟩ : ∃ Z, Z = rw_ 31 (till (mI t r) (wI t) i b i) := ⟨_, rfl⟩
  have pA := till_put hb2 hZA
  have pB := till_put hb2 hZB
  have hA : (ZA.drop b).head? = some (I (wI t i b)) := by rw [hZA, rw_head hb2, till_at]
  have hB : (ZB.drop b).head? = some (I (wI t i b)) := by rw [hZB, rw_head hb2, till_at]
  have lA : ZA.length = 31 := by rw [hZA, rw_len]
  have lB : ZB.length = 31 := by rw [hZB, rw_len]
  have rA' := tA.2.2
  have rB' := tB.2.2
  rw [← hZA] at rA'
  rw [← hZB] at rB'
  obtain ⟨NA, hNA⟩ : ∃ Z, Z = rw_ 31 (till (pI t r) (wI t) i (b + 1) i) := ⟨_, rfl⟩
  obtain ⟨NB, hNB⟩ : ∃ Z, Z = rw_ 31 (till (mI t r) (wI t) i (b + 1) i) := ⟨_, rfl⟩
  rw [← hNA] at pA
  rw [← hNB] at pB
  simp only [pI] at pA
  simp only [mI] at pB
  have phA := ptrs_head (q := q1) hi2
  have phB := ptrs_head (q := q2) hi2
  obtain ⟨PA, hPA⟩ : ∃ PP, PP = ptrs t.length q1 := ⟨_, rfl⟩
  obtain ⟨PB, hPB⟩ : ∃ PP, PP = ptrs t.length q2 := ⟨_, rfl⟩
  rw [← hPA] at cA phA
  rw [← hPB] at cB phB
  have neq : q1 i ≠ q2 i := by have := tA.1; have := tB.1; omega
  have cB2 : (hh.set (q1 i) (.cells NA false))[o2]? = some (.cells PB false) := by rw [List.getElem?_set_ne (by have := tA.1; omega)]; exact cB
  have rB2 : (hh.set (q1 i) (.cells NA false))[q2 i]? = some (.cells ZB false) := by rw [List.getElem?_set_ne neq]; exact rB'
  have TA2 := TA.put hi2 (g := till (pI t r) (wI t) i (b + 1)) fun k _ hk y _ => till_ne hk
  rw [← hNA] at TA2
  have TA3 := TA2.fr (h' := (hh.set (q1 i) (.cells NA false)).set (q2 i) (.cells NB false)) fun j j1 j2 => by rw [List.getElem?_set_ne (by have := tB.1; omega)]
  have TB2 := TB.fr (h' := hh.set (q1 i) (.cells NA false)) fun j j1 j2 => by rw [List.getElem?_set_ne (by have := tA.1; omega)]
  have TB3 := TB2.put hi2 (g := till (mI t r) (wI t) i (b + 1)) fun k _ hk y _ => till_ne hk
  rw [← hNB] at TB3
  have z3 : ((hh.set (q1 i) (.cells NA false)).set (q2 i) (.cells NB false))[0]? = some (.cells [I 0, I 0] false) := by
    rw [List.getElem?_set_ne (by have := tB.1; omega), List.getElem?_set_ne (by have := tA.1; omega)]; exact z0
  have l31 : (b : Int) < ((31 : Nat) : Int) := by omega
  have fA : b + 1 ≤ ZA.length := by omega
  have fB : b + 1 ≤ ZB.length := by omega
  obtain ⟨W, hW⟩ : ∃ W, W = wI t i b := ⟨_, rfl⟩
  obtain ⟨R', hR⟩ : ∃ R', R' = r i := ⟨_, rfl⟩
  obtain ⟨M, hM⟩ : ∃ M, M = R' * (b : Int) := ⟨_, rfl⟩
  rw [← hW, ← hR, ← hM] at pA pB
  rw [← hW] at hA hB w01
  rw [← hR] at ua mbi
  rw [← hM] at mbi
  simp (disch := first | assumption | omega | (simp only [az]; done)) only [ru, eq_self, if_true, if_false, BEq.rfl, binI, AO.row?, splice, fillL, mmAll, loadV, storeV, zeros, Am.rowAt, Am.part, addOff, Nat.reduceAdd, Nat.reduceMul, Nat.reduceLeDiff, Nat.reduceSub, Nat.reduceLT, Int.reduceEq, Int.reduceLT, Int.reduceLE, Int.reduceGT, Int.reduceGE, Int.reduceAdd, Int.reduceSub, Int.reduceMul, Int.reduceNeg, Int.reduceToNat, reduceCtorEq, reduceIte, lenV_sl H.i, elem_pt H.i, view_sl H.i, scalar_sl H.i, cells_sl H.i, pure_sl H.i, Int.toNat_natCast, lenV_sl U, elem_in U, view_sl U, scalar_sl U, cells_sl U, pure_sl U, Int.toNat_natCast, hlb, decide_true, elemAt_ms, hlt, l31, nn, ul, ub, ua, ← hM, Int.toNat_natCast, Nat.mul_one, Nat.zero_add, cA, phA, rA', hA, fA, pA, cB2, phB, rB2, hB, fB, pB, List.append_assoc]
  exact ih2 (31 - (b + 1)) _ _ _ (by omega) ⟨b + 1, by omega, rfl, by rw [List.length_set, List.length_set]; exact lh, z3, TA3, TB3, rfl, rfl, rfl, rfl, rfl, rfl, rfl, rfl, rfl⟩
end
end Go.Proofs.Yteonklnjchefiaa.S

