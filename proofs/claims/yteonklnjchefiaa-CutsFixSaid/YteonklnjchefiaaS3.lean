/-
The mathematics and the functions, one after another (S3).
-/
import Derived.Test.YteonklnjchefiaaS2
import Derived.Test.YteonklnjchefiaaAmZ

/-
Costs of words and of changes, and of two things together (specification).
-/
namespace Go.Proofs.Yteonklnjchefiaa.S
open Go Go.Am Go.Proofs.Yteonklnjchefiaa.T
set_option maxRecDepth 100000
set_option linter.unusedSimpArgs false
set_option linter.unusedVariables false

def wI (t : List Pt) (i b : Nat) : Int := if awy (t.getD i default).w b > 0 then NV else 0
def aI (t : List Pt) (i b : Nat) : Int := awy (t.getD i default).w b
/-- so much of a table is written: rows below i, and of row i what is below b -/
def till (F G : Nat → Nat → Int) (i b : Nat) : Nat → Nat → Int := fun k y => if k < i ∨ (k = i ∧ y < b) then F k y else G k y
theorem till_next {F G : Nat → Nat → Int} {i k y : Nat} (hy : y < 31) : till F G i 31 k y = till F G (i + 1) 0 k y := by
  unfold till
  by_cases h : k < i ∨ (k = i ∧ y < 31)
  · rw [if_pos h, if_pos (by omega)]
  · rw [if_neg h, if_neg (by omega)]
theorem till_full {F G : Nat → Nat → Int} {n k y : Nat} (hk : k < n) : till F G n 0 k y = F k y := if_pos (.inl hk)
theorem till_zero {F G : Nat → Nat → Int} {k y : Nat} : till F G 0 0 k y = G k y := if_neg (by omega)
theorem TabN.congr {b e : Nat} {h : List AO} {n o : Nat} {q : Nat → Nat} {f g : Nat → Nat → Int} (T : TabN b e h n o q f) (hg : ∀ k, k < n → ∀ y, y < 31 → f k y = g k y) : TabN b e h n o q g :=
  ⟨T.ob, T.oc, fun i hi => ⟨(T.rows i hi).1, (T.rows i hi).2.1, by rw [← rw_congr (hg i hi)]; exact (T.rows i hi).2.2⟩, T.inj⟩

section
variable {t : List Pt} {v : AV}
set_option maxHeartbeats 1000000 in
theorem r80 (H : TbOk t v) (T : TW t) {h : List AO} {lim : Nat} (hl : lim ≤ h.length) : ∃ w h', R E (.fn 80) [v] h lim = some (w, h') ∧ Fr h h' ∧ TabH h.length h'.length h' w t.length (wI t) := by
  have sp := H.n
  obtain ⟨w, h1, hr, f1, T1⟩ := r116 H (h := h) (lim := lim) hl
  refine R_of (fun w h' => Fr h h' ∧ TabH h.length h'.length h' w t.length (wI t)) (es _ _ _ _) e80 ?_
  simp only [f80]
  rcases T1 with ⟨h0, rfl⟩ | ⟨hn, o, q, rfl, T1⟩
  · have z : ¬ (0 : Int) < t.length := by omega
    simp (disch := first | assumption | omega | (simp only [az]; done)) only [ru, eq_self, if_true, if_false, BEq.rfl, binI, AO.row?, splice, fillL, mmAll, loadV, storeV, zeros, Am.rowAt, Am.part, addOff, Nat.reduceAdd, Nat.reduceMul, Nat.reduceLeDiff, Nat.reduceSub, Nat.reduceLT, Int.reduceEq, Int.reduceLT, Int.reduceLE, Int.reduceGT, Int.reduceGE, Int.reduceAdd, Int.reduceSub, Int.reduceMul, Int.reduceNeg, Int.reduceToNat, reduceCtorEq, reduceIte, lenV_sl H.i, elem_pt H.i, view_sl H.i, scalar_sl H.i, cells_sl H.i, pure_sl H.i, Int.toNat_natCast, exOp_call0, hr]
    rw [G_loop]
    simp (disch := first | assumption | omega | (simp only [az]; done)) only [ru, eq_self, if_true, if_false, BEq.rfl, binI, AO.row?, splice, fillL, mmAll, loadV, storeV, zeros, Am.rowAt, Am.part, addOff, Nat.reduceAdd, Nat.reduceMul, Nat.reduceLeDiff, Nat.reduceSub, Nat.reduceLT, Int.reduceEq, Int.reduceLT, Int.reduceLE, Int.reduceGT, Int.reduceGE, Int.reduceAdd, Int.reduceSub, Int.reduceMul, Int.reduceNeg, Int.reduceToNat, reduceCtorEq, reduceIte, lenV_sl H.i, elem_pt H.i, view_sl H.i, scalar_sl H.i, cells_sl H.i, pure_sl H.i, Int.toNat_natCast, z, decide_false]
    exact ⟨f1, .inl ⟨h0, rfl⟩⟩
  simp (disch := first | assumption | omega | (simp only [az]; done)) only [ru, eq_self, if_true, if_false, BEq.rfl, binI, AO.row?, splice, fillL, mmAll, loadV, storeV, zeros, Am.rowAt, Am.part, addOff, Nat.reduceAdd, Nat.reduceMul, Nat.reduceLeDiff, Nat.reduceSub, Nat.reduceLT, Int.reduceEq, Int.reduceLT, Int.reduceLE, Int.reduceGT, Int.reduceGE, Int.reduceAdd, Int.reduceSub, Int.reduceMul, Int.reduceNeg, Int.reduceToNat, reduceCtorEq, reduceIte, lenV_sl H.i, elem_pt H.i, view_sl H.i, scalar_sl H.i, cells_sl H.i, pure_sl H.i, Int.toNat_natCast, exOp_call0, hr]
  refine G_loop_ind (fun m ts hh mk => ∃ i : Nat, i ≤ t.length ∧ m = t.length - i ∧ Fr h hh ∧ hh.length = h1.length ∧ TabN h.length h1.length hh t.length o q (till (wI t) (fun _ _ => 0) i 0) ∧ ts.length = 33 ∧ ts.getD 0 .undef = v ∧ ts.getD 3 .undef = .ms 1 o 0 t.length ∧ ts.getD 4 .undef = I i ∧ mk = []) ?_ _ _ _ _
    ⟨0, Nat.zero_le _, rfl, f1, rfl, T1.congr (fun k _ y _ => by rw [till_zero]), rfl, rfl, rfl, rfl, rfl⟩
  rintro m ts hh mk ih ⟨i, hi, rfl, fr, lh, TT, hl', q0, q3, q4, rfl⟩
  rw [lit_all hl']
  simp only [lit0, litS, Nat.reduceAdd, q0, q3, q4]
  by_cases hlt : (i : Int) < t.length
  case neg =>
    obtain rfl : i = t.length := by omega
    simp (disch := first | assumption | omega | (simp only [az]; done)) only [ru, eq_self, if_true, if_false, BEq.rfl, binI, AO.row?, splice, fillL, mmAll, loadV, storeV, zeros, Am.rowAt, Am.part, addOff, Nat.reduceAdd, Nat.reduceMul, Nat.reduceLeDiff, Nat.reduceSub, Nat.reduceLT, Int.reduceEq, Int.reduceLT, Int.reduceLE, Int.reduceGT, Int.reduceGE, Int.reduceAdd, Int.reduceSub, Int.reduceMul, Int.reduceNeg, Int.reduceToNat, reduceCtorEq, reduceIte, lenV_sl H.i, elem_pt H.i, view_sl H.i, scalar_sl H.i, cells_sl H.i, pure_sl H.i, Int.toNat_natCast, hlt, decide_false]
    exact ⟨fr, .inr ⟨hn, o, q, rfl, by rw [lh]; exact TT.congr fun k hk y _ => till_full hk⟩⟩
  have hi2 : i < t.length := by omega
  simp (disch := first | assumption | omega | (simp only [az]; done)) only [ru, eq_self, if_true, if_false, BEq.rfl, binI, AO.row?, splice, fillL, mmAll, loadV, storeV, zeros, Am.rowAt, Am.part, addOff, Nat.reduceAdd, Nat.reduceMul, Nat.reduceLeDiff, Nat.reduceSub, Nat.reduceLT, Int.reduceEq, Int.reduceLT, Int.reduceLE, Int.reduceGT, Int.reduceGE, Int.reduceAdd, Int.reduceSub, Int.reduceMul, Int.reduceNeg, Int.reduceToNat, reduceCtorEq, reduceIte, lenV_sl H.i, elem_pt H.i, view_sl H.i, scalar_sl H.i, cells_sl H.i, pure_sl H.i, Int.toNat_natCast, hlt, decide_true]
  refine G_loop_ind (fun m ts hh mk => ∃ b : Nat, b ≤ 31 ∧ m = 31 - b ∧ Fr h hh ∧ hh.length = h1.length ∧ TabN h.length h1.length hh t.length o q (till (wI t) (fun _ _ => 0) i b) ∧ ts.length = 33 ∧ ts.getD 0 .undef = v ∧ ts.getD 3 .undef = .ms 1 o 0 t.length ∧ ts.getD 4 .undef = I i ∧ ts.getD 5 .undef = I b ∧ mk = []) ?_ _ _ _ _
    ⟨0, Nat.zero_le _, rfl, fr, lh, TT, rfl, rfl, rfl, rfl, rfl, rfl⟩
  rintro m ts hh mk ih2 ⟨b, hb, rfl, fr, lh, TT, hl', q0, q3, q4, q5, rfl⟩
  rw [lit_all hl']
  simp only [lit0, litS, Nat.reduceAdd, q0, q3, q4, q5]
  by_cases hlb : (b : Int) ≤ 30
  case neg =>
    obtain rfl : b = 31 := by omega
    simp (disch := first | assumption | omega | (simp only [az]; done)) only [ru, eq_self, if_true, if_false, BEq.rfl, binI, AO.row?, splice, fillL, mmAll, loadV, storeV, zeros, Am.rowAt, Am.part, addOff, Nat.reduceAdd, Nat.reduceMul, Nat.reduceLeDiff, Nat.reduceSub, Nat.reduceLT, Int.reduceEq, Int.reduceLT, Int.reduceLE, Int.reduceGT, Int.reduceGE, Int.reduceAdd, Int.reduceSub, Int.reduceMul, Int.reduceNeg, Int.reduceToNat, reduceCtorEq, reduceIte, hlb, decide_false]
    exact ih (t.length - (i + 1)) _ _ _ (by omega) ⟨i + 1, by omega, rfl, fr, lh, TT.congr fun k _ y hy => till_next hy, rfl, rfl, rfl, rfl, rfl⟩
  have hb2 : b < 31 := by omega
  obtain ⟨x, hx⟩ : ∃ x, x = t.getD i default := ⟨_, rfl⟩
  have hw := T.w i hi2
  rw [← hx] at hw
  have g := fun st => s82 x.w.lo x.w.hi b (by omega) (by omega) (by omega) st
  have ea : awy ⟨x.w.lo, x.w.hi⟩ b = awy x.w b := rfl
  simp only [ea] at g
  have same : wI t i b = 0 → ∀ k, k < t.length → ∀ y, y < 31 → till (wI t) (fun _ _ => 0) i b k y = till (wI t) (fun _ _ => 0) i (b + 1) k y := fun e k _ y _ => by
    unfold till
    by_cases e1 : k = i ∧ y = b
    · obtain ⟨rfl, rfl⟩ := e1
      rw [if_neg (by omega), if_pos (by omega), e]
    · by_cases e2 : k < i ∨ (k = i ∧ y < b)
      · rw [if_pos e2, if_pos (by omega)]
      · rw [if_neg e2, if_neg (by omega)]
  by_cases c : awy x.w b > 0
  · have wv : wI t i b = NV := by unfold wI; rw [← hx]; exact if_pos c
    have ti := TT.rows i hi2
    have il := (List.getElem?_eq_some_iff.1 ti.2.2).1
    have hc := TT.oc
    obtain ⟨Z, hZ⟩ : ∃ Z, Z = rw_ 31 (till (wI t) (fun _ _ => 0) i b i) := ⟨_, rfl⟩
    have zp : Z.take b ++ I NV :: Z.drop (b + 1) = rw_ 31 (till (wI t) (fun _ _ => 0) i (b + 1) i) := by
      have : Z.take b ++ [I NV] ++ Z.drop (b + 1) = rw_ 31 (till (wI t) (fun _ _ => 0) i (b + 1) i) := by
        rw [hZ]
        refine rw_put hb2 fun y hy => ?_
        unfold till
        by_cases e : y = b
        · subst e; rw [if_pos rfl, if_pos (by omega), wv]
        · rw [if_neg e]; by_cases e2 : i < i ∨ (i = i ∧ y < b)
          · rw [if_pos e2, if_pos (by omega)]
          · rw [if_neg e2, if_neg (by omega)]
      simpa using this
    have zl : Z.length = 31 := by rw [hZ, rw_len]
    have fit : b + 1 ≤ Z.length := by omega
    have hq := ti.2.2
    rw [← hZ] at hq
    have ph := ptrs_head (q := q) hi2
    obtain ⟨PP, hPP⟩ : ∃ PP, PP = ptrs t.length q := ⟨_, rfl⟩
    rw [← hPP] at hc ph
    have l31 : (b : Int) < ((31 : Nat) : Int) := by omega
    have lq : lim ≤ q i := by have := ti.1; omega
    simp (disch := first | assumption | omega | (simp only [az]; done)) only [ru, eq_self, if_true, if_false, BEq.rfl, binI, AO.row?, splice, fillL, mmAll, loadV, storeV, zeros, Am.rowAt, Am.part, addOff, Nat.reduceAdd, Nat.reduceMul, Nat.reduceLeDiff, Nat.reduceSub, Nat.reduceLT, Int.reduceEq, Int.reduceLT, Int.reduceLE, Int.reduceGT, Int.reduceGE, Int.reduceAdd, Int.reduceSub, Int.reduceMul, Int.reduceNeg, Int.reduceToNat, reduceCtorEq, reduceIte, lenV_sl H.i, elem_pt H.i, view_sl H.i, scalar_sl H.i, cells_sl H.i, pure_sl H.i, Int.toNat_natCast, hlt, hlb, decide_true, ← hx, g, c, elemAt_ms, l31, nn, Int.toNat_natCast, Nat.mul_one, Nat.zero_add, hc, ph, hq, fit, lq, List.append_assoc, zp]
    exact ih2 (31 - (b + 1)) _ _ _ (by omega) ⟨b + 1, by omega, rfl, ⟨by rw [List.length_set]; exact fr.l, fun j hj => by rw [List.getElem?_set_ne (by have := ti.1; omega)]; exact fr.k j hj⟩, by rw [List.length_set]; exact lh,
      TT.put hi2 fun k _ hki y _ => by unfold till; by_cases e2 : k < i ∨ (k = i ∧ y < b + 1); rw [if_pos e2, if_pos (by omega)]; rw [if_neg e2, if_neg (by omega)], rfl, rfl, rfl, rfl, rfl, rfl⟩
  · have wv : wI t i b = 0 := by unfold wI; rw [← hx]; exact if_neg c
    simp (disch := first | assumption | omega | (simp only [az]; done)) only [ru, eq_self, if_true, if_false, BEq.rfl, binI, AO.row?, splice, fillL, mmAll, loadV, storeV, zeros, Am.rowAt, Am.part, addOff, Nat.reduceAdd, Nat.reduceMul, Nat.reduceLeDiff, Nat.reduceSub, Nat.reduceLT, Int.reduceEq, Int.reduceLT, Int.reduceLE, Int.reduceGT, Int.reduceGE, Int.reduceAdd, Int.reduceSub, Int.reduceMul, Int.reduceNeg, Int.reduceToNat, reduceCtorEq, reduceIte, lenV_sl H.i, elem_pt H.i, view_sl H.i, scalar_sl H.i, cells_sl H.i, pure_sl H.i, Int.toNat_natCast, hlt, hlb, decide_true, decide_false, ← hx, g, c]
    exact ih2 (31 - (b + 1)) _ _ _ (by omega) ⟨b + 1, by omega, rfl, fr, lh, TT.congr (same wv), rfl, rfl, rfl, rfl, rfl, rfl⟩
set_option maxHeartbeats 1000000 in
theorem r96 (H : TbOk t v) (T : TW t) {h : List AO} {lim : Nat} (hl : lim ≤ h.length) : ∃ w h', R E (.fn 96) [v] h lim = some (w, h') ∧ Fr h h' ∧ TabH h.length h'.length h' w t.length (aI t) := by
  have sp := H.n
  obtain ⟨w, h1, hr, f1, T1⟩ := r116 H (h := h) (lim := lim) hl
  refine R_of (fun w h' => Fr h h' ∧ TabH h.length h'.length h' w t.length (aI t)) (es _ _ _ _) e96 ?_
  simp only [f96]
  rcases T1 with ⟨h0, rfl⟩ | ⟨hn, o, q, rfl, T1⟩
  · have z : ¬ (0 : Int) < t.length := by omega
    simp (disch := first | assumption | omega | (simp only [az]; done)) only [ru, eq_self, if_true, if_false, BEq.rfl, binI, AO.row?, splice, fillL, mmAll, loadV, storeV, zeros, Am.rowAt, Am.part, addOff, Nat.reduceAdd, Nat.reduceMul, Nat.reduceLeDiff, Nat.reduceSub, Nat.reduceLT, Int.reduceEq, Int.reduceLT, Int.reduceLE, Int.reduceGT, Int.reduceGE, Int.reduceAdd, Int.reduceSub, Int.reduceMul, Int.reduceNeg, Int.reduceToNat, reduceCtorEq, reduceIte, lenV_sl H.i, elem_pt H.i, view_sl H.i, scalar_sl H.i, cells_sl H.i, pure_sl H.i, Int.toNat_natCast, exOp_call0, hr]
    rw [G_loop]
    simp (disch := first | assumption | omega | (simp only [az]; done)) only [ru, eq_self, if_true, if_false, BEq.rfl, binI, AO.row?, splice, fillL, mmAll, loadV, storeV, zeros, Am.rowAt, Am.part, addOff, Nat.reduceAdd, Nat.reduceMul, Nat.reduceLeDiff, Nat.reduceSub, Nat.reduceLT, Int.reduceEq, Int.reduceLT, Int.reduceLE, Int.reduceGT, Int.reduceGE, Int.reduceAdd, Int.reduceSub, Int.reduceMul, Int.reduceNeg, Int.reduceToNat, reduceCtorEq, reduceIte, lenV_sl H.i, elem_pt H.i, view_sl H.i, scalar_sl H.i, cells_sl H.i, pure_sl H.i, Int.toNat_natCast, z, decide_false]
    exact ⟨f1, .inl ⟨h0, rfl⟩⟩
  simp (disch := first | assumption | omega | (simp only [az]; done)) only [ru, eq_self, if_true, if_false, BEq.rfl, binI, AO.row?, splice, fillL, mmAll, loadV, storeV, zeros, Am.rowAt, Am.part, addOff, Nat.reduceAdd, Nat.reduceMul, Nat.reduceLeDiff, Nat.reduceSub, Nat.reduceLT, Int.reduceEq, Int.reduceLT, Int.reduceLE, Int.reduceGT, Int.reduceGE, Int.reduceAdd, Int.reduceSub, Int.reduceMul, Int.reduceNeg, Int.reduceToNat, reduceCtorEq, reduceIte, lenV_sl H.i, elem_pt H.i, view_sl H.i, scalar_sl H.i, cells_sl H.i, pure_sl H.i, Int.toNat_natCast, exOp_call0, hr]
  refine G_loop_ind (fun m ts hh mk => ∃ i : Nat, i ≤ t.length ∧ m = t.length - i ∧ Fr h hh ∧ hh.length = h1.length ∧ TabN h.length h1.length hh t.length o q (till (aI t) (fun _ _ => 0) i 0) ∧ ts.length = 32 ∧ ts.getD 0 .undef = v ∧ ts.getD 3 .undef = .ms 1 o 0 t.length ∧ ts.getD 4 .undef = I i ∧ mk = []) ?_ _ _ _ _
    ⟨0, Nat.zero_le _, rfl, f1, rfl, T1.congr (fun k _ y _ => by rw [till_zero]), rfl, rfl, rfl, rfl, rfl⟩
  rintro m ts hh mk ih ⟨i, hi, rfl, fr, lh, TT, hl', q0, q3, q4, rfl⟩
  rw [lit_all hl']
  simp only [lit0, litS, Nat.reduceAdd, q0, q3, q4]
  by_cases hlt : (i : Int) < t.length
  case neg =>
    obtain rfl : i = t.length := by omega
    simp (disch := first | assumption | omega | (simp only [az]; done)) only [ru, eq_self, if_true, if_false, BEq.rfl, binI, AO.row?, splice, fillL, mmAll, loadV, storeV, zeros, Am.rowAt, Am.part, addOff, Nat.reduceAdd, Nat.reduceMul, Nat.reduceLeDiff, Nat.reduceSub, Nat.reduceLT, Int.reduceEq, Int.reduceLT, Int.reduceLE, Int.reduceGT, Int.reduceGE, Int.reduceAdd, Int.reduceSub, Int.reduceMul, Int.reduceNeg, Int.reduceToNat, reduceCtorEq, reduceIte, lenV_sl H.i, elem_pt H.i, view_sl H.i, scalar_sl H.i, cells_sl H.i, pure_sl H.i, Int.toNat_natCast, hlt, decide_false]
    exact ⟨fr, .inr ⟨hn, o, q, rfl, by rw [lh]; exact TT.congr fun k hk y _ => till_full hk⟩⟩
  have hi2 : i < t.length := by omega
  simp (disch := first | assumption | omega | (simp only [az]; done)) only [ru, eq_self, if_true, if_false, BEq.rfl, binI, AO.row?, splice, fillL, mmAll, loadV, storeV, zeros, Am.rowAt, Am.part, addOff, Nat.reduceAdd, Nat.reduceMul, Nat.reduceLeDiff, Nat.reduceSub, Nat.reduceLT, Int.reduceEq, Int.reduceLT, Int.reduceLE, Int.reduceGT, Int.reduceGE, Int.reduceAdd, Int.reduceSub, Int.reduceMul, Int.reduceNeg, Int.reduceToNat, reduceCtorEq, reduceIte, lenV_sl H.i, elem_pt H.i, view_sl H.i, scalar_sl H.i, cells_sl H.i, pure_sl H.i, Int.toNat_natCast, hlt, decide_true]
  refine G_loop_ind (fun m ts hh mk => ∃ b : Nat, b ≤ 31 ∧ m = 31 - b ∧ Fr h hh ∧ hh.length = h1.length ∧ TabN h.length h1.length hh t.length o q (till (aI t) (fun _ _ => 0) i b) ∧ ts.length = 32 ∧ ts.getD 0 .undef = v ∧ ts.getD 3 .undef = .ms 1 o 0 t.length ∧ ts.getD 4 .undef = I i ∧ ts.getD 5 .undef = I b ∧ mk = []) ?_ _ _ _ _
    ⟨0, Nat.zero_le _, rfl, fr, lh, TT, rfl, rfl, rfl, rfl, rfl, rfl⟩
  rintro m ts hh mk ih2 ⟨b, hb, rfl, fr, lh, TT, hl', q0, q3, q4, q5, rfl⟩
  rw [lit_all hl']
  simp only [lit0, litS, Nat.reduceAdd, q0, q3, q4, q5]
  by_cases hlb : (b : Int) ≤ 30
  case neg =>
    obtain rfl : b = 31 := by omega
    simp (disch := first | assumption | omega | (simp only [az]; done)) only [ru, eq_self, if_true, if_false, BEq.rfl, binI, AO.row?, splice, fillL, mmAll, loadV, storeV, zeros, Am.rowAt, Am.part, addOff, Nat.reduceAdd, Nat.reduceMul, Nat.reduceLeDiff, Nat.reduceSub, Nat.reduceLT, Int.reduceEq, Int.reduceLT, Int.reduceLE, Int.reduceGT, Int.reduceGE, Int.reduceAdd, Int.reduceSub, Int.reduceMul, Int.reduceNeg, Int.reduceToNat, reduceCtorEq, reduceIte, hlb, decide_false]
    exact ih (t.length - (i + 1)) _ _ _ (by omega) ⟨i + 1, by omega, rfl, fr, lh, TT.congr fun k _ y hy => till_next hy, rfl, rfl, rfl, rfl, rfl⟩
  have hb2 : b < 31 := by omega
  obtain ⟨x, hx⟩ : ∃ x, x = t.getD i default := ⟨_, rfl⟩
  have hw := T.w i hi2
  rw [← hx] at hw
  have g := fun st => s82 x.w.lo x.w.hi b (by omega) (by omega) (by omega) st
  have ea : awy ⟨x.w.lo, x.w.hi⟩ b = awy x.w b := rfl
  simp only [ea] at g
  have wv : aI t i b = awy x.w b := by unfold aI; rw [← hx]
  have ti := TT.rows i hi2
  have il := (List.getElem?_eq_some_iff.1 ti.2.2).1
  have hc := TT.oc
  obtain ⟨Z, hZ⟩ : ∃ Z, Z = rw_ 31 (till (aI t) (fun _ _ => 0) i b i) := ⟨_, rfl⟩
  have zp : Z.take b ++ I (awy x.w b) :: Z.drop (b + 1) = rw_ 31 (till (aI t) (fun _ _ => 0) i (b + 1) i) := by
    have : Z.take b ++ [I (awy x.w b)] ++ Z.drop (b + 1) = rw_ 31 (till (aI t) (fun _ _ => 0) i (b + 1) i) := by
      rw [hZ]
      refine rw_put hb2 fun y hy => ?_
      unfold till
      by_cases e : y = b
      · subst e; rw [if_pos rfl, if_pos (by omega), wv]
      · rw [if_neg e]; by_cases e2 : i < i ∨ (i = i ∧ y < b)
        · rw [if_pos e2, if_pos (by omega)]
        · rw [if_neg e2, if_neg (by omega)]
    simpa using this
  have zl : Z.length = 31 := by rw [hZ, rw_len]
  have fit : b + 1 ≤ Z.length := by omega
  have hq := ti.2.2
  rw [← hZ] at hq
  have ph := ptrs_head (q := q) hi2
  obtain ⟨PP, hPP⟩ : ∃ PP, PP = ptrs t.length q := ⟨_, rfl⟩
  rw [← hPP] at hc ph
  have l31 : (b : Int) < ((31 : Nat) : Int) := by omega
  have lq : lim ≤ q i := by have := ti.1; omega
  simp (disch := first | assumption | omega | (simp only [az]; done)) only [ru, eq_self, if_true, if_false, BEq.rfl, binI, AO.row?, splice, fillL, mmAll, loadV, storeV, zeros, Am.rowAt, Am.part, addOff, Nat.reduceAdd, Nat.reduceMul, Nat.reduceLeDiff, Nat.reduceSub, Nat.reduceLT, Int.reduceEq, Int.reduceLT, Int.reduceLE, Int.reduceGT, Int.reduceGE, Int.reduceAdd, Int.reduceSub, Int.reduceMul, Int.reduceNeg, Int.reduceToNat, reduceCtorEq, reduceIte, lenV_sl H.i, elem_pt H.i, view_sl H.i, scalar_sl H.i, cells_sl H.i, pure_sl H.i, Int.toNat_natCast, hlt, hlb, decide_true, ← hx, g, elemAt_ms, l31, nn, Int.toNat_natCast, Nat.mul_one, Nat.zero_add, hc, ph, hq, fit, lq, List.append_assoc, zp]
  exact ih2 (31 - (b + 1)) _ _ _ (by omega) ⟨b + 1, by omega, rfl, ⟨by rw [List.length_set]; exact fr.l, fun j hj => by rw [List.getElem?_set_ne (by have := ti.1; omega)]; exact fr.k j hj⟩, by rw [List.length_set]; exact lh,
    TT.put hi2 fun k _ hki y _ => by unfold till; by_cases e2 : k < i ∨ (k = i ∧ y < b + 1); rw [if_pos e2, if_pos (by omega)]; rw [if_neg e2, if_neg (by omega)], rfl, rfl, rfl, rfl, rfl, rfl⟩
end

/-! two things together -/
def tI (f g : Nat → Int) (y : Nat) : Nat → Int
  | 0 => NV
  | k + 1 => mn (tI f g y k) (f k + g (y - k))
def Bn (f : Nat → Int) : Prop := ∀ x, x < 31 → -4000000000000 ≤ f x ∧ f x ≤ 4000000000000
def tU (f g : Nat → Int) (a b y : Nat) : Int := tI f g y (cnt a b y)
set_option maxHeartbeats 1000000 in
theorem s115 {f g : Nat → Int} {u w : AV} (U : IsSl 1 intL (rng 31 f) u) (W : IsSl 1 intL (rng 31 g) w) (hf : Bn f) (hg : Bn g) (st : Bool) : Iso E 115 [u, w] st = some (slV 1 intL (rng 31 fun y => tI f g y (y + 1))) := by
  have z97 := r97 (h := []) (lim := 0) (Nat.zero_le _)
  simp only [List.length_nil, List.nil_append] at z97
  have fl : ((rng 31 f).length : Int) = 31 := by rw [rng_len]; rfl
  have gl : ((rng 31 g).length : Int) = 31 := by rw [rng_len]; rfl
  have fa : ∀ a, a < 31 → (rng 31 f).getD a 0 = f a := fun a h => rng_at h
  have ga : ∀ a, a < 31 → (rng 31 g).getD a 0 = g a := fun a h => rng_at h
  obtain ⟨L, hL⟩ : ∃ L, L = rng 31 f := ⟨_, rfl⟩
  obtain ⟨M, hM⟩ : ∃ M, M = rng 31 g := ⟨_, rfl⟩
  rw [← hL] at U fl fa
  rw [← hM] at W gl ga
  refine Iso_of (es _ _ _ _) e115 ?_
  simp only [f115]
  simp (disch := first | assumption | omega | (simp only [az]; done)) only [ru, eq_self, if_true, if_false, BEq.rfl, binI, AO.row?, splice, fillL, mmAll, loadV, storeV, zeros, Am.rowAt, Am.part, addOff, Nat.reduceAdd, Nat.reduceMul, Nat.reduceLeDiff, Nat.reduceSub, Nat.reduceLT, Int.reduceEq, Int.reduceLT, Int.reduceLE, Int.reduceGT, Int.reduceGE, Int.reduceAdd, Int.reduceSub, Int.reduceMul, Int.reduceNeg, Int.reduceToNat, reduceCtorEq, reduceIte, exOp_call0, z97]
  refine G_loop_ind (fun m ts hh mk => ∃ a : Nat, a ≤ 31 ∧ m = 31 - a ∧ ts.length = 45 ∧ ts.getD 0 .undef = u ∧ ts.getD 1 .undef = w ∧ ts.getD 5 .undef = .ms 1 0 0 31 ∧ ts.getD 6 .undef = I a ∧ hh = [.cells (rw_ 31 (tU f g a 0)) false] ∧ mk = []) ?_ _ _ _ _
    ⟨0, by omega, rfl, rfl, rfl, rfl, rfl, rfl, by
      have : (rw_ 31 (tU f g 0 0)) = rw_ 31 fun _ => NV := rw_congr fun y _ => by
        have : cnt 0 0 y = 0 := by unfold cnt; rw [if_neg (by omega)]; omega
        unfold tU; rw [this]; rfl
      rw [this], rfl⟩
  rintro m ts hh mk ih ⟨a, ha, rfl, hl', q0, q1, q5, q6, rfl, rfl⟩
  rw [lit_all hl']
  simp only [lit0, litS, Nat.reduceAdd, q0, q1, q5, q6]
  by_cases hlt : (a : Int) < 31
  case neg =>
    obtain rfl : a = 31 := by omega
    have e : rw_ 31 (tU f g 31 0) = rw_ 31 fun y => tI f g y (y + 1) := rw_congr fun y hy => by
      have : cnt 31 0 y = y + 1 := by unfold cnt; rw [if_neg (by omega)]; omega
      unfold tU; rw [this]
    rw [e]
    have vw := RdC.view (enc := intL) (esz := 1) (l := rng 31 fun y => tI f g y (y + 1)) (h := [.cells (rw_ 31 fun y => tI f g y (y + 1)) false]) (w := .ms 1 0 0 31) ⟨0, by rw [rng_len], rfl⟩ intE intIv (st := st) (k := 7)
    simp (disch := first | assumption | omega | (simp only [az]; done)) only [ru, eq_self, if_true, if_false, BEq.rfl, binI, AO.row?, splice, fillL, mmAll, loadV, storeV, zeros, Am.rowAt, Am.part, addOff, Nat.reduceAdd, Nat.reduceMul, Nat.reduceLeDiff, Nat.reduceSub, Nat.reduceLT, Int.reduceEq, Int.reduceLT, Int.reduceLE, Int.reduceGT, Int.reduceGE, Int.reduceAdd, Int.reduceSub, Int.reduceMul, Int.reduceNeg, Int.reduceToNat, reduceCtorEq, reduceIte, lenV_sl U, elem_in U, view_sl U, scalar_sl U, cells_sl U, pure_sl U, Int.toNat_natCast, fl, hlt, decide_false, vw]
  have ha2 : a < 31 := by omega
  simp (disch := first | assumption | omega | (simp only [az]; done)) only [ru, eq_self, if_true, if_false, BEq.rfl, binI, AO.row?, splice, fillL, mmAll, loadV, storeV, zeros, Am.rowAt, Am.part, addOff, Nat.reduceAdd, Nat.reduceMul, Nat.reduceLeDiff, Nat.reduceSub, Nat.reduceLT, Int.reduceEq, Int.reduceLT, Int.reduceLE, Int.reduceGT, Int.reduceGE, Int.reduceAdd, Int.reduceSub, Int.reduceMul, Int.reduceNeg, Int.reduceToNat, reduceCtorEq, reduceIte, lenV_sl U, elem_in U, view_sl U, scalar_sl U, cells_sl U, pure_sl U, Int.toNat_natCast, fl, hlt, decide_true]
  refine G_loop_ind (fun m ts hh mk => ∃ b : Nat, a + b ≤ 31 ∧ m = 31 - b ∧ ts.length = 45 ∧ ts.getD 0 .undef = u ∧ ts.getD 1 .undef = w ∧ ts.getD 5 .undef = .ms 1 0 0 31 ∧ ts.getD 6 .undef = I a ∧ ts.getD 7 .undef = I b ∧ hh = [.cells (rw_ 31 (tU f g a b)) false] ∧ mk = []) ?_ _ _ _ _
    ⟨0, by omega, rfl, rfl, rfl, rfl, rfl, rfl, rfl, rfl, rfl⟩
  rintro m ts hh mk ih2 ⟨b, hb, rfl, hl', q0, q1, q5, q6, q7, rfl, rfl⟩
  rw [lit_all hl']
  simp only [lit0, litS, Nat.reduceAdd, q0, q1, q5, q6, q7]
  have l31 : ((31 : Nat) : Int) = 31 := rfl
  by_cases hlb : (a : Int) + b < 31
  case neg =>
    have hab : a + b = 31 := by omega
    clear ih2
    have e : rw_ 31 (tU f g a b) = rw_ 31 (tU f g (a + 1) 0) := rw_congr fun y hy => by
      have : cnt a b y = cnt (a + 1) 0 y := by unfold cnt; split <;> split <;> omega
      unfold tU; rw [this]
    rw [e]
    simp (disch := first | assumption | omega | (simp only [az]; done)) only [ru, eq_self, if_true, if_false, BEq.rfl, binI, AO.row?, splice, fillL, mmAll, loadV, storeV, zeros, Am.rowAt, Am.part, addOff, Nat.reduceAdd, Nat.reduceMul, Nat.reduceLeDiff, Nat.reduceSub, Nat.reduceLT, Int.reduceEq, Int.reduceLT, Int.reduceLE, Int.reduceGT, Int.reduceGE, Int.reduceAdd, Int.reduceSub, Int.reduceMul, Int.reduceNeg, Int.reduceToNat, reduceCtorEq, reduceIte, l31, hlb, decide_false]
    exact ih (31 - (a + 1)) _ _ _ (by omega) ⟨a + 1, by omega, rfl, rfl, rfl, rfl, rfl, rfl, rfl, rfl⟩
  clear ih
  have hb2 : b < 31 := by omega
  have hab : a + b < 31 := by omega
  obtain ⟨Z, hZ⟩ : ∃ Z, Z = rw_ 31 (tU f g a b) := ⟨_, rfl⟩
  have zh : (Z.drop (a + b)).head? = some (I (tU f g a b (a + b))) := by rw [hZ, rw_head hab]
  have em : tU f g a (b + 1) (a + b) = mn (tU f g a b (a + b)) (f a + g b) := by
    have e1 : cnt a (b + 1) (a + b) = a + 1 := by unfold cnt; rw [if_pos (by omega)]
    have e2 : cnt a b (a + b) = a := by unfold cnt; rw [if_neg (by omega)]; omega
    unfold tU; rw [e1, e2, tI, show a + b - a = b by omega]
  have em2 : mmx false (tU f g a b (a + b)) (f a + g b) = tU f g a (b + 1) (a + b) := by rw [em]; rfl
  have zp : Z.take (a + b) ++ I (tU f g a (b + 1) (a + b)) :: Z.drop (a + b + 1) = rw_ 31 (tU f g a (b + 1)) := by
    have : Z.take (a + b) ++ [I (tU f g a (b + 1) (a + b))] ++ Z.drop (a + b + 1) = rw_ 31 (tU f g a (b + 1)) := by
      rw [hZ]
      refine rw_put hab fun y hy => ?_
      by_cases e : y = a + b
      · subst e; rw [if_pos rfl]
      · rw [if_neg e]
        have : cnt a (b + 1) y = cnt a b y := by unfold cnt; split <;> split <;> omega
        unfold tU; rw [this]
    simpa using this
  have zl : Z.length = 31 := by rw [hZ, rw_len]
  have fit : a + b + 1 ≤ Z.length := by omega
  have i1 : (0 : Int) ≤ (a : Int) + b := by omega
  have i3 : ((a : Int) + b).toNat = a + b := by omega
  have e1 := fa a ha2
  have e2 := ga b hb2
  have hfa := hf a ha2
  have hgb := hg b hb2
  have al : (a : Int) < L.length := by omega
  have bl : (b : Int) < M.length := by omega
  have blt : (b : Int) < 31 := by omega
  rw [← hZ]
  simp (disch := first | assumption | omega | (simp only [az]; done)) only [ru, eq_self, if_true, if_false, BEq.rfl, binI, AO.row?, splice, fillL, mmAll, loadV, storeV, zeros, Am.rowAt, Am.part, addOff, Nat.reduceAdd, Nat.reduceMul, Nat.reduceLeDiff, Nat.reduceSub, Nat.reduceLT, Int.reduceEq, Int.reduceLT, Int.reduceLE, Int.reduceGT, Int.reduceGE, Int.reduceAdd, Int.reduceSub, Int.reduceMul, Int.reduceNeg, Int.reduceToNat, reduceCtorEq, reduceIte, lenV_sl U, elem_in U, view_sl U, scalar_sl U, cells_sl U, pure_sl U, Int.toNat_natCast, lenV_sl W, elem_in W, view_sl W, scalar_sl W, cells_sl W, pure_sl W, Int.toNat_natCast, fl, gl, hlb, l31, hlt, blt, decide_true, elemAt_ms, Int.toNat_natCast, nn, Nat.mul_one, Nat.zero_add, i1, i3, zh, e1, e2, em2, fit, List.append_assoc, zp]
  exact ih2 (31 - (b + 1)) _ _ _ (by omega) ⟨b + 1, by omega, rfl, rfl, rfl, rfl, rfl, rfl, rfl, rfl, rfl⟩
end Go.Proofs.Yteonklnjchefiaa.S

/-
The least cost (specification): part by part, from the last one on.
-/
namespace Go.Proofs.Yteonklnjchefiaa.S
open Go Go.Am Go.Proofs.Yteonklnjchefiaa.T
set_option maxRecDepth 100000
set_option linter.unusedSimpArgs false
set_option linter.unusedVariables false

/-- a number that stands for a cost -/
def Rp (d n : Int) (m : Option Int) : Prop := (∀ v, m = some v → n = v ∧ -d ≤ v ∧ v ≤ d) ∧ (m = none → NV - d ≤ n ∧ n ≤ NV + 3000)
def Rpw (d n : Int) (m : Option Int) : Prop := (∀ v, m = some v → n = v ∧ -d ≤ v ∧ v ≤ d) ∧ (m = none → NV - d ≤ n)
theorem Rp.w {d n : Int} {m : Option Int} (h : Rp d n m) : Rpw d n m := ⟨h.1, fun e => (h.2 e).1⟩
theorem Rp.up {d e n : Int} {m : Option Int} (h : Rp d n m) (he : d ≤ e) : Rp e n m := ⟨fun v hv => by have := h.1 v hv; omega, fun hn => by have := h.2 hn; omega⟩
theorem Rpw.up {d e n : Int} {m : Option Int} (h : Rpw d n m) (he : d ≤ e) : Rpw e n m := ⟨fun v hv => by have := h.1 v hv; omega, fun hn => by have := h.2 hn; omega⟩
theorem Rp.mn {d n s : Int} {m m' : Option Int} (hd : d ≤ 400000000000) (h : Rp d n m) (h' : Rpw d s m') : Rp d (mn n s) (mo m m') := by
  have nv : NV = 1099511627776 := rfl
  cases m with
  | none =>
    have h1 := h.2 rfl
    cases m' with
    | none =>
      have h2 := h'.2 rfl
      refine ⟨(fun v hv => by cases hv), fun _ => ?_⟩
      unfold S.mn; split <;> omega
    | some b =>
      have h2 := h'.1 b rfl
      refine ⟨fun v hv => ?_, (fun e => by cases e)⟩
      cases hv
      unfold S.mn; split <;> omega
  | some a =>
    have h1 := h.1 a rfl
    cases m' with
    | none =>
      have h2 := h'.2 rfl
      refine ⟨fun v hv => ?_, (fun e => by cases e)⟩
      cases hv
      unfold S.mn; split <;> omega
    | some b =>
      have h2 := h'.1 b rfl
      refine ⟨fun v hv => ?_, (fun e => by cases e)⟩
      cases hv
      rw [h1.1, h2.1]
      unfold S.mn; split <;> omega
theorem Rpw.add {d e a b : Int} {m m' : Option Int} (hd : 0 ≤ d ∧ d ≤ 400000000000) (he : 0 ≤ e ∧ e ≤ 400000000000) (h : Rpw d a m) (h' : Rpw e b m') : Rpw (d + e) (a + b) (pl m m') := by
  have nv : NV = 1099511627776 := rfl
  cases m with
  | none =>
    have h1 := h.2 rfl
    refine ⟨(fun v hv => by rw [none_pl] at hv; cases hv), fun _ => ?_⟩
    cases m' with
    | none => have h2 := h'.2 rfl; omega
    | some y => have h2 := h'.1 y rfl; omega
  | some x =>
    have h1 := h.1 x rfl
    cases m' with
    | none =>
      have h2 := h'.2 rfl
      exact ⟨(fun v hv => by rw [pl_none] at hv; cases hv), fun _ => by omega⟩
    | some y =>
      have h2 := h'.1 y rfl
      exact ⟨fun v hv => by simp only [pl, Option.some.injEq] at hv; omega, (fun e => by cases e)⟩
theorem Rp.bn {d n : Int} {m : Option Int} (hd : d ≤ 400000000000) (h : Rp d n m) : -4000000000000 ≤ n ∧ n ≤ 4000000000000 := by
  have nv : NV = 1099511627776 := rfl
  cases m with
  | none => have := h.2 rfl; omega
  | some v => have := h.1 v rfl; omega
theorem Rp.nv {d : Int} (hd : 0 ≤ d) : Rp d NV none := ⟨(fun v hv => by cases hv), fun _ => by omega⟩
theorem tI_rp {f g : Nat → Int} {a b : Int → Option Int} {d e : Int} (hd : 0 ≤ d ∧ d ≤ 120000000000) (he : 0 ≤ e ∧ e ≤ 120000000000) (hf : ∀ x : Nat, x < 31 → Rp d (f x) (a x)) (hg : ∀ x : Nat, x < 31 → Rp e (g x) (b x)) {y : Nat} (hy : y < 31) : ∀ k, k ≤ y + 1 → Rp (d + e) (tI f g y k) (lst (fun x => pl (a x) (b ((y : Int) - x))) k)
  | 0, _ => Rp.nv (by omega)
  | k + 1, hk => by
    have ih := tI_rp hd he hf hg hy k (by omega)
    have e1 : ((y - k : Nat) : Int) = (y : Int) - k := by omega
    have h1 := hg (y - k) (by omega)
    rw [e1] at h1
    exact ih.mn (by omega) ((hf k (by omega)).w.add ⟨hd.1, by omega⟩ ⟨he.1, by omega⟩ h1.w)
def dm (m : Nat) : Int := 9 ^ m * 3000
theorem dm_succ {m : Nat} : dm (m + 1) = 9 * dm m := by unfold dm; rw [Int.pow_succ]; omega
theorem dm_pos : ∀ {m : Nat}, 3000 ≤ dm m
  | 0 => by decide
  | m + 1 => by have := dm_pos (m := m); rw [dm_succ]; omega
theorem dm_mono {m k : Nat} : m ≤ k → dm m ≤ dm k := by
  induction k with
  | zero => intro h; obtain rfl : m = 0 := by omega
            exact Int.le_refl _
  | succ k ih =>
    intro h
    by_cases e : m = k + 1
    · subst e; exact Int.le_refl _
    · have := ih (by omega); have := dm_pos (m := k); rw [dm_succ]; omega
theorem dm_7 : dm 7 = 14348907000 := by decide
theorem dm_le {m : Nat} (h : m ≤ 7) : dm m ≤ 14348907000 := by rw [← dm_7]; exact dm_mono h

def bptr (n i : Nat) (q : Nat → Nat) : List AV := (List.range n).map fun k => if i ≤ k then AV.ms 1 (q k) 0 31 else .nils
theorem bptr_len {n i : Nat} {q : Nat → Nat} : (bptr n i q).length = n := by simp [bptr]
theorem bptr_head {n i k : Nat} {q : Nat → Nat} (hk : k < n) (hi : i ≤ k) : ((bptr n i q).drop k).head? = some (.ms 1 (q k) 0 31) := by
  rw [List.head?_drop]; simp [bptr, hk, hi]
theorem bptr_put {n i r : Nat} {q : Nat → Nat} (hi : i < n) : (bptr n (i + 1) q).take i ++ AV.ms 1 r 0 31 :: (bptr n (i + 1) q).drop (i + 1) = bptr n i fun j => if j = i then r else q j := by
  rw [set_td (by rw [bptr_len]; exact hi)]
  refine List.ext_getElem (by simp [bptr]) fun k h1 h2 => ?_
  simp only [bptr, List.getElem_set, List.getElem_map, List.getElem_range]
  by_cases e : i = k
  · subst e; simp
  · rw [if_neg e]
    by_cases e2 : i + 1 ≤ k
    · rw [if_pos e2, if_pos (by omega), if_neg (by omega)]
    · rw [if_neg e2, if_neg (by omega)]
theorem bptr_full {n : Nat} {q : Nat → Nat} : (List.replicate n [AV.nils]).flatten = bptr n n q := by
  have : ∀ k, (List.replicate k [AV.nils]).flatten = List.replicate k .nils := fun k => by
    induction k with
    | zero => rfl
    | succ k ih => rw [List.replicate_succ, List.flatten_cons, ih]; rfl
  rw [this]
  refine List.ext_getElem (by simp [bptr]) fun k h1 h2 => ?_
  simp only [List.length_replicate] at h1
  simp only [bptr, List.getElem_replicate, List.getElem_map, List.getElem_range]
  rw [if_neg (by omega)]

/-- what is kept of the parts that are done -/
structure Bs (t : List Pt) (c : Nat → Int → Option Int) (h : List AO) (o i : Nat) (q : Nat → Nat) (f : Nat → Nat → Int) : Prop where
  oc : h[o]? = some (.cells (bptr t.length i q) false)
  rows : ∀ k, i ≤ k → k < t.length → q k ≠ o ∧ h[q k]? = some (.cells (rw_ 31 (f k)) false)
  rp : ∀ k, i ≤ k → k < t.length → ∀ y : Nat, y < 31 → Rp (dm (t.length - 1 - k)) (f k y) (bsc t c k y)
/-- pieces, as they are read -/
def RdP (h : List AO) (p : AV) (f : Nat → Int) : Prop := (∃ r, p = .ms 1 r 0 31 ∧ h[r]? = some (.cells (rw_ 31 f) false)) ∨ IsSl 1 intL (rng 31 f) p
theorem RdP.view {h : List AO} {p : AV} {f : Nat → Int} (H : RdP h p f) (k : Nat) : Am.view false h (k + 1) p = some (slV 1 intL (rng 31 f)) := by
  rcases H with ⟨r, rfl, hr⟩ | H
  · have := RdC.view (enc := intL) (esz := 1) (l := rng 31 f) (h := h) (w := .ms 1 r 0 31) ⟨r, by rw [rng_len], hr⟩ intE intIv (st := false) (k := k)
    exact this
  · rcases H with rfl | ⟨rfl, e⟩
    · rw [view_cs]; rfl
    · have := congrArg List.length e; rw [rng_len] at this; simp at this
theorem RdP.el {h : List AO} {p : AV} {f : Nat → Int} (H : RdP h p f) {x : Nat} (hx : x < 31) : ∃ a, elemAt 1 p (I x) = some a ∧ loadV h false 1 a = some (I (f x)) := by
  rcases H with ⟨r, rfl, hr⟩ | H
  · refine ⟨_, elemAt_ms (nn x) (by omega), ?_⟩
    simp only [loadV, Am.rowAt, hr, Option.bind_some, AO.row?, Int.toNat_natCast, Nat.mul_one, Nat.zero_add]
    show Am.part false 1 _ = _
    exact rw_head hx
  · refine ⟨_, elem_in H x (nn x) (by rw [rng_len]; omega), ?_⟩
    rw [Int.toNat_natCast, rng_at hx]; rfl
theorem RdP.fr {h h' : List AO} {p : AV} {f : Nat → Int} (H : RdP h p f) (F : ∀ r, p = .ms 1 r 0 31 → h'[r]? = h[r]?) : RdP h' p f := by
  rcases H with ⟨r, e, hr⟩ | H
  · exact .inl ⟨r, e, (F r e).trans hr⟩
  · exact .inr H

theorem pl_if {a : Option Int} {p : Prop} [Decidable p] {b : Option Int} : pl a (if p then b else none) = if p then pl a b else none := by
  split
  · rfl
  · exact pl_none
/-- the least cost of a part that can be cut, by what is lost -/
theorem bsc_cut {t : List Pt} {c : Nat → Int → Option Int} (T : TG t) {i : Nat} (hi : i < t.length) (hc : canC t i = true) {n : Nat} : bsc t c i n = lst (fun l => if (t.getD i default).s.lo ≤ (l : Int) ∧ (l : Int) ≤ (t.getD i default).s.hi then pl (c i n) (pcE t c i (t.length - 1 - i) ((n : Int) - l)) else none) (n + 1) := by
  have w : wst t i = (t.getD i default).s := by unfold wst; rw [if_pos hc]
  rw [bsc, ins_pc T hi (nn n), pl_comm, pl_lst, w, Int.toNat_natCast]
  refine lst_congr fun l _ => ?_
  rw [pl_if]
theorem bsc_leaf {t : List Pt} {c : Nat → Int → Option Int} {i : Nat} (hi : i < t.length) (hc : canC t i = false) {n : Nat} (hn : n < 31) : bsc t c i n = c i n := by
  rw [bsc, ins_leaf hc (by omega), if_pos (by omega), zero_pl]
theorem lst_none {f : Nat → Option Int} {a : Nat} : ∀ {b : Nat}, a ≤ b → (∀ i, a ≤ i → i < b → f i = none) → lst f b = lst f a
  | b, h, hn => by
    induction b with
    | zero => obtain rfl : a = 0 := by omega
              rfl
    | succ b ih =>
      by_cases e : a = b + 1
      · rw [e]
      · rw [lst, hn b (by omega) (by omega), ih (by omega) (fun i h1 h2 => hn i h1 (by omega))]
        cases lst f a <;> rfl
def RpT (T : Int) (m : Option Int) : Prop := (∀ v, m = some v → T = v) ∧ (m = none → 900000000000 ≤ T) ∧ -10000000000000 ≤ T ∧ T ≤ 10000000000000

section
variable {t : List Pt} {v : AV}
set_option maxHeartbeats 8000000 in
theorem s79 (H : TbOk t v) (T : TG t) {c : Nat → Int → Option Int} {F : Nat → Nat → Int} (hF : ∀ i, i < t.length → ∀ b : Nat, b < 31 → Rp 3000 (F i b) (c i b)) {w : AV} (W : IsSl 1 resE (rowsL t.length F) w) : ∃ x, (∀ st, Iso E 79 [v, w] st = some (I x)) ∧ RpT x (Lst t c) := by
  have sp := H.n
  have n8 := T.n
  have nvv : NV = 1099511627776 := rfl
  have wl : ((rowsL t.length F).length : Int) = t.length := by rw [rowsL_len]
  have we : ∀ i : Nat, i < t.length → elemAt 1 w (I i) = some (.cptr [resL (rng 31 (F i))]) := fun i hi => by
    rw [elem_ll W i (nn i) (by rw [rowsL_len]; omega), Int.toNat_natCast, rowsL_at hi]
  refine (fun x => ?_ : (∃ r h', R E (.fn 79) [v, w] [] 0 = some (r, h') ∧ ∃ x, r = I x ∧ RpT x (Lst t c)) → _) (R_of _ (es _ _ _ _) e79 ?_)
  · obtain ⟨r, h', hr, x, rfl, hx⟩ := x
    exact ⟨x, fun st => by simp only [Iso, hr, view_int], hx⟩
  simp only [f79]
  have mk1 : (0 : Int) ≤ t.length ∧ (t.length : Int) ≤ t.length ∧ ((24 : Nat) : Int) * t.length ≤ 140737488355328 ∧ 1 ≤ 24 := by omega
  have mk2 : (24 : Int) * t.length ≤ 140737488355328 := by omega
  have zz := bptr_full (n := t.length) (q := fun _ => 0)
  simp (disch := first | assumption | omega | (simp only [az]; done)) only [ru, eq_self, if_true, if_false, BEq.rfl, binI, AO.row?, splice, fillL, mmAll, loadV, storeV, zeros, Am.rowAt, Am.part, addOff, Nat.reduceAdd, Nat.reduceMul, Nat.reduceLeDiff, Nat.reduceSub, Nat.reduceLT, Int.reduceEq, Int.reduceLT, Int.reduceLE, Int.reduceGT, Int.reduceGE, Int.reduceAdd, Int.reduceSub, Int.reduceMul, Int.reduceNeg, Int.reduceToNat, reduceCtorEq, reduceIte, lenV_sl H.i, elem_pt H.i, view_sl H.i, scalar_sl H.i, cells_sl H.i, pure_sl H.i, Int.toNat_natCast, exOp_mk, nn, Int.le_refl, mk2, zz]
  refine G_loop_ind (fun m' ts hh mk => ∃ (m : Nat) (x : Int) (q : Nat → Nat) (f : Nat → Nat → Int), m ≤ t.length ∧ m' = t.length - m ∧ Bs t c hh 0 (t.length - m) q f ∧ ((∀ v, smS t c m = some v → x = v ∧ -(m * 14348907000) ≤ v ∧ v ≤ m * 14348907000) ∧ (smS t c m = none → NV - m * 14348907000 ≤ x) ∧ -(m * 14348907000) ≤ x ∧ x ≤ m * 1199511627776) ∧
      ts.length = 150 ∧ ts.getD 0 .undef = v ∧ ts.getD 1 .undef = w ∧ ts.getD 5 .undef = I x ∧ ts.getD 6 .undef = .ms 1 0 0 t.length ∧ ts.getD 7 .undef = I ((t.length : Int) - 1 - m) ∧ mk = []) ?_ _ _ _ _
    ⟨0, 0, fun _ => 0, fun _ _ => 0, Nat.zero_le _, rfl, ⟨by rw [Nat.sub_zero]; rfl, fun k h1 h2 => by omega, fun k h1 h2 => by omega⟩, ⟨fun v hv => by simp only [smS, Option.some.injEq] at hv; omega, (fun e => by simp [smS] at e), by omega, by omega⟩, rfl, rfl, rfl, rfl, rfl, by simp, rfl⟩
  rintro m' ts hh mk ih ⟨m, x, q, f, hm, rfl, B, hx, hl', q0, q1, q5, q6, q7, rfl⟩
  rw [lit_all hl']
  simp only [lit0, litS, Nat.reduceAdd, q0, q1, q5, q6, q7]
  by_cases hlt : (t.length : Int) - 1 - m ≥ 0
  case neg =>
    obtain rfl : m = t.length := by omega
    simp (disch := first | assumption | omega | (simp only [az]; done)) only [ru, eq_self, if_true, if_false, BEq.rfl, binI, AO.row?, splice, fillL, mmAll, loadV, storeV, zeros, Am.rowAt, Am.part, addOff, Nat.reduceAdd, Nat.reduceMul, Nat.reduceLeDiff, Nat.reduceSub, Nat.reduceLT, Int.reduceEq, Int.reduceLT, Int.reduceLE, Int.reduceGT, Int.reduceGE, Int.reduceAdd, Int.reduceSub, Int.reduceMul, Int.reduceNeg, Int.reduceToNat, reduceCtorEq, reduceIte, hlt, decide_false]
    refine ⟨x, rfl, fun v hv => (hx.1 v hv).1, fun e => ?_, ?_, ?_⟩
    · have := hx.2.1 e; omega
    · have := hx.2.2.1; omega
    · have := hx.2.2.2; omega
  obtain ⟨i, hi⟩ : ∃ i, i = t.length - (m + 1) := ⟨_, rfl⟩
  have e7 : (t.length : Int) - 1 - m = (i : Nat) := by omega
  have hit : i < t.length := by omega
  have hmi : t.length - m = i + 1 := by omega
  have hN : t.length - 1 - i = m := by omega
  rw [hmi] at B
  rw [e7] at hlt ⊢
  have z1 := r97 (h := hh) (lim := 0) (Nat.zero_le _)
  have ol := (List.getElem?_eq_some_iff.1 B.oc).1
  -- pieces of nothing
  obtain ⟨Z, hZ⟩ : ∃ Z, Z = rw_ 31 fun _ => NV := ⟨_, rfl⟩
  have zp : Z.take 0 ++ I 0 :: Z.drop (0 + 1) = rw_ 31 fun y => if y = 0 then 0 else NV := by
    have : Z.take 0 ++ [I 0] ++ Z.drop (0 + 1) = rw_ 31 fun y => if y = 0 then 0 else NV := by
      rw [hZ]; exact rw_put (by omega) fun y hy => by by_cases e : y = 0 <;> simp [e]
    simpa using this
  have zl : Z.length = 31 := by rw [hZ, rw_len]
  have zfit : 1 ≤ Z.length := by omega
  have zs : (I 0 :: Z.drop 1) = rw_ 31 fun y => if y = 0 then 0 else NV := by simpa using zp
  have z31 : (0 : Int) < ((31 : Nat) : Int) := by decide
  have z00 : (0 : Int).toNat * 1 = 0 := rfl
  rw [← hZ] at z1
  simp (disch := first | assumption | omega | (simp only [az]; done)) only [ru, eq_self, if_true, if_false, BEq.rfl, binI, AO.row?, splice, fillL, mmAll, loadV, storeV, zeros, Am.rowAt, Am.part, addOff, Nat.reduceAdd, Nat.reduceMul, Nat.reduceLeDiff, Nat.reduceSub, Nat.reduceLT, Int.reduceEq, Int.reduceLT, Int.reduceLE, Int.reduceGT, Int.reduceGE, Int.reduceAdd, Int.reduceSub, Int.reduceMul, Int.reduceNeg, Int.reduceToNat, reduceCtorEq, reduceIte, hlt, decide_true, exOp_call0, z1, elemAt_ms, z31, z00, Nat.zero_add, List.append_assoc, lenE, setT, setT0, atT, atT0, zfit, zs, Int.le_refl, Int.toNat_zero, Nat.zero_mul]
  obtain ⟨h1, hh1⟩ : ∃ h1, h1 = hh ++ [.cells (rw_ 31 fun y => if y = 0 then 0 else NV) false] := ⟨_, rfl⟩
  rw [← hh1]
  have l1 : h1.length = hh.length + 1 := by rw [hh1]; simp
  have f1 : Fr hh h1 := by rw [hh1]; exact Fr.app _ _
  have c1 : h1[hh.length]? = some (.cells (rw_ 31 fun y => if y = 0 then 0 else NV) false) := by rw [hh1]; exact atE
  have B1 : Bs t c h1 0 (i + 1) q f := ⟨f1.at B.oc, fun k a b => ⟨(B.rows k a b).1, f1.at (B.rows k a b).2⟩, B.rp⟩
  have bq : ∀ k, i + 1 ≤ k → k < t.length → q k < hh.length := fun k a b => (List.getElem?_eq_some_iff.1 (B.rows k a b).2).1
  have rpi : ∀ k, i + 1 ≤ k → k < t.length → ∀ y : Nat, y < 31 → Rp (dm (m - 1)) (f k y) (bsc t c k y) := fun k a b y hy => (B.rp k a b y hy).up (dm_mono (by omega))
  have d1 := dm_le (m := m - 1) (by omega)
  have d2 := dm_pos (m := m - 1)
  refine G_loop_ind (fun m' ts hk mk => ∃ (j : Nat) (p : AV) (g : Nat → Int), j ≤ m ∧ m' = m - j ∧ hk = h1 ∧ RdP h1 p g ∧ (∀ r, p = .ms 1 r 0 31 → r = hh.length) ∧ (∀ y : Nat, y < 31 → Rp (j * dm (m - 1)) (g y) (pcE t c i j y)) ∧
      ts.length = 150 ∧ ts.getD 0 .undef = v ∧ ts.getD 1 .undef = w ∧ ts.getD 5 .undef = I x ∧ ts.getD 6 .undef = .ms 1 0 0 t.length ∧ ts.getD 7 .undef = I i ∧ ts.getD 8 .undef = p ∧ ts.getD 9 .undef = I ((i : Int) + 1 + j) ∧ mk = []) ?_ _ _ _ _
    ⟨0, .ms 1 hh.length 0 31, fun y => if y = 0 then 0 else NV, Nat.zero_le _, rfl, rfl, .inl ⟨_, rfl, c1⟩, (fun r e => by cases e; rfl), fun y hy => by
      simp only [pcE]
      by_cases e : y = 0
      · subst e; simp only [if_true]; exact ⟨fun v hv => by simp at hv; omega, (fun e => by simp at e)⟩
      · rw [if_neg e, if_neg (by omega)]; exact Rp.nv (by simp), rfl, rfl, rfl, rfl, rfl, rfl, rfl, by simp, rfl⟩
  rintro m' ts hk mk ihk ⟨j, p, g, hj, rfl, rfl, rdp, hpr, hg, hl', q0, q1, q5, q6, q7, q8, q9, rfl⟩
  rw [lit_all hl']
  simp only [lit0, litS, Nat.reduceAdd, q0, q1, q5, q6, q7, q8, q9]
  have jd : (j : Int) * dm (m - 1) ≤ 8 * dm (m - 1) := Int.mul_le_mul_of_nonneg_right (by omega) (by omega)
  have jd0 : 0 ≤ (j : Int) * dm (m - 1) := Int.mul_nonneg (by omega) (by omega)
  by_cases hjl : (i : Int) + 1 + j < t.length
  case pos =>
    obtain ⟨k, hkk⟩ : ∃ k, k = i + 1 + j := ⟨_, rfl⟩
    have e9 : (i : Int) + 1 + j = (k : Nat) := by omega
    have hkt : k < t.length := by omega
    rw [e9] at hjl ⊢
    obtain ⟨y, hy⟩ : ∃ y, y = t.getD k default := ⟨_, rfl⟩
    have sj : (j : Int) * dm (m - 1) + dm (m - 1) = ((j + 1 : Nat) : Int) * dm (m - 1) := by rw [show ((j + 1 : Nat) : Int) = (j : Int) + 1 by omega, Int.add_mul, Int.one_mul]
    have k1 : (k : Int) + 1 = (i : Int) + 1 + ((j + 1 : Nat) : Int) := by omega
    by_cases cc : y.of = i
    · have rk := B1.rows k (by omega) hkt
      have bh := bptr_head (q := q) hkt (show i + 1 ≤ k by omega)
      have oc := B1.oc
      obtain ⟨PB, hPB⟩ : ∃ PB, PB = bptr t.length (i + 1) q := ⟨_, rfl⟩
      rw [← hPB] at bh oc
      have rdk : RdP hk (.ms 1 (q k) 0 31) (f k) := .inl ⟨_, rfl, rk.2⟩
      have v1 := fun n => rdp.view n
      have v2 := fun n => rdk.view n
      have a115 := fun st => s115 (slV_is (esz := 1) (enc := intL) (l := rng 31 g)) (slV_is (esz := 1) (enc := intL) (l := rng 31 (f k))) (fun y hy => (hg y hy).bn (by omega)) (fun y hy => (rpi k (by omega) hkt y hy).bn (by omega)) st
      have v1' := v1 7
      have v2' := v2 7
      obtain ⟨A1, hA1⟩ : ∃ A, A = slV 1 intL (rng 31 g) := ⟨_, rfl⟩
      obtain ⟨A2, hA2⟩ : ∃ A, A = slV 1 intL (rng 31 (f k)) := ⟨_, rfl⟩
      obtain ⟨A3, hA3⟩ : ∃ A, A = slV 1 intL (rng 31 fun y => tI g (f k) y (y + 1)) := ⟨_, rfl⟩
      rw [← hA1] at v1' a115
      rw [← hA2] at v2' a115
      rw [← hA3] at a115
      simp (disch := first | assumption | omega | (simp only [az]; done)) only [ru, eq_self, if_true, if_false, BEq.rfl, binI, AO.row?, splice, fillL, mmAll, loadV, storeV, zeros, Am.rowAt, Am.part, addOff, Nat.reduceAdd, Nat.reduceMul, Nat.reduceLeDiff, Nat.reduceSub, Nat.reduceLT, Int.reduceEq, Int.reduceLT, Int.reduceLE, Int.reduceGT, Int.reduceGE, Int.reduceAdd, Int.reduceSub, Int.reduceMul, Int.reduceNeg, Int.reduceToNat, reduceCtorEq, reduceIte, lenV_sl H.i, elem_pt H.i, view_sl H.i, scalar_sl H.i, cells_sl H.i, pure_sl H.i, Int.toNat_natCast, hjl, decide_true, ← hy, cc, elemAt_ms, nn, Int.toNat_natCast, Nat.mul_one, Nat.zero_add, oc, bh, v1', v2', a115]
      refine ihk (m - (j + 1)) _ _ _ (by omega) ⟨j + 1, A3, fun y => tI g (f k) y (y + 1), by omega, rfl, rfl, .inr (by rw [hA3]; exact slV_is), (fun r e => by rw [hA3] at e; cases e), fun y0 hy0 => ?_, rfl, rfl, rfl, rfl, rfl, rfl, rfl, by rw [← k1]; rfl, rfl⟩
      have e2 : pcE t c i (j + 1) y0 = lst (fun x => pl (pcE t c i j x) (bsc t c k ((y0 : Int) - x))) (y0 + 1) := by
        simp only [pcE, ← hkk, ← hy, cc, if_true, Int.toNat_natCast]
      rw [e2, ← sj]
      exact tI_rp (a := pcE t c i j) (b := bsc t c k) ⟨jd0, by omega⟩ ⟨by omega, by omega⟩ hg (rpi k (by omega) hkt) hy0 (y0 + 1) (Nat.le_refl _)
    · simp (disch := first | assumption | omega | (simp only [az]; done)) only [ru, eq_self, if_true, if_false, BEq.rfl, binI, AO.row?, splice, fillL, mmAll, loadV, storeV, zeros, Am.rowAt, Am.part, addOff, Nat.reduceAdd, Nat.reduceMul, Nat.reduceLeDiff, Nat.reduceSub, Nat.reduceLT, Int.reduceEq, Int.reduceLT, Int.reduceLE, Int.reduceGT, Int.reduceGE, Int.reduceAdd, Int.reduceSub, Int.reduceMul, Int.reduceNeg, Int.reduceToNat, reduceCtorEq, reduceIte, lenV_sl H.i, elem_pt H.i, view_sl H.i, scalar_sl H.i, cells_sl H.i, pure_sl H.i, Int.toNat_natCast, hjl, decide_true, decide_false, ← hy, cc, nn, Int.toNat_natCast]
      refine ihk (m - (j + 1)) _ _ _ (by omega) ⟨j + 1, p, g, by omega, rfl, rfl, rdp, hpr, fun y0 hy0 => ?_, rfl, rfl, rfl, rfl, rfl, rfl, rfl, by rw [← k1]; rfl, rfl⟩
      have e2 : pcE t c i (j + 1) y0 = pcE t c i j y0 := by
        simp only [pcE, ← hkk, ← hy]; rw [if_neg cc]
      rw [e2, ← sj]
      exact (hg y0 hy0).up (by omega)
  clear ihk
  obtain rfl : j = m := by omega
  -- a row for this part
  have z2 := r97 (h := hk) (lim := 0) (Nat.zero_le _)
  rw [← hZ] at z2
  have bp := bptr_put (q := q) (r := hk.length) hit
  have bpl := bptr_len (n := t.length) (i := i + 1) (q := q)
  have oc := B1.oc
  obtain ⟨PB, hPB⟩ : ∃ PB, PB = bptr t.length (i + 1) q := ⟨_, rfl⟩
  rw [← hPB] at bp bpl oc
  have fitb : i + 1 ≤ PB.length := by omega
  have oc2 : (hk ++ [AO.cells Z false])[0]? = some (.cells PB false) := (Fr.app _ _).at oc
  have ilt : (i : Int) < t.length := by omega
  simp (disch := first | assumption | omega | (simp only [az]; done)) only [ru, eq_self, if_true, if_false, BEq.rfl, binI, AO.row?, splice, fillL, mmAll, loadV, storeV, zeros, Am.rowAt, Am.part, addOff, Nat.reduceAdd, Nat.reduceMul, Nat.reduceLeDiff, Nat.reduceSub, Nat.reduceLT, Int.reduceEq, Int.reduceLT, Int.reduceLE, Int.reduceGT, Int.reduceGE, Int.reduceAdd, Int.reduceSub, Int.reduceMul, Int.reduceNeg, Int.reduceToNat, reduceCtorEq, reduceIte, lenV_sl H.i, elem_pt H.i, view_sl H.i, scalar_sl H.i, cells_sl H.i, pure_sl H.i, Int.toNat_natCast, hjl, decide_false, exOp_call0, z2, elemAt_ms, ilt, nn, Int.toNat_natCast, Nat.mul_one, Nat.zero_add, oc2, fitb, List.append_assoc, bp]
  obtain ⟨h2, hh2⟩ : ∃ h2, h2 = (hk ++ [AO.cells Z false]).set 0 (AO.cells (bptr t.length i fun j => if j = i then hk.length else q j) false) := ⟨_, rfl⟩
  rw [← hh2]
  have l2 : h2.length = hk.length + 1 := by rw [hh2]; simp
  have o2 : h2[0]? = some (.cells (bptr t.length i fun j => if j = i then hk.length else q j) false) := by rw [hh2, List.getElem?_set_self (by simp)]
  have r2 : h2[hk.length]? = some (.cells Z false) := by rw [hh2, List.getElem?_set_ne (by omega)]; exact atE
  have n2 : ∀ a, a ≠ 0 → a < hk.length → h2[a]? = hk[a]? := fun a b d => by rw [hh2, List.getElem?_set_ne (by omega), at_ap d]
  have dms : 9 * dm (j - 1) ≤ dm j ∨ j = 0 := by
    by_cases e : j = 0
    · exact .inr e
    · left; have := dm_succ (m := j - 1); rw [show j - 1 + 1 = j by omega] at this; omega
  have dj := dm_le (m := j) (by omega)
  have dp := dm_pos (m := j)
  have pj : (j : Int) * dm (j - 1) + 3000 ≤ dm j := by
    rcases dms with h | h
    · omega
    · subst h; simp; exact dm_pos
  refine G_loop_ind (fun m' ts hq mk => ∃ (n : Nat) (fi : Nat → Int), n ≤ 31 ∧ m' = 31 - n ∧ hq.length = h2.length ∧ (∀ a, a ≠ hk.length → hq[a]? = h2[a]?) ∧ hq[hk.length]? = some (.cells (rw_ 31 fi) false) ∧ (∀ y : Nat, y < n → Rp (dm j) (fi y) (bsc t c i y)) ∧ (∀ y, n ≤ y → y < 31 → fi y = NV) ∧
      ts.length = 150 ∧ ts.getD 0 .undef = v ∧ ts.getD 1 .undef = w ∧ ts.getD 5 .undef = I x ∧ ts.getD 6 .undef = .ms 1 0 0 t.length ∧ ts.getD 7 .undef = I i ∧ ts.getD 8 .undef = p ∧ ts.getD 10 .undef = I n ∧ mk = []) ?_ _ _ _ _
    ⟨0, fun _ => NV, by omega, rfl, rfl, fun _ _ => rfl, by rw [r2, hZ], fun y h => by omega, fun _ _ _ => rfl, rfl, rfl, rfl, rfl, rfl, rfl, rfl, rfl, rfl⟩
  rintro m' ts hq mk ihn ⟨n, fi, hn, rfl, lq, hne, hr, hfi, hnv, hl', q0, q1, q5, q6, q7, q8, q10, rfl⟩
  rw [lit_all hl']
  simp only [lit0, litS, Nat.reduceAdd, q0, q1, q5, q6, q7, q8, q10]
  have oq : hq[0]? = some (.cells (bptr t.length i fun j => if j = i then hk.length else q j) false) := (hne 0 (by omega)).trans o2
  obtain ⟨PC, hPC⟩ : ∃ PC, PC = bptr t.length i fun j => if j = i then hk.length else q j := ⟨_, rfl⟩
  have pch : (PC.drop i).head? = some (.ms 1 hk.length 0 31) := by
    rw [hPC, bptr_head hit (Nat.le_refl _), if_pos rfl]
  rw [← hPC] at oq
  by_cases hnl : (n : Int) ≤ 30
  case pos =>
    have hn31 : n < 31 := by omega
    have nlt : (n : Int) < ((31 : Nat) : Int) := by omega
    have ei := we i hit
    obtain ⟨ci, hci⟩ : ∃ ci, ci = resL (rng 31 (F i)) := ⟨_, rfl⟩
    have CI : IsSl 1 intL (rng 31 (F i)) ci := by rw [hci]; exact resL_is _
    have eci : elemAt 1 ci (I n) = some (.cptr [I (F i n)]) := by
      rw [elem_in CI n (nn n) (by rw [rng_len]; omega), Int.toNat_natCast, rng_at hn31]
    rw [← hci] at ei
    have Fi := hF i hit n hn31
    have Fb := Fi.bn (by omega)
    obtain ⟨y, hy⟩ : ∃ y, y = t.getD i default := ⟨_, rfl⟩
    have ys := T.s i hit
    rw [← hy] at ys
    -- at the end of the weight
    have nxt : ∀ (fj : Nat → Int) (hq' : List AO) (ts' : List AV), hq'.length = h2.length → (∀ a, a ≠ hk.length → hq'[a]? = h2[a]?) → hq'[hk.length]? = some (.cells (rw_ 31 fj) false) → (∀ y : Nat, y < 31 → y ≠ n → fj y = fi y) → Rp (dm j) (fj n) (bsc t c i n) → True := fun _ _ _ _ _ _ _ _ => trivial
    clear nxt
    cases hcc : canC t i
    · obtain ⟨Q, hQ⟩ : ∃ Q, Q = rw_ 31 fi := ⟨_, rfl⟩
      have Ql : Q.length = 31 := by rw [hQ, rw_len]
      have fitq : n + 1 ≤ Q.length := by omega
      have qp : Q.take n ++ I (F i n) :: Q.drop (n + 1) = rw_ 31 fun y => if y = n then F i n else fi y := by
        have : Q.take n ++ [I (F i n)] ++ Q.drop (n + 1) = rw_ 31 fun y => if y = n then F i n else fi y := by rw [hQ]; exact rw_put hn31 fun y _ => rfl
        simpa using this
      rw [← hQ] at hr
      have rl := (List.getElem?_eq_some_iff.1 hr).1
      simp (disch := first | assumption | omega | (simp only [az]; done)) only [ru, eq_self, if_true, if_false, BEq.rfl, binI, AO.row?, splice, fillL, mmAll, loadV, storeV, zeros, Am.rowAt, Am.part, addOff, Nat.reduceAdd, Nat.reduceMul, Nat.reduceLeDiff, Nat.reduceSub, Nat.reduceLT, Int.reduceEq, Int.reduceLT, Int.reduceLE, Int.reduceGT, Int.reduceGE, Int.reduceAdd, Int.reduceSub, Int.reduceMul, Int.reduceNeg, Int.reduceToNat, reduceCtorEq, reduceIte, lenV_sl H.i, elem_pt H.i, view_sl H.i, scalar_sl H.i, cells_sl H.i, pure_sl H.i, Int.toNat_natCast, hnl, decide_true, s24 H, hcc, Bool.not_false, elemAt_ms, ilt, nlt, nn, Int.toNat_natCast, Nat.mul_one, Nat.zero_add, oq, pch, ei, eci, hr, fitq, List.append_assoc, qp, ← hy]
      rw [G_loop]
      simp (disch := first | assumption | omega | (simp only [az]; done)) only [ru, eq_self, if_true, if_false, BEq.rfl, binI, AO.row?, splice, fillL, mmAll, loadV, storeV, zeros, Am.rowAt, Am.part, addOff, Nat.reduceAdd, Nat.reduceMul, Nat.reduceLeDiff, Nat.reduceSub, Nat.reduceLT, Int.reduceEq, Int.reduceLT, Int.reduceLE, Int.reduceGT, Int.reduceGE, Int.reduceAdd, Int.reduceSub, Int.reduceMul, Int.reduceNeg, Int.reduceToNat, reduceCtorEq, reduceIte, lenV_sl H.i, elem_pt H.i, view_sl H.i, scalar_sl H.i, cells_sl H.i, pure_sl H.i, Int.toNat_natCast, s24 H, hcc, gUn]
      refine ihn (31 - (n + 1)) _ _ _ (by omega) ⟨n + 1, fun y => if y = n then F i n else fi y, by omega, rfl, by rw [List.length_set]; exact lq, fun a ha => by rw [List.getElem?_set_ne (by omega)]; exact hne a ha, by rw [List.getElem?_set_self rl], fun y0 hy0 => ?_, fun y0 h1 h2 => (if_neg (by omega)).trans (hnv y0 (by omega) h2), rfl, rfl, rfl, rfl, rfl, rfl, rfl, rfl, rfl⟩
      show Rp (dm j) (if y0 = n then F i n else fi y0) (bsc t c i y0)
      by_cases e : y0 = n
      · rw [if_pos e, e, bsc_leaf hit hcc hn31]; exact Fi.up dp
      · rw [if_neg e]; exact hfi y0 (by omega)
    · simp (disch := first | assumption | omega | (simp only [az]; done)) only [ru, eq_self, if_true, if_false, BEq.rfl, binI, AO.row?, splice, fillL, mmAll, loadV, storeV, zeros, Am.rowAt, Am.part, addOff, Nat.reduceAdd, Nat.reduceMul, Nat.reduceLeDiff, Nat.reduceSub, Nat.reduceLT, Int.reduceEq, Int.reduceLT, Int.reduceLE, Int.reduceGT, Int.reduceGE, Int.reduceAdd, Int.reduceSub, Int.reduceMul, Int.reduceNeg, Int.reduceToNat, reduceCtorEq, reduceIte, lenV_sl H.i, elem_pt H.i, view_sl H.i, scalar_sl H.i, cells_sl H.i, pure_sl H.i, Int.toNat_natCast, hnl, decide_true, s24 H, hcc, Bool.not_true, ilt, nn, Int.toNat_natCast, ← hy]
      have bc := bsc_cut (c := c) T hit hcc (n := n)
      rw [hN, ← hy] at bc
      obtain ⟨a0, ha0⟩ : ∃ a0 : Nat, y.s.lo = a0 := ⟨y.s.lo.toNat, by omega⟩
      rw [ha0]
      refine G_loop_ind (fun m' ts hq mk => ∃ (l : Nat) (fj : Nat → Int), a0 ≤ l ∧ l ≤ 40 ∧ m' = 40 - l ∧ hq.length = h2.length ∧ (∀ a, a ≠ hk.length → hq[a]? = h2[a]?) ∧ hq[hk.length]? = some (.cells (rw_ 31 fj) false) ∧ (∀ y, y ≠ n → fj y = fi y) ∧
          Rp (dm j) (fj n) (lst (fun l => if y.s.lo ≤ (l : Int) ∧ (l : Int) ≤ y.s.hi then pl (c i n) (pcE t c i j ((n : Int) - l)) else none) (min l (n + 1))) ∧
          ts.length = 150 ∧ ts.getD 0 .undef = v ∧ ts.getD 1 .undef = w ∧ ts.getD 5 .undef = I x ∧ ts.getD 6 .undef = .ms 1 0 0 t.length ∧ ts.getD 7 .undef = I i ∧ ts.getD 8 .undef = p ∧ ts.getD 10 .undef = I n ∧ ts.getD 11 .undef = I l ∧ mk = []) ?_ _ _ _ _
        ⟨a0, fi, Nat.le_refl _, by omega, rfl, lq, hne, hr, fun _ _ => rfl, by
          rw [hnv n (Nat.le_refl _) hn31, lst_none (a := 0) (Nat.zero_le _) (fun l _ h => if_neg (by omega))]
          exact Rp.nv (by omega), rfl, rfl, rfl, rfl, rfl, rfl, rfl, rfl, rfl, rfl⟩
      rintro m' ts hp mk ihl ⟨l, fj, hal, hl40, rfl, lp, hnp, hrp, hfj, hrpl, hl', q0, q1, q5, q6, q7, q8, q10, q11, rfl⟩
      rw [lit_all hl']
      simp only [lit0, litS, Nat.reduceAdd, q0, q1, q5, q6, q7, q8, q10, q11]
      have done : (min l (n + 1) = n + 1 ∨ y.s.hi < l) → Rp (dm j) (fj n) (bsc t c i n) := fun h => by
        rw [bc]
        rcases h with h | h
        · rw [h] at hrpl; exact hrpl
        · rw [lst_none (a := min l (n + 1)) (by omega) (fun k h1 h2 => if_neg (by omega))]; exact hrpl
      have fin : Rp (dm j) (fj n) (bsc t c i n) → ∀ y : Nat, y < n + 1 → Rp (dm j) (fj y) (bsc t c i y) := fun h y0 hy0 => by
        by_cases e : y0 = n
        · subst e; exact h
        · rw [hfj y0 e]; exact hfi y0 (by omega)
      by_cases g1 : (l : Int) ≤ y.s.hi
      case neg =>
        simp (disch := first | assumption | omega | (simp only [az]; done)) only [ru, eq_self, if_true, if_false, BEq.rfl, binI, AO.row?, splice, fillL, mmAll, loadV, storeV, zeros, Am.rowAt, Am.part, addOff, Nat.reduceAdd, Nat.reduceMul, Nat.reduceLeDiff, Nat.reduceSub, Nat.reduceLT, Int.reduceEq, Int.reduceLT, Int.reduceLE, Int.reduceGT, Int.reduceGE, Int.reduceAdd, Int.reduceSub, Int.reduceMul, Int.reduceNeg, Int.reduceToNat, reduceCtorEq, reduceIte, lenV_sl H.i, elem_pt H.i, view_sl H.i, scalar_sl H.i, cells_sl H.i, pure_sl H.i, Int.toNat_natCast, ilt, nn, Int.toNat_natCast, ← hy, s24 H, hcc, g1, gUn, decide_false]
        exact ihn (31 - (n + 1)) _ _ _ (by omega) ⟨n + 1, fj, by omega, rfl, lp, hnp, hrp, fin (done (.inr (by omega))), fun y0 h1 h2 => by rw [hfj y0 (by omega)]; exact hnv y0 (by omega) h2, rfl, rfl, rfl, rfl, rfl, rfl, rfl, rfl, rfl⟩
      by_cases g2 : (l : Int) ≤ n
      case neg =>
        simp (disch := first | assumption | omega | (simp only [az]; done)) only [ru, eq_self, if_true, if_false, BEq.rfl, binI, AO.row?, splice, fillL, mmAll, loadV, storeV, zeros, Am.rowAt, Am.part, addOff, Nat.reduceAdd, Nat.reduceMul, Nat.reduceLeDiff, Nat.reduceSub, Nat.reduceLT, Int.reduceEq, Int.reduceLT, Int.reduceLE, Int.reduceGT, Int.reduceGE, Int.reduceAdd, Int.reduceSub, Int.reduceMul, Int.reduceNeg, Int.reduceToNat, reduceCtorEq, reduceIte, lenV_sl H.i, elem_pt H.i, view_sl H.i, scalar_sl H.i, cells_sl H.i, pure_sl H.i, Int.toNat_natCast, ilt, nn, Int.toNat_natCast, ← hy, s24 H, hcc, g1, g2, gUn, decide_true, decide_false]
        exact ihn (31 - (n + 1)) _ _ _ (by omega) ⟨n + 1, fj, by omega, rfl, lp, hnp, hrp, fin (done (.inl (by omega))), fun y0 h1 h2 => by rw [hfj y0 (by omega)]; exact hnv y0 (by omega) h2, rfl, rfl, rfl, rfl, rfl, rfl, rfl, rfl, rfl⟩
      clear ihn
      have ml : min l (n + 1) = l := by omega
      have ml2 : min (l + 1) (n + 1) = l + 1 := by omega
      rw [ml] at hrpl
      have op : hp[0]? = some (.cells PC false) := by rw [hnp 0 (by omega), o2, hPC]
      have rdp2 : RdP hp p g := rdp.fr fun r e => by have := hpr r e; rw [hnp r (by omega), n2 r (by omega) (by omega)]
      have nl : (n : Int) - l = ((n - l : Nat) : Int) := by omega
      have gr := hg (n - l) (by omega)
      have gb := gr.bn (by omega)
      rw [← nl] at gr
      obtain ⟨Q, hQ⟩ : ∃ Q, Q = rw_ 31 fj := ⟨_, rfl⟩
      have Ql : Q.length = 31 := by rw [hQ, rw_len]
      have fitq : n + 1 ≤ Q.length := by omega
      have qh : (Q.drop n).head? = some (I (fj n)) := by rw [hQ]; exact rw_head hn31
      have em : mmx false (fj n) (F i n + g (n - l)) = mn (fj n) (F i n + g (n - l)) := rfl
      have qp : Q.take n ++ I (mn (fj n) (F i n + g (n - l))) :: Q.drop (n + 1) = rw_ 31 fun y => if y = n then mn (fj n) (F i n + g (n - l)) else fj y := by
        have : Q.take n ++ [I (mn (fj n) (F i n + g (n - l)))] ++ Q.drop (n + 1) = rw_ 31 fun y => if y = n then mn (fj n) (F i n + g (n - l)) else fj y := by rw [hQ]; exact rw_put hn31 fun y _ => rfl
        simpa using this
      rw [← hQ] at hrp
      have rl := (List.getElem?_eq_some_iff.1 hrp).1
      have gh := rw_head (f := g) (i := n - l) (n := 31) (by omega)
      have i0 : (0 : Int) ≤ (n : Int) - l := by omega
      have i1 : (n : Int) - l < ((31 : Nat) : Int) := by omega
      have i2 : ((n : Int) - l).toNat = n - l := by omega
      rcases rdp2 with ⟨r, rfl, hrr⟩ | PI
      · obtain ⟨GG, hGG⟩ : ∃ GG, GG = rw_ 31 g := ⟨_, rfl⟩
        rw [← hGG] at hrr gh
        simp (disch := first | assumption | omega | (simp only [az]; done)) only [ru, eq_self, if_true, if_false, BEq.rfl, binI, AO.row?, splice, fillL, mmAll, loadV, storeV, zeros, Am.rowAt, Am.part, addOff, Nat.reduceAdd, Nat.reduceMul, Nat.reduceLeDiff, Nat.reduceSub, Nat.reduceLT, Int.reduceEq, Int.reduceLT, Int.reduceLE, Int.reduceGT, Int.reduceGE, Int.reduceAdd, Int.reduceSub, Int.reduceMul, Int.reduceNeg, Int.reduceToNat, reduceCtorEq, reduceIte, lenV_sl H.i, elem_pt H.i, view_sl H.i, scalar_sl H.i, cells_sl H.i, pure_sl H.i, Int.toNat_natCast, ilt, nn, Int.toNat_natCast, ← hy, s24 H, hcc, g1, g2, gUn, decide_true, elemAt_ms, nlt, Nat.mul_one, Nat.zero_add, op, pch, ei, eci, hrp, qh, i0, i1, i2, hrr, gh, em, fitq, List.append_assoc, qp]
        refine ihl (40 - (l + 1)) _ _ _ (by omega) ⟨l + 1, fun y => if y = n then mn (fj n) (F i n + g (n - l)) else fj y, by omega, by omega, rfl, by rw [List.length_set]; exact lp, fun a ha => by rw [List.getElem?_set_ne (by omega)]; exact hnp a ha, by rw [List.getElem?_set_self rl], fun y0 hy0 => (if_neg hy0).trans (hfj y0 hy0), ?_, rfl, rfl, rfl, rfl, rfl, rfl, rfl, rfl, rfl, rfl⟩
        show Rp (dm j) (if n = n then mn (fj n) (F i n + g (n - l)) else fj n) _
        rw [ml2, if_pos rfl, lst]
        rw [if_pos (show y.s.lo ≤ (l : Int) ∧ (l : Int) ≤ y.s.hi by omega)]
        exact hrpl.mn (by omega) ((Fi.w.add ⟨by omega, by omega⟩ ⟨jd0, by omega⟩ gr.w).up (by omega))
      · have ep : elemAt 1 p (I ((n : Int) - l)) = some (.cptr [I (g (n - l))]) := by
          rw [elem_in PI _ i0 (by rw [rng_len]; omega), i2, rng_at (by omega)]
        simp (disch := first | assumption | omega | (simp only [az]; done)) only [ru, eq_self, if_true, if_false, BEq.rfl, binI, AO.row?, splice, fillL, mmAll, loadV, storeV, zeros, Am.rowAt, Am.part, addOff, Nat.reduceAdd, Nat.reduceMul, Nat.reduceLeDiff, Nat.reduceSub, Nat.reduceLT, Int.reduceEq, Int.reduceLT, Int.reduceLE, Int.reduceGT, Int.reduceGE, Int.reduceAdd, Int.reduceSub, Int.reduceMul, Int.reduceNeg, Int.reduceToNat, reduceCtorEq, reduceIte, lenV_sl H.i, elem_pt H.i, view_sl H.i, scalar_sl H.i, cells_sl H.i, pure_sl H.i, Int.toNat_natCast, ilt, nn, Int.toNat_natCast, ← hy, s24 H, hcc, g1, g2, gUn, decide_true, elemAt_ms, nlt, Nat.mul_one, Nat.zero_add, op, pch, ei, eci, hrp, qh, ep, em, fitq, List.append_assoc, qp]
        refine ihl (40 - (l + 1)) _ _ _ (by omega) ⟨l + 1, fun y => if y = n then mn (fj n) (F i n + g (n - l)) else fj y, by omega, by omega, rfl, by rw [List.length_set]; exact lp, fun a ha => by rw [List.getElem?_set_ne (by omega)]; exact hnp a ha, by rw [List.getElem?_set_self rl], fun y0 hy0 => (if_neg hy0).trans (hfj y0 hy0), ?_, rfl, rfl, rfl, rfl, rfl, rfl, rfl, rfl, rfl, rfl⟩
        show Rp (dm j) (if n = n then mn (fj n) (F i n + g (n - l)) else fj n) _
        rw [ml2, if_pos rfl, lst]
        rw [if_pos (show y.s.lo ≤ (l : Int) ∧ (l : Int) ≤ y.s.hi by omega)]
        exact hrpl.mn (by omega) ((Fi.w.add ⟨by omega, by omega⟩ ⟨jd0, by omega⟩ gr.w).up (by omega))
  clear ihn
  obtain rfl : n = 31 := by omega
  -- the part is done
  have B2 : Bs t c hq 0 i (fun j => if j = i then hk.length else q j) (fun k => if k = i then fi else f k) := by
    refine ⟨by rw [oq, hPC], fun k a b => ?_, fun k a b y0 hy0 => ?_⟩
    · by_cases e : k = i
      · subst e; simp only [if_true]; exact ⟨by omega, hr⟩
      · simp only [if_neg e]
        have h1 := B1.rows k (by omega) b
        have h2 := bq k (by omega) b
        exact ⟨h1.1, by rw [hne _ (by omega), n2 _ h1.1 (by omega)]; exact h1.2⟩
    · by_cases e : k = i
      · subst e; simp only [if_true, hN]; exact hfi y0 hy0
      · simp only [if_neg e]; exact B.rp k (by omega) b y0 hy0
  obtain ⟨y, hy⟩ : ∃ y, y = t.getD i default := ⟨_, rfl⟩
  have tot : t.length - (j + 1) = i := hi.symm
  have mul1 : ((j + 1 : Nat) : Int) * 14348907000 = (j : Int) * 14348907000 + 14348907000 := by omega
  have i1 : (i : Int) - 1 = (t.length : Int) - 1 - ((j + 1 : Nat) : Int) := by omega
  by_cases cr : y.of = -1
  · -- a whole fish
    have es : smS t c (j + 1) = pl (smS t c j) (lst (fun b => bsc t c i b) 31) := by
      simp only [smS, tot, ← hy, cr, if_true, bsc, hN]
    simp (disch := first | assumption | omega | (simp only [az]; done)) only [ru, eq_self, if_true, if_false, BEq.rfl, binI, AO.row?, splice, fillL, mmAll, loadV, storeV, zeros, Am.rowAt, Am.part, addOff, Nat.reduceAdd, Nat.reduceMul, Nat.reduceLeDiff, Nat.reduceSub, Nat.reduceLT, Int.reduceEq, Int.reduceLT, Int.reduceLE, Int.reduceGT, Int.reduceGE, Int.reduceAdd, Int.reduceSub, Int.reduceMul, Int.reduceNeg, Int.reduceToNat, reduceCtorEq, reduceIte, lenV_sl H.i, elem_pt H.i, view_sl H.i, scalar_sl H.i, cells_sl H.i, pure_sl H.i, Int.toNat_natCast, hnl, decide_false, ilt, nn, Int.toNat_natCast, ← hy, cr, decide_true]
    refine G_loop_ind (fun m' ts hp mk => ∃ (b : Nat) (z : Int), b ≤ 31 ∧ m' = 31 - b ∧ hp = hq ∧ Rp (dm j) z (lst (fun b => bsc t c i b) b) ∧ ts.length = 150 ∧ ts.getD 0 .undef = v ∧ ts.getD 1 .undef = w ∧ ts.getD 5 .undef = I x ∧ ts.getD 6 .undef = .ms 1 0 0 t.length ∧ ts.getD 7 .undef = I i ∧ ts.getD 12 .undef = I z ∧ ts.getD 13 .undef = I b ∧ mk = []) ?_ _ _ _ _
      ⟨0, NV, by omega, rfl, rfl, Rp.nv (by omega), rfl, rfl, rfl, rfl, rfl, rfl, rfl, rfl, rfl⟩
    rintro m' ts hp mk ihb ⟨b, z, hb, rfl, rfl, hz, hl', q0, q1, q5, q6, q7, q12, q13, rfl⟩
    rw [lit_all hl']
    simp only [lit0, litS, Nat.reduceAdd, q0, q1, q5, q6, q7, q12, q13]
    by_cases hbl : (b : Int) ≤ 30
    case pos =>
      have hb31 : b < 31 := by omega
      have blt : (b : Int) < ((31 : Nat) : Int) := by omega
      have rh := rw_head (f := fi) hb31
      obtain ⟨Q, hQ⟩ : ∃ Q, Q = rw_ 31 fi := ⟨_, rfl⟩
      rw [← hQ] at hr rh
      have em : mmx false z (fi b) = mn z (fi b) := rfl
      simp (disch := first | assumption | omega | (simp only [az]; done)) only [ru, eq_self, if_true, if_false, BEq.rfl, binI, AO.row?, splice, fillL, mmAll, loadV, storeV, zeros, Am.rowAt, Am.part, addOff, Nat.reduceAdd, Nat.reduceMul, Nat.reduceLeDiff, Nat.reduceSub, Nat.reduceLT, Int.reduceEq, Int.reduceLT, Int.reduceLE, Int.reduceGT, Int.reduceGE, Int.reduceAdd, Int.reduceSub, Int.reduceMul, Int.reduceNeg, Int.reduceToNat, reduceCtorEq, reduceIte, hbl, decide_true, elemAt_ms, ilt, blt, nn, Int.toNat_natCast, Nat.mul_one, Nat.zero_add, oq, pch, hr, rh, em]
      exact ihb (31 - (b + 1)) _ _ _ (by omega) ⟨b + 1, mn z (fi b), by omega, rfl, rfl, by rw [lst]; exact hz.mn (by omega) (hfi b hb31).w, rfl, rfl, rfl, rfl, rfl, rfl, rfl, rfl, rfl⟩
    obtain rfl : b = 31 := by omega
    clear ihb
    have zb : -14348907000 ≤ z ∧ z ≤ NV + 3000 := by
      cases h : lst (fun b => bsc t c i b) 31 with
      | none => rw [h] at hz; have := hz.2 rfl; omega
      | some u => rw [h] at hz; have := hz.1 u rfl; omega
    have xb := hx.2.2
    simp (disch := first | assumption | omega | (simp only [az]; done)) only [ru, eq_self, if_true, if_false, BEq.rfl, binI, AO.row?, splice, fillL, mmAll, loadV, storeV, zeros, Am.rowAt, Am.part, addOff, Nat.reduceAdd, Nat.reduceMul, Nat.reduceLeDiff, Nat.reduceSub, Nat.reduceLT, Int.reduceEq, Int.reduceLT, Int.reduceLE, Int.reduceGT, Int.reduceGE, Int.reduceAdd, Int.reduceSub, Int.reduceMul, Int.reduceNeg, Int.reduceToNat, reduceCtorEq, reduceIte, hbl, decide_false]
    refine ih (t.length - (j + 1)) _ _ _ (by omega) ⟨j + 1, x + z, _, _, by omega, rfl, by rw [tot]; exact B2, ⟨fun u hu => ?_, fun e => ?_, by omega, by omega⟩, rfl, rfl, rfl, rfl, rfl, by rw [← i1]; rfl, rfl⟩
    · rw [es] at hu
      obtain ⟨u1, u2, h1, h2, rfl⟩ := pl_some.1 hu
      have := hx.1 u1 h1
      have := hz.1 u2 h2
      omega
    · rw [es] at e
      cases h1 : smS t c j with
      | none =>
        have := hx.2.1 h1
        omega
      | some u1 =>
        cases h2 : lst (fun b => bsc t c i b) 31 with
        | none =>
          have h3 := hz.2 h2
          have := hx.1 u1 h1
          omega
        | some u2 => rw [h1, h2] at e; cases e
  · have es : smS t c (j + 1) = smS t c j := by
      simp only [smS, tot, ← hy]; rw [if_neg cr]
    simp (disch := first | assumption | omega | (simp only [az]; done)) only [ru, eq_self, if_true, if_false, BEq.rfl, binI, AO.row?, splice, fillL, mmAll, loadV, storeV, zeros, Am.rowAt, Am.part, addOff, Nat.reduceAdd, Nat.reduceMul, Nat.reduceLeDiff, Nat.reduceSub, Nat.reduceLT, Int.reduceEq, Int.reduceLT, Int.reduceLE, Int.reduceGT, Int.reduceGE, Int.reduceAdd, Int.reduceSub, Int.reduceMul, Int.reduceNeg, Int.reduceToNat, reduceCtorEq, reduceIte, lenV_sl H.i, elem_pt H.i, view_sl H.i, scalar_sl H.i, cells_sl H.i, pure_sl H.i, Int.toNat_natCast, hnl, decide_false, ilt, nn, Int.toNat_natCast, ← hy, cr]
    refine ih (t.length - (j + 1)) _ _ _ (by omega) ⟨j + 1, x, _, _, by omega, rfl, by rw [tot]; exact B2, ⟨fun u hu => ?_, fun e => ?_, by have := hx.2.2; omega, by have := hx.2.2; omega⟩, rfl, rfl, rfl, rfl, rfl, by rw [← i1]; rfl, rfl⟩
    · rw [es] at hu; have := hx.1 u hu; omega
    · rw [es] at e; have := hx.2.1 e; omega
end
end Go.Proofs.Yteonklnjchefiaa.S

/-
Is there a truth? Tables that are changed a little (specification). The helpers of the laws.
-/
namespace Go.Proofs.Yteonklnjchefiaa.S
open Go Go.Am Go.Proofs.Yteonklnjchefiaa.T
set_option maxRecDepth 100000
set_option linter.unusedSimpArgs false
set_option linter.unusedVariables false

theorem Iso_view {f : Nat} {vs : List AV} {r w : AV} {h' : List AO} {st : Bool} (hr : R E (.fn f) vs [] 0 = some (r, h')) (hv : Am.view st h' 8 r = some w) : Iso E f vs st = some w := by
  simp only [Iso, hr, hv]
section
variable {t : List Pt} {v : AV}
theorem s80 (H : TbOk t v) (T : TW t) (st : Bool) : Iso E 80 [v] st = some (resLL (rowsL t.length (wI t))) := by
  obtain ⟨w, h', hr, _, hT⟩ := r80 H T (h := []) (lim := 0) (Nat.zero_le _)
  exact Iso_view hr (hT.view st 6)
theorem s96 (H : TbOk t v) (T : TW t) (st : Bool) : Iso E 96 [v] st = some (resLL (rowsL t.length (aI t))) := by
  obtain ⟨w, h', hr, _, hT⟩ := r96 H T (h := []) (lim := 0) (Nat.zero_le _)
  exact Iso_view hr (hT.view st 6)
theorem wI_rp {i : Nat} {b : Nat} : Rp 3000 (wI t i b) (cT t (fun _ => 0) i b) := by
  unfold wI cT
  have h := @awy_zero (t.getD i default).w b
  have h0 := @awy_nn (t.getD i default).w b
  by_cases c : awy (t.getD i default).w b > 0
  · rw [if_pos c, if_neg (fun hh => by have := h.2 hh; omega)]
    exact ⟨(fun v hv => by cases hv), fun _ => by show NV - 3000 ≤ NV ∧ NV ≤ NV + 3000; omega⟩
  · rw [if_neg c, if_pos (h.1 (by omega))]
    exact ⟨fun v hv => by simp only [Int.zero_mul, Option.some.injEq] at hv; omega, (fun e => by cases e)⟩
theorem sm_small (T : TG t) {c : Nat → Int → Option Int} (hc : ∀ i b x, c i b = some x → -3000 ≤ x ∧ x ≤ 3000) {x : Int} (h : Lst t c = some x) : -765000 ≤ x ∧ x ≤ 765000 := by
  have b := smS_bd (K := 3000) (by omega) hc t.length x h
  have pw := pow2_le T.n
  have p3 : ((2 : Int) ^ t.length - 1) * 3000 ≤ 255 * 3000 := Int.mul_le_mul_of_nonneg_right pw.1 (by omega)
  omega
theorem s34 (H : TbOk t v) (T : TW t) (st : Bool) : Iso E 34 [v] st = some (Bo (is1 t)) := by
  have g := fun st => s80 H T st
  obtain ⟨w, hw⟩ : ∃ w, w = resLL (rowsL t.length (wI t)) := ⟨_, rfl⟩
  have W : IsSl 1 resE (rowsL t.length (wI t)) w := by rw [hw]; exact resLL_is _
  rw [← hw] at g
  obtain ⟨x, g2, hx⟩ := s79 H T.toTG (c := cT t fun _ => 0) (F := wI t) (fun i hi b hb => wI_rp) W
  have hb : ∀ i b x, cT t (fun _ => 0) i b = some x → -3000 ≤ x ∧ x ≤ 3000 := cT_bd T (fun i _ => ⟨by decide, by decide⟩)
  have e : decide (x < 549755813888) = is1 t := by
    unfold is1
    cases h : Lst t (cT t fun _ => 0) with
    | none => have := hx.2.1 h; exact decide_eq_false (by omega)
    | some u =>
      have := hx.1 u h
      have := sm_small T.toTG hb h
      exact decide_eq_true (by omega)
  refine Iso_of (es _ _ _ _) e34 ?_
  simp only [f34]
  simp (disch := first | assumption | omega | (simp only [az]; done)) only [ru, eq_self, if_true, if_false, BEq.rfl, binI, AO.row?, splice, fillL, mmAll, loadV, storeV, zeros, Am.rowAt, Am.part, addOff, Nat.reduceAdd, Nat.reduceMul, Nat.reduceLeDiff, Nat.reduceSub, Nat.reduceLT, Int.reduceEq, Int.reduceLT, Int.reduceLE, Int.reduceGT, Int.reduceGE, Int.reduceAdd, Int.reduceSub, Int.reduceMul, Int.reduceNeg, Int.reduceToNat, reduceCtorEq, reduceIte, lenV_sl H.i, elem_pt H.i, view_sl H.i, scalar_sl H.i, cells_sl H.i, pure_sl H.i, Int.toNat_natCast, lenV_sl W, view_sl W, scalar_sl W, cells_sl W, pure_sl W, g, g2, s78, e]
theorem c42 (H : TbOk t v) (Hh : List AO) : ∃ o H', C2 E 42 [v] Hh = some (.ms 6 o 0 t.length, H') ∧ Fr Hh H' ∧ Hh.length ≤ o ∧ H'[o]? = some (.cells (t.flatMap Pt.e) false) := by
  have sp := H.n
  obtain ⟨o, h', A, fr, ho, hc⟩ := cpyO (eb := 48) (lim := 0) (h := ([] : List AO)) H.i Pt.el Pt.sc (by omega) (by omega) (Nat.zero_le _)
  simp only [apN, len0, List.nil_append, List.length_nil] at A
  have hr : ∃ r h1, R E (.fn 42) [v] [] 0 = some (r, h1) ∧ (r = .ms 6 o 0 t.length ∧ h1 = h') := by
    refine R_of (fun r h1 => r = .ms 6 o 0 t.length ∧ h1 = h') (es _ _ _ _) e42 ?_
    simp only [f42]
    simp (disch := first | assumption | omega | (simp only [az]; done)) only [ru, eq_self, if_true, if_false, BEq.rfl, binI, AO.row?, splice, fillL, mmAll, loadV, storeV, zeros, Am.rowAt, Am.part, addOff, Nat.reduceAdd, Nat.reduceMul, Nat.reduceLeDiff, Nat.reduceSub, Nat.reduceLT, Int.reduceEq, Int.reduceLT, Int.reduceLE, Int.reduceGT, Int.reduceGE, Int.reduceAdd, Int.reduceSub, Int.reduceMul, Int.reduceNeg, Int.reduceToNat, reduceCtorEq, reduceIte, A]
  obtain ⟨_, _, hr, rfl, rfl⟩ := hr
  refine ⟨o + Hh.length, _, C2_of (by simp only [AV.pureV.go, pure_sl H.i, Bool.and_true]) hr, Fr.app _ _, by omega, ?_⟩
  rw [List.getElem?_append_right (by omega), Nat.add_sub_cancel, List.getElem?_map, hc]
  simp only [Option.map_some, AO.shift, pts_shift]
theorem s42 (H : TbOk t v) (st : Bool) : Iso E 42 [v] st = some (slV 6 Pt.e t) := by
  have sp := H.n
  obtain ⟨o, h', A, fr, ho, hc⟩ := cpyO (eb := 48) (lim := 0) (h := ([] : List AO)) H.i Pt.el Pt.sc (by omega) (by omega) (Nat.zero_le _)
  simp only [apN, len0, List.nil_append, List.length_nil] at A
  have vw := RdC.view (enc := Pt.e) (esz := 6) (l := t) (h := h') (w := .ms 6 o 0 t.length) ⟨o, rfl, hc⟩ Pt.el Pt.iv (st := st) (k := 7)
  refine Iso_of (es _ _ _ _) e42 ?_
  simp only [f42]
  simp (disch := first | assumption | omega | (simp only [az]; done)) only [ru, eq_self, if_true, if_false, BEq.rfl, binI, AO.row?, splice, fillL, mmAll, loadV, storeV, zeros, Am.rowAt, Am.part, addOff, Nat.reduceAdd, Nat.reduceMul, Nat.reduceLeDiff, Nat.reduceSub, Nat.reduceLT, Int.reduceEq, Int.reduceLT, Int.reduceLE, Int.reduceGT, Int.reduceGE, Int.reduceAdd, Int.reduceSub, Int.reduceMul, Int.reduceNeg, Int.reduceToNat, reduceCtorEq, reduceIte, A, vw]
theorem pt_get6 {l : List Pt} {i : Nat} (hi : i < l.length) : ((l.flatMap Pt.e).drop (i * 6)).take 6 = [I (l.getD i default).of, I (l.getD i default).w.lo, I (l.getD i default).w.hi, I (l.getD i default).s.lo, I (l.getD i default).s.hi, I (l.getD i default).p] := by
  rw [flat_at Pt.el _ _ hi]
  simp only [List.getD_eq_getElem?_getD, List.getElem?_eq_getElem hi, Option.getD_some]; rfl
theorem pt_put6 {l : List Pt} {i : Nat} (hi : i < l.length) (x : Pt) : (l.flatMap Pt.e).take (i * 6) ++ I x.of :: I x.w.lo :: I x.w.hi :: I x.s.lo :: I x.s.hi :: I x.p :: (l.flatMap Pt.e).drop (i * 6 + 6) = (l.set i x).flatMap Pt.e := by
  induction l generalizing i with
  | nil => simp at hi
  | cons a l ih =>
    cases i with
    | zero => rfl
    | succ i =>
      have e : (i + 1) * 6 = i * 6 + 6 := by omega
      have := ih (i := i) (by simpa using hi)
      rw [e]
      show I a.of :: I a.w.lo :: I a.w.hi :: I a.s.lo :: I a.s.hi :: I a.p :: ((l.flatMap Pt.e).take (i * 6) ++ I x.of :: I x.w.lo :: I x.w.hi :: I x.s.lo :: I x.s.hi :: I x.p :: (l.flatMap Pt.e).drop (i * 6 + 6)) = _
      rw [this]; rfl
def rPay (t : List Pt) (l : List Int) : List Int := rng t.length (rS t l)
set_option maxHeartbeats 1000000 in
theorem r75 (H : TbOk t v) (T : TW t) {l : List Int} {w : AV} (V : IsSl 1 intL l w) (hl : l.length ≤ 1000) : ∃ o h', R E (.fn 75) [v, w] [] 0 = some (.ms 1 o 0 t.length, h') ∧ h'[o]? = some (.cells (rw_ t.length (rS t l)) false) := by
  have sp := H.n
  have mk2 : (8 : Int) * t.length ≤ 140737488355328 := by omega
  have zz : (List.replicate t.length [I 0]).flatten = rw_ t.length fun _ => 0 := by
    have : ∀ k, (List.replicate k [I 0]).flatten = rw_ k fun _ => 0 := fun k => by
      have e : rng k (fun _ => 0) = List.replicate k 0 := by
        refine List.ext_getElem (by simp [rng]) fun i h1 h2 => by simp [rng]
      rw [rw_, e]
      induction k with
      | zero => rfl
      | succ k ih => rw [List.replicate_succ, List.replicate_succ, List.flatten_cons, List.flatMap_cons, ih (by
          refine List.ext_getElem (by simp [rng]) fun i h1 h2 => by simp [rng])]
    exact this _
  refine (fun x => ?_ : (∃ r h', R E (.fn 75) [v, w] [] 0 = some (r, h') ∧ (r = .ms 1 0 0 t.length ∧ h'[0]? = some (.cells (rw_ t.length (rS t l)) false))) → _) (R_of _ (es _ _ _ _) e75 ?_)
  · obtain ⟨r, h', hr, rfl, hh⟩ := x; exact ⟨0, h', hr, hh⟩
  simp only [f75]
  simp (disch := first | assumption | omega | (simp only [az]; done)) only [ru, eq_self, if_true, if_false, BEq.rfl, binI, AO.row?, splice, fillL, mmAll, loadV, storeV, zeros, Am.rowAt, Am.part, addOff, Nat.reduceAdd, Nat.reduceMul, Nat.reduceLeDiff, Nat.reduceSub, Nat.reduceLT, Int.reduceEq, Int.reduceLT, Int.reduceLE, Int.reduceGT, Int.reduceGE, Int.reduceAdd, Int.reduceSub, Int.reduceMul, Int.reduceNeg, Int.reduceToNat, reduceCtorEq, reduceIte, lenV_sl H.i, elem_pt H.i, view_sl H.i, scalar_sl H.i, cells_sl H.i, pure_sl H.i, Int.toNat_natCast, exOp_mk, nn, Int.le_refl, mk2, zz]
  refine G_loop_ind (fun m ts hh mk => ∃ j : Nat, j ≤ t.length ∧ m = t.length - j ∧ ts.length = 29 ∧ ts.getD 0 .undef = v ∧ ts.getD 1 .undef = w ∧ ts.getD 5 .undef = .ms 1 0 0 t.length ∧ ts.getD 6 .undef = I j ∧ hh = [.cells (rw_ t.length fun i => if i < j then rS t l i else 0) false] ∧ mk = []) ?_ _ _ _ _
    ⟨0, Nat.zero_le _, rfl, rfl, rfl, rfl, rfl, rfl, rfl, rfl⟩
  rintro m ts hh mk ih ⟨j, hj, rfl, hl', q0, q1, q5, q6, rfl, rfl⟩
  rw [lit_all hl']
  simp only [lit0, litS, Nat.reduceAdd, q0, q1, q5, q6]
  by_cases hlt : (j : Int) < t.length
  case neg =>
    obtain rfl : j = t.length := by omega
    have e : (rw_ t.length fun i => if i < t.length then rS t l i else 0) = rw_ t.length (rS t l) := rw_congr fun i hi => if_pos hi
    rw [e]
    simp (disch := first | assumption | omega | (simp only [az]; done)) only [ru, eq_self, if_true, if_false, BEq.rfl, binI, AO.row?, splice, fillL, mmAll, loadV, storeV, zeros, Am.rowAt, Am.part, addOff, Nat.reduceAdd, Nat.reduceMul, Nat.reduceLeDiff, Nat.reduceSub, Nat.reduceLT, Int.reduceEq, Int.reduceLT, Int.reduceLE, Int.reduceGT, Int.reduceGE, Int.reduceAdd, Int.reduceSub, Int.reduceMul, Int.reduceNeg, Int.reduceToNat, reduceCtorEq, reduceIte, lenV_sl H.i, elem_pt H.i, view_sl H.i, scalar_sl H.i, cells_sl H.i, pure_sl H.i, Int.toNat_natCast, hlt, decide_false]
  have hj2 : j < t.length := by omega
  obtain ⟨x, hx⟩ : ∃ x, x = t.getD j default := ⟨_, rfl⟩
  have g := fun st => s114 H V hl (p := (j : Int)) (by omega) hlt st
  obtain ⟨q, hq⟩ : ∃ q, q = (!decide ((j : Int) ∈ l) && thr t l j) := ⟨_, rfl⟩
  rw [← hq] at g
  have rs : rS t l j = if q then x.p else 0 := by
    unfold rS
    rw [hq, ← hx]
    by_cases a : (j : Int) ∈ l <;> by_cases b : thr t l j = true <;> simp [a, b, hj2]
  obtain ⟨Z, hZ⟩ : ∃ Z, Z = rw_ t.length fun i => if i < j then rS t l i else 0 := ⟨_, rfl⟩
  have zl : Z.length = t.length := by rw [hZ, rw_len]
  cases q
  · have rp : Z = rw_ t.length fun i => if i < j + 1 then rS t l i else 0 := by
      rw [hZ]
      refine rw_congr fun i hi => ?_
      by_cases e : i = j
      · subst e; rw [if_neg (by omega), if_pos (by omega), rs]; rfl
      · by_cases e2 : i < j
        · rw [if_pos e2, if_pos (by omega)]
        · rw [if_neg e2, if_neg (by omega)]
    rw [← hZ]
    simp (disch := first | assumption | omega | (simp only [az]; done)) only [ru, eq_self, if_true, if_false, BEq.rfl, binI, AO.row?, splice, fillL, mmAll, loadV, storeV, zeros, Am.rowAt, Am.part, addOff, Nat.reduceAdd, Nat.reduceMul, Nat.reduceLeDiff, Nat.reduceSub, Nat.reduceLT, Int.reduceEq, Int.reduceLT, Int.reduceLE, Int.reduceGT, Int.reduceGE, Int.reduceAdd, Int.reduceSub, Int.reduceMul, Int.reduceNeg, Int.reduceToNat, reduceCtorEq, reduceIte, lenV_sl H.i, elem_pt H.i, view_sl H.i, scalar_sl H.i, cells_sl H.i, pure_sl H.i, Int.toNat_natCast, lenV_sl V, view_sl V, scalar_sl V, cells_sl V, pure_sl V, hlt, decide_true, g]
    exact ih (t.length - (j + 1)) _ _ _ (by omega) ⟨j + 1, by omega, rfl, rfl, rfl, rfl, rfl, rfl, by rw [rp], rfl⟩
  · have zp : Z.take j ++ I x.p :: Z.drop (j + 1) = rw_ t.length fun i => if i < j + 1 then rS t l i else 0 := by
      have : Z.take j ++ [I x.p] ++ Z.drop (j + 1) = rw_ t.length fun i => if i < j + 1 then rS t l i else 0 := by
        rw [hZ]
        refine rw_put hj2 fun i hi => ?_
        by_cases e : i = j
        · subst e; rw [if_pos rfl, if_pos (by omega), rs]; rfl
        · rw [if_neg e]; by_cases e2 : i < j
          · rw [if_pos e2, if_pos (by omega)]
          · rw [if_neg e2, if_neg (by omega)]
      simpa using this
    have fit : j + 1 ≤ Z.length := by omega
    rw [← hZ]
    simp (disch := first | assumption | omega | (simp only [az]; done)) only [ru, eq_self, if_true, if_false, BEq.rfl, binI, AO.row?, splice, fillL, mmAll, loadV, storeV, zeros, Am.rowAt, Am.part, addOff, Nat.reduceAdd, Nat.reduceMul, Nat.reduceLeDiff, Nat.reduceSub, Nat.reduceLT, Int.reduceEq, Int.reduceLT, Int.reduceLE, Int.reduceGT, Int.reduceGE, Int.reduceAdd, Int.reduceSub, Int.reduceMul, Int.reduceNeg, Int.reduceToNat, reduceCtorEq, reduceIte, lenV_sl H.i, elem_pt H.i, view_sl H.i, scalar_sl H.i, cells_sl H.i, pure_sl H.i, Int.toNat_natCast, lenV_sl V, view_sl V, scalar_sl V, cells_sl V, pure_sl V, hlt, decide_true, g, ← hx, elemAt_ms, nn, Int.toNat_natCast, Nat.mul_one, Nat.zero_add, fit, List.append_assoc, zp]
    exact ih (t.length - (j + 1)) _ _ _ (by omega) ⟨j + 1, by omega, rfl, rfl, rfl, rfl, rfl, rfl, rfl, rfl⟩
theorem s75 (H : TbOk t v) (T : TW t) {l : List Int} {w : AV} (V : IsSl 1 intL l w) (hl : l.length ≤ 1000) (st : Bool) : Iso E 75 [v, w] st = some (slV 1 intL (rPay t l)) := by
  obtain ⟨o, h', hr, hc⟩ := r75 H T V hl
  have := RdC.view (enc := intL) (esz := 1) (l := rPay t l) (h := h') (w := .ms 1 o 0 t.length) ⟨o, by rw [rPay, rng_len], hc⟩ intE intIv (st := st) (k := 7)
  exact Iso_view hr this
end
end Go.Proofs.Yteonklnjchefiaa.S

/-
The helpers of the laws.
-/
namespace Go.Proofs.Yteonklnjchefiaa.S
open Go Go.Am Go.Proofs.Yteonklnjchefiaa.T
set_option maxRecDepth 100000
set_option linter.unusedSimpArgs false
set_option linter.unusedVariables false

/-! what the least list of weights is -/
section
variable {t : List Pt}
theorem fix_part (T : TG t) {m : Int} (hm : Lst t (cD t) = some m) : PartF t (fu (fixV t)) ∧ chg t (fu (fixV t)) t.length = m := by
  obtain ⟨u, h1, h2, h3⟩ := (LstP T (by rw [fixU_len]; exact Nat.le_refl _)).1 m (fixU_ok T hm (Nat.le_refl _))
  rw [fixU_len] at h2
  have e : ∀ i, i < t.length → fu (fixV t) i = u i := fun i hi => (h2 i hi).symm
  constructor
  · intro i hi
    have := h1 i hi
    rw [pcs_congr (w := u) e, e i hi]; exact this
  · rw [h3]
    have : ∀ k, k ≤ t.length → chg t (fu (fixV t)) k = chg t u k := by
      intro k
      induction k with
      | zero => intro _; rfl
      | succ k ih => intro hk; simp only [chg]; rw [ih (by omega), e k (by omega)]
    exact this _ (Nat.le_refl _)
theorem ear_at : ∀ {l m : List Int}, ear l m = true → ∃ k, k < l.length ∧ k < m.length ∧ (∀ i, i < k → l.getD i 0 = m.getD i 0) ∧ l.getD k 0 < m.getD k 0
  | [], _, h => by simp [ear] at h
  | _ :: _, [], h => by simp [ear] at h
  | a :: l, b :: m, h => by
    simp only [ear] at h
    by_cases e : a = b
    · subst e
      simp only [ne_eq, not_true_eq_false, if_false] at h
      obtain ⟨k, h1, h2, h3, h4⟩ := ear_at h
      refine ⟨k + 1, by simpa using h1, by simpa using h2, fun i hi => ?_, by simpa using h4⟩
      cases i with
      | zero => rfl
      | succ i => simpa using h3 i (by omega)
    · rw [if_pos e] at h
      exact ⟨0, by simp, by simp, fun i hi => by omega, by simpa using h⟩
/-- no parting with as little change is earlier -/
theorem fix_min (T : TG t) {m : Int} (hm : Lst t (cD t) = some m) {l : List Int} (hl : l.length = t.length) (hp : PartF t (fu l)) (hc : chg t (fu l) t.length = m) : ear l (fixV t) = false := by
  cases he : ear l (fixV t) with
  | false => rfl
  | true =>
    exfalso
    obtain ⟨k, h1, h2, h3, h4⟩ := ear_at he
    rw [fixU_len] at h2
    have hk := (hp k h2).1
    have e := fixU_lt (t := t) (k := t.length) (i := k) h2
    have bd : ∃ b, b < 31 ∧ (fun b : Nat => decide (Lst t (cP t (fixU t k ++ [(b : Int)])) = Lst t (cD t))) b = true := by
      refine ⟨(l.getD k 0).toNat, by have := hk; show (l.getD k 0).toNat < 31; have h5 : l.getD k 0 ≤ 30 := hk.2; omega, ?_⟩
      have h5 : 0 ≤ l.getD k 0 := hk.1
      show decide (Lst t (cP t (fixU t k ++ [(((l.getD k 0).toNat : Nat) : Int)])) = Lst t (cD t)) = true
      rw [show (((l.getD k 0).toNat : Nat) : Int) = l.getD k 0 by omega, decide_eq_true_eq, hm]
      have L := LstP T (l := fixU t k ++ [l.getD k 0]) (by simp [fixU_len]; omega)
      obtain ⟨y, hy, hle⟩ := L.2 m ⟨fu l, hp, fun i hi => by
        simp only [List.length_append, fixU_len, List.length_cons, List.length_nil] at hi
        by_cases e : i = k
        · subst e; rw [List.getD_eq_getElem?_getD, List.getElem?_append_right (by rw [fixU_len]; exact Nat.le_refl _), fixU_len, Nat.sub_self]; rfl
        · rw [List.getD_eq_getElem?_getD, List.getElem?_append_left (by rw [fixU_len]; omega), ← List.getD_eq_getElem?_getD]
          show l.getD i 0 = _
          rw [h3 i (by omega), fixU_lt (by omega), fixU_lt (by omega)], hc.symm⟩
      have := cP_ge T hm (by simp [fixU_len]; omega) hy
      rw [hy]; congr 1; omega
    have sp := fB_spec bd
    have : ¬ (l.getD k 0).toNat < fB fun b => decide (Lst t (cP t (fixU t k ++ [(b : Int)])) = Lst t (cD t)) := fun hlt => by
      have h6 := sp.2.2 _ hlt
      have h5 : 0 ≤ l.getD k 0 := hk.1
      have L := LstP T (l := fixU t k ++ [l.getD k 0]) (by simp [fixU_len]; omega)
      obtain ⟨y, hy, hle⟩ := L.2 m ⟨fu l, hp, fun i hi => by
        simp only [List.length_append, fixU_len, List.length_cons, List.length_nil] at hi
        by_cases e : i = k
        · subst e; rw [List.getD_eq_getElem?_getD, List.getElem?_append_right (by rw [fixU_len]; exact Nat.le_refl _), fixU_len, Nat.sub_self]; rfl
        · rw [List.getD_eq_getElem?_getD, List.getElem?_append_left (by rw [fixU_len]; omega), ← List.getD_eq_getElem?_getD]
          show l.getD i 0 = _
          rw [h3 i (by omega), fixU_lt (by omega), fixU_lt (by omega)], hc.symm⟩
      have h7 := cP_ge T hm (by simp [fixU_len]; omega) hy
      simp only [show (((l.getD k 0).toNat : Nat) : Int) = l.getD k 0 by omega, hy, hm, decide_eq_false_iff_not, Option.some.injEq] at h6
      omega
    have h5 : 0 ≤ l.getD k 0 := hk.1
    rw [e] at h4
    omega
theorem loV_eq {r : Nat → Int} (T : TG t) {x : Int} (u : Nat → Int) (hu : TruF t u) (e : lin r u t.length = x) (h : ∀ w, TruF t w → x ≤ lin r w t.length) : loV t r = x := by
  have h1 : is1 t = true := (is1_iff T).2 ⟨u, hu⟩
  obtain ⟨⟨w, hw, e2⟩, h3⟩ := loV_spec (r := r) T h1
  have := h3 u hu; have := h w hw; omega
theorem hiV_eq {r : Nat → Int} (T : TG t) {x : Int} (u : Nat → Int) (hu : TruF t u) (e : lin r u t.length = x) (h : ∀ w, TruF t w → lin r w t.length ≤ x) : hiV t r = x := by
  have h1 : is1 t = true := (is1_iff T).2 ⟨u, hu⟩
  obtain ⟨⟨w, hw, e2⟩, h3⟩ := hiV_spec (r := r) T h1
  have := h3 u hu; have := h w hw; omega
end

end Go.Proofs.Yteonklnjchefiaa.S

/-
The chapter's examples.
-/
namespace Go.Proofs.Yteonklnjchefiaa.S
open Go Go.Am Go.Proofs.Yteonklnjchefiaa.T
set_option maxRecDepth 100000
set_option linter.unusedSimpArgs false
set_option linter.unusedVariables false

/-! the chapter's examples -/
def exT : List Pt := [⟨-1, ⟨20, 24⟩, ⟨1, 3⟩, 2⟩, ⟨0, ⟨8, 12⟩, ⟨0, 2⟩, 3⟩, ⟨0, ⟨9, 10⟩, ⟨0, 0⟩, 4⟩, ⟨1, ⟨6, 7⟩, ⟨0, 0⟩, 6⟩, ⟨1, ⟨0, 30⟩, ⟨0, 0⟩, 1⟩]
def exU : List Pt := [⟨-1, ⟨20, 24⟩, ⟨1, 3⟩, 2⟩, ⟨0, ⟨0, 5⟩, ⟨0, 2⟩, 3⟩, ⟨0, ⟨9, 10⟩, ⟨0, 0⟩, 4⟩, ⟨1, ⟨6, 7⟩, ⟨0, 0⟩, 6⟩, ⟨1, ⟨0, 30⟩, ⟨0, 0⟩, 1⟩]
theorem exT_v : tval exT = true := by decide +kernel
theorem exU_v : tval exU = true := by decide +kernel
theorem exT_W : TW exT := tval_W exT_v
theorem exU_W : TW exU := tval_W exU_v
theorem exT_par {u : Nat → Int} (h : PartF exT u) : 1 ≤ u 0 - (u 1 + u 2) ∧ u 0 - (u 1 + u 2) ≤ 3 ∧ 0 ≤ u 1 - (u 3 + u 4) ∧ u 1 - (u 3 + u 4) ≤ 2 ∧ 0 ≤ u 2 ∧ 0 ≤ u 3 ∧ 0 ≤ u 4 := by
  have h0 := (h 0 (by decide)).2
  have h1 := (h 1 (by decide)).2
  have h2 := (h 2 (by decide)).1
  have h3 := (h 3 (by decide)).1
  have h4 := (h 4 (by decide)).1
  have a0 : 1 ≤ u 0 - (0 + 0 + u 1 + u 2 + 0 + 0) ∧ u 0 - (0 + 0 + u 1 + u 2 + 0 + 0) ≤ 3 := h0
  have a1 : 0 ≤ u 1 - (0 + 0 + 0 + 0 + u 3 + u 4) ∧ u 1 - (0 + 0 + 0 + 0 + u 3 + u 4) ≤ 2 := h1
  omega
theorem exU_par {u : Nat → Int} (h : PartF exU u) : 1 ≤ u 0 - (u 1 + u 2) ∧ u 0 - (u 1 + u 2) ≤ 3 ∧ 0 ≤ u 1 - (u 3 + u 4) ∧ u 1 - (u 3 + u 4) ≤ 2 ∧ 0 ≤ u 2 ∧ 0 ≤ u 3 ∧ 0 ≤ u 4 := by
  have h0 := (h 0 (by decide)).2
  have h1 := (h 1 (by decide)).2
  have h2 := (h 2 (by decide)).1
  have h3 := (h 3 (by decide)).1
  have h4 := (h 4 (by decide)).1
  have a0 : 1 ≤ u 0 - (0 + 0 + u 1 + u 2 + 0 + 0) ∧ u 0 - (0 + 0 + u 1 + u 2 + 0 + 0) ≤ 3 := h0
  have a1 : 0 ≤ u 1 - (0 + 0 + 0 + 0 + u 3 + u 4) ∧ u 1 - (0 + 0 + 0 + 0 + u 3 + u 4) ≤ 2 := h1
  omega
theorem exT_tru {u : Nat → Int} (h : TruF exT u) : (20 ≤ u 0 ∧ u 0 ≤ 24) ∧ (8 ≤ u 1 ∧ u 1 ≤ 12) ∧ (9 ≤ u 2 ∧ u 2 ≤ 10) ∧ (6 ≤ u 3 ∧ u 3 ≤ 7) ∧ (0 ≤ u 4 ∧ u 4 ≤ 30) := ⟨h.2 0 (by decide), h.2 1 (by decide), h.2 2 (by decide), h.2 3 (by decide), h.2 4 (by decide)⟩
theorem tru_list {t : List Pt} (T : TW t) {l : List Int} (h : truB t l = true) : TruF t (fu l) := ((truB_iff T).1 h).2
theorem exT_1 : is1 exT = true := (is1_iff exT_W.toTG).2 ⟨_, tru_list exT_W (l := [20, 8, 9, 6, 0]) (by decide +kernel)⟩
theorem ex_w : loV exT (rA 4) = 0 ∧ hiV exT (rA 4) = 6 := by
  have e : ∀ u : Nat → Int, lin (rA 4) u exT.length = 0 + 0 * u 0 + 0 * u 1 + 0 * u 2 + 0 * u 3 + 1 * u 4 := fun u => rfl
  constructor
  · refine loV_eq exT_W.toTG _ (tru_list exT_W (l := [20, 8, 9, 6, 0]) (by decide +kernel)) rfl fun w hw => ?_
    have := exT_tru hw; rw [e]; omega
  · refine hiV_eq exT_W.toTG _ (tru_list exT_W (l := [24, 12, 10, 6, 6]) (by decide +kernel)) rfl fun w hw => ?_
    have := exT_tru hw; have := exT_par hw.1; rw [e]; omega
theorem ex_p : loV exT (rS exT [0, 1]) = 72 ∧ hiV exT (rS exT [0, 1]) = 87 := by
  have e : ∀ u : Nat → Int, lin (rS exT [0, 1]) u exT.length = 0 + 0 * u 0 + 0 * u 1 + 4 * u 2 + 6 * u 3 + 1 * u 4 := fun u => rfl
  constructor
  · refine loV_eq exT_W.toTG _ (tru_list exT_W (l := [20, 8, 9, 6, 0]) (by decide +kernel)) rfl fun w hw => ?_
    have := exT_tru hw; have := exT_par hw.1; rw [e]; omega
  · refine hiV_eq exT_W.toTG _ (tru_list exT_W (l := [24, 12, 10, 7, 5]) (by decide +kernel)) rfl fun w hw => ?_
    have := exT_tru hw; have := exT_par hw.1; rw [e]; omega
theorem ex_p0 : prc exT [] = 40 := by
  have e : ∀ u : Nat → Int, lin (rS exT []) u exT.length = 0 + 2 * u 0 + 0 * u 1 + 0 * u 2 + 0 * u 3 + 0 * u 4 := fun u => rfl
  refine loV_eq exT_W.toTG _ (tru_list exT_W (l := [20, 8, 9, 6, 0]) (by decide +kernel)) rfl fun w hw => ?_
  have := exT_tru hw; rw [e]; omega
theorem ex_p1 : prc exT [0] = 60 := by
  have e : ∀ u : Nat → Int, lin (rS exT [0]) u exT.length = 0 + 0 * u 0 + 3 * u 1 + 4 * u 2 + 0 * u 3 + 0 * u 4 := fun u => rfl
  refine loV_eq exT_W.toTG _ (tru_list exT_W (l := [20, 8, 9, 6, 0]) (by decide +kernel)) rfl fun w hw => ?_
  have := exT_tru hw; have := exT_par hw.1; rw [e]; omega
theorem ex_cut : bcut exT = [0, 1] := by
  have hc : cutsL exT = [[], [0], [0, 1]] := by decide +kernel
  have h2 : prc exT [0, 1] = 72 := ex_p.1
  unfold bcut
  rw [hc]
  simp only [bstC, bst, List.foldl, bstS, if_true, ex_p0, ex_p1, h2]
  rfl
theorem ex_rank : rnk exT [] [0] = 2 := by
  have e : ∀ u : Nat → Int, lin (fun i => rS exT [] i - rS exT [0] i) u exT.length = 0 + (2 - 0) * u 0 + (0 - 3) * u 1 + (0 - 4) * u 2 + (0 - 0) * u 3 + (0 - 0) * u 4 := fun u => rfl
  obtain ⟨⟨u, hu, e1⟩, _⟩ := loV_spec (r := fun i => rS exT [] i - rS exT [0] i) exT_W.toTG exT_1
  obtain ⟨⟨w, hw, e2⟩, _⟩ := hiV_spec (r := fun i => rS exT [] i - rS exT [0] i) exT_W.toTG exT_1
  have h1 : loV exT (fun i => rS exT [] i - rS exT [0] i) ≤ 0 := by
    rw [← e1, e]; have := exT_tru hu; have := exT_par hu.1; omega
  have h2 : hiV exT (fun i => rS exT [] i - rS exT [0] i) ≤ 0 := by
    rw [← e2, e]; have := exT_tru hw; have := exT_par hw.1; omega
  unfold rnk
  rw [if_neg (by omega), if_pos h2]
theorem awy_b {s : Spn} {w : Int} : s.lo - w ≤ awy s w ∧ w - s.hi ≤ awy s w ∧ 0 ≤ awy s w := ⟨Int.le_trans le_mx1 le_mx1, Int.le_trans le_mx2 le_mx1, le_mx2⟩
theorem exU_chg {u : Nat → Int} : chg exU u exU.length = 0 + awy ⟨20, 24⟩ (u 0) + awy ⟨0, 5⟩ (u 1) + awy ⟨9, 10⟩ (u 2) + awy ⟨6, 7⟩ (u 3) + awy ⟨0, 30⟩ (u 4) := rfl
theorem exU_p : PartF exU (fu [19, 6, 10, 6, 0]) := (parB_iff.1 (show parB exU [19, 6, 10, 6, 0] = true by decide +kernel)).2
theorem exU_c : Lst exU (cD exU) = some 2 := by
  have L := LstD exU_W.toTG
  obtain ⟨x, hx, hl⟩ := L.2 2 ⟨_, exU_p, by decide +kernel⟩
  obtain ⟨u, hu, e⟩ := L.1 x hx
  have h := exU_par hu
  rw [exU_chg] at e
  have a0 := @awy_b ⟨20, 24⟩ (u 0); have a1 := @awy_b ⟨0, 5⟩ (u 1); have a2 := @awy_b ⟨9, 10⟩ (u 2); have a3 := @awy_b ⟨6, 7⟩ (u 3); have a4 := @awy_b ⟨0, 30⟩ (u 4)
  simp only at a0 a1 a2 a3 a4
  rw [hx]; congr 1; omega
theorem exU_f : fixV exU = [19, 6, 10, 6, 0] := by
  have hm := exU_c
  obtain ⟨h1, h2⟩ := fix_part exU_W.toTG hm
  have hl : (fixV exU).length = 5 := fixU_len
  have mn := fix_min exU_W.toTG hm (l := [19, 6, 10, 6, 0]) rfl exU_p (by decide +kernel)
  clear hm
  generalize fixV exU = L at h1 h2 hl mn ⊢
  refine ear_total (by rw [hl]; rfl) ?_ mn
  cases he : ear L [19, 6, 10, 6, 0] with
  | false => rfl
  | true =>
    exfalso
    obtain ⟨k, k1, k2, k3, k4⟩ := ear_at he
    have h := exU_par h1
    rw [exU_chg] at h2
    obtain ⟨u, hu⟩ : ∃ u, u = fu L := ⟨_, rfl⟩
    have q : ∀ i, L.getD i 0 = u i := fun i => by rw [hu]
    rw [← hu] at h h2
    have a0 := @awy_b ⟨20, 24⟩ (u 0); have a1 := @awy_b ⟨0, 5⟩ (u 1); have a2 := @awy_b ⟨9, 10⟩ (u 2); have a3 := @awy_b ⟨6, 7⟩ (u 3); have a4 := @awy_b ⟨0, 30⟩ (u 4)
    simp only at a0 a1 a2 a3 a4
    match k, k2 with
    | 0, _ =>
      have k5 : u 0 < 19 := by have := k4; rw [q] at this; exact this
      omega
    | 1, _ =>
      have e0 : u 0 = 19 := by have := k3 0 (by omega); rw [q] at this; exact this
      have k5 : u 1 < 6 := by have := k4; rw [q] at this; exact this
      omega
    | 2, _ =>
      have e0 : u 0 = 19 := by have := k3 0 (by omega); rw [q] at this; exact this
      have e1 : u 1 = 6 := by have := k3 1 (by omega); rw [q] at this; exact this
      have k5 : u 2 < 10 := by have := k4; rw [q] at this; exact this
      omega
    | 3, _ =>
      have e0 : u 0 = 19 := by have := k3 0 (by omega); rw [q] at this; exact this
      have e1 : u 1 = 6 := by have := k3 1 (by omega); rw [q] at this; exact this
      have e2 : u 2 = 10 := by have := k3 2 (by omega); rw [q] at this; exact this
      have k5 : u 3 < 6 := by have := k4; rw [q] at this; exact this
      omega
    | 4, _ =>
      have k5 : u 4 < 0 := by have := k4; rw [q] at this; exact this
      omega

theorem s101 (a b c d e f : Int) (st : Bool) : Iso E 101 [I a, I b, I c, I d, I e, I f] st = some (.agg [I a, I b, I c, I d, I e, I f]) := by
  refine Iso_of (es _ _ _ _) e101 ?_
  simp only [f101]
  simp (disch := first | assumption | omega | (simp only [az]; done)) only [ru, eq_self, if_true, if_false, BEq.rfl, binI, AO.row?, splice, fillL, mmAll, loadV, storeV, zeros, Am.rowAt, Am.part, addOff, Nat.reduceAdd, Nat.reduceMul, Nat.reduceLeDiff, Nat.reduceSub, Nat.reduceLT, Int.reduceEq, Int.reduceLT, Int.reduceLE, Int.reduceGT, Int.reduceGE, Int.reduceAdd, Int.reduceSub, Int.reduceMul, Int.reduceNeg, Int.reduceToNat, reduceCtorEq, reduceIte, finC, getRes, Option.some.injEq, exists_eq_left', view_agg, List.mapM_cons, List.mapM_nil, view_int, Option.bind_eq_bind, Option.pure_def, Option.bind_some, Option.map_some]
theorem s50 {l : List Int} {u v : AV} (U : IsSl 1 intL l u) (V : IsSl 1 intL l v) (hl : l.length ≤ 100000) (st : Bool) : Iso E 50 [u, v] st = some (Bo true) := by
  refine Iso_of (es _ _ _ _) e50 ?_
  simp only [f50]
  simp (disch := first | assumption | omega | (simp only [az]; done)) only [ru, eq_self, if_true, if_false, BEq.rfl, binI, AO.row?, splice, fillL, mmAll, loadV, storeV, zeros, Am.rowAt, Am.part, addOff, Nat.reduceAdd, Nat.reduceMul, Nat.reduceLeDiff, Nat.reduceSub, Nat.reduceLT, Int.reduceEq, Int.reduceLT, Int.reduceLE, Int.reduceGT, Int.reduceGE, Int.reduceAdd, Int.reduceSub, Int.reduceMul, Int.reduceNeg, Int.reduceToNat, reduceCtorEq, reduceIte, lenV_sl U, elem_in U, view_sl U, scalar_sl U, cells_sl U, pure_sl U, Int.toNat_natCast, lenV_sl V, elem_in V, view_sl V, scalar_sl V, cells_sl V, pure_sl V, Int.toNat_natCast, decide_true, Bool.not_true]
  refine G_loop_ind (fun m ts h mk => ∃ i : Nat, i ≤ l.length ∧ m = l.length - i ∧ ts.length = 26 ∧ ts.getD 0 .undef = u ∧ ts.getD 1 .undef = v ∧ ts.getD 5 .undef = I i ∧ h = [] ∧ mk = []) ?_ _ _ _ _ ⟨0, Nat.zero_le _, rfl, rfl, rfl, rfl, rfl, rfl, rfl⟩
  rintro m ts h mk ih ⟨i, hi, rfl, hl', q0, q1, q5, rfl, rfl⟩
  rw [lit_all hl']
  simp only [lit0, litS, Nat.reduceAdd, q0, q1, q5]
  simp (disch := first | assumption | omega | (simp only [az]; done)) only [ru, eq_self, if_true, if_false, BEq.rfl, binI, AO.row?, splice, fillL, mmAll, loadV, storeV, zeros, Am.rowAt, Am.part, addOff, Nat.reduceAdd, Nat.reduceMul, Nat.reduceLeDiff, Nat.reduceSub, Nat.reduceLT, Int.reduceEq, Int.reduceLT, Int.reduceLE, Int.reduceGT, Int.reduceGE, Int.reduceAdd, Int.reduceSub, Int.reduceMul, Int.reduceNeg, Int.reduceToNat, reduceCtorEq, reduceIte, lenV_sl U, elem_in U, view_sl U, scalar_sl U, cells_sl U, pure_sl U, Int.toNat_natCast]
  by_cases hlt : (i : Int) < l.length
  case pos =>
    simp (disch := first | assumption | omega | (simp only [az]; done)) only [ru, eq_self, if_true, if_false, BEq.rfl, binI, AO.row?, splice, fillL, mmAll, loadV, storeV, zeros, Am.rowAt, Am.part, addOff, Nat.reduceAdd, Nat.reduceMul, Nat.reduceLeDiff, Nat.reduceSub, Nat.reduceLT, Int.reduceEq, Int.reduceLT, Int.reduceLE, Int.reduceGT, Int.reduceGE, Int.reduceAdd, Int.reduceSub, Int.reduceMul, Int.reduceNeg, Int.reduceToNat, reduceCtorEq, reduceIte, lenV_sl U, elem_in U, view_sl U, scalar_sl U, cells_sl U, pure_sl U, Int.toNat_natCast, lenV_sl V, elem_in V, view_sl V, scalar_sl V, cells_sl V, pure_sl V, Int.toNat_natCast, hlt, decide_true, Bool.not_true]
    exact ih (l.length - (i + 1)) _ _ _ (by omega) ⟨i + 1, by omega, rfl, rfl, rfl, rfl, rfl, rfl, rfl⟩
  simp (disch := first | assumption | omega | (simp only [az]; done)) only [ru, eq_self, if_true, if_false, BEq.rfl, binI, AO.row?, splice, fillL, mmAll, loadV, storeV, zeros, Am.rowAt, Am.part, addOff, Nat.reduceAdd, Nat.reduceMul, Nat.reduceLeDiff, Nat.reduceSub, Nat.reduceLT, Int.reduceEq, Int.reduceLT, Int.reduceLE, Int.reduceGT, Int.reduceGE, Int.reduceAdd, Int.reduceSub, Int.reduceMul, Int.reduceNeg, Int.reduceToNat, reduceCtorEq, reduceIte, hlt]
abbrev exTv : AV := slV 6 Pt.e exT
abbrev exUv : AV := slV 6 Pt.e exU
theorem exT_ok : TbOk exT exTv := ⟨slV_is, by decide⟩
theorem exU_ok : TbOk exU exUv := ⟨slV_is, by decide⟩
theorem s65 : Iso E 65 [] false = some (.tup [exTv, exUv]) := by
  have eT : AV.cs 6 5 (exT.flatMap Pt.e) = exTv := rfl
  obtain ⟨o, h', A, fr, ho, hc⟩ := cpyO (eb := 48) (lim := 0) (h := ([] : List AO)) (slV_is (esz := 6) (enc := Pt.e) (l := exT)) Pt.el Pt.sc (by decide) (by omega) (Nat.zero_le _)
  simp only [apN, len0, List.nil_append, List.length_nil] at A
  have tl : exT.length = 5 := rfl
  rw [tl] at A
  have ol := (List.getElem?_eq_some_iff.1 hc).1
  have hcl : (exT.flatMap Pt.e).length = 30 := rfl
  have fin : (exT.flatMap Pt.e).take (1 * 6) ++ [I 0, I 0, I 5, I 0, I 2, I 3] ++ (exT.flatMap Pt.e).drop (1 * 6 + 6) = exU.flatMap Pt.e := rfl
  have fin2 : (exT.flatMap Pt.e).take 6 ++ I 0 :: I 0 :: I 5 :: I 0 :: I 2 :: I 3 :: (exT.flatMap Pt.e).drop 12 = exU.flatMap Pt.e := rfl
  have vw := RdC.view (enc := Pt.e) (esz := 6) (l := exU) (h := h'.set o (.cells (exU.flatMap Pt.e) false)) (w := .ms 6 o 0 5) ⟨o, rfl, by rw [List.getElem?_set_self ol]⟩ Pt.el Pt.iv (st := false) (k := 6)
  have lt1 : (1 : Int) < ((5 : Nat) : Int) := by decide
  have fit : 1 * 6 + 6 ≤ (exT.flatMap Pt.e).length := by decide
  have fit2 : 12 ≤ (exT.flatMap Pt.e).length := by decide
  obtain ⟨Z, hZ⟩ : ∃ Z, Z = exT.flatMap Pt.e := ⟨_, rfl⟩
  have lz : [I (-1), I 20, I 24, I 1, I 3, I 2, I 0, I 8, I 12, I 0, I 2, I 3, I 0, I 9, I 10, I 0, I 0, I 4, I 1, I 6, I 7, I 0, I 0, I 6, I 1, I 0, I 30, I 0, I 0, I 1] = Z := by rw [hZ]; rfl
  have eT2 : AV.cs 6 5 Z = exTv := by rw [hZ]; rfl
  rw [← hZ] at hc fit2 fin2
  have A2 : appV 0 [AO.cells [] false] 6 48 (.ms 6 0 0 0) (.cs 6 5 Z) = some (.ms 6 o 0 5, h') := by rw [eT2]; exact A
  have i1 : (1 : Int).toNat * 6 = 6 := rfl
  have vT : ∀ h : List AO, view false h 7 exTv = some exTv := fun h => by rw [← eT, view_cs]
  have pz : AV.pureV.go Z = true := by rw [hZ]; rfl
  refine Iso_of (es _ _ _ _) e65 ?_
  simp only [f65]
  simp (disch := first | assumption | omega | (simp only [az]; done)) only [ru, eq_self, if_true, if_false, BEq.rfl, binI, AO.row?, splice, fillL, mmAll, loadV, storeV, zeros, Am.rowAt, Am.part, addOff, Nat.reduceAdd, Nat.reduceMul, Nat.reduceLeDiff, Nat.reduceSub, Nat.reduceLT, Int.reduceEq, Int.reduceLT, Int.reduceLE, Int.reduceGT, Int.reduceGE, Int.reduceAdd, Int.reduceSub, Int.reduceMul, Int.reduceNeg, Int.reduceToNat, reduceCtorEq, reduceIte, s101, exOp_litS, AV.pureV.go, AV.pureV, Bool.and_true, lz, pz, A, elemAt_ms, lt1, i1, Nat.zero_add, hc, fit2, List.append_assoc, fin2, vw, view_tup, List.mapM_cons, List.mapM_nil, Option.bind_eq_bind, Option.pure_def, Option.bind_some, Option.map_some, vT, eT2]
end Go.Proofs.Yteonklnjchefiaa.S

/-
The chapter's examples hold; ready tables.
-/
namespace Go.Proofs.Yteonklnjchefiaa.S
open Go Go.Am Go.Proofs.Yteonklnjchefiaa.T
set_option maxRecDepth 100000
set_option linter.unusedSimpArgs false
set_option linter.unusedVariables false

theorem s18 : Iso E 18 [] false = some (Bo true) := by
  have V01 : IsSl 1 intL [0, 1] (.cs 1 2 [I 0, I 1]) := .inl rfl
  have V0 : IsSl 1 intL [0] (.cs 1 1 [I 0]) := .inl rfl
  have V5 : IsSl 1 intL [19, 6, 10, 6, 0] (.cs 1 5 [I 19, I 6, I 10, I 6, I 0]) := .inl rfl
  have VN : IsSl 1 intL [] .nils := .inr ⟨rfl, rfl⟩
  have c01 : cutB exT [0, 1] = true := by decide +kernel
  have c0 : cutB exT [0] = true := by decide +kernel
  have cN : cutB exT [] = true := by decide +kernel
  have i4 : inR 4 0 (exT.length - 1) = true := rfl
  have n4 : (4 : Int).toNat = 4 := rfl
  have a1 : ∀ st, Iso E 32 [exTv, I 4] st = some (.tup [.agg [I 0, I 6], I 0]) := fun st => by
    rw [s32 exT_ok]; simp only [askR, exT_v, i4, n4, if_true, btw, exT_1, ex_w.1, ex_w.2]
  have a2 : ∀ st, Iso E 27 [exTv, .cs 1 2 [I 0, I 1]] st = some (.tup [.agg [I 72, I 87], I 0]) := fun st => by
    rw [s27 exT_ok V01 (by decide)]; simp only [askR, exT_v, c01, if_true, btw, exT_1, ex_p.1, ex_p.2]
  have a3 : Iso E 46 [exTv] false = some (.tup [.cs 1 2 [I 0, I 1], I 0]) := by
    rw [s46 exT_ok]; simp only [cutO, exT_v, if_true, exT_1, ex_cut]; rfl
  have a4 : ∀ st, Iso E 43 [exUv] st = some (.tup [I 2, I 0]) := fun st => by
    rw [s43 exU_ok]; simp only [chaR, exU_v, if_true, exU_c]
  have a5 : Iso E 39 [exUv] false = some (.tup [.cs 1 5 [I 19, I 6, I 10, I 6, I 0], I 0]) := by
    rw [s39 exU_ok]; simp only [fixR, exU_v, if_true, exU_c, exU_f]; rfl
  have a6 : ∀ st, Iso E 28 [exTv, .nils, .cs 1 1 [I 0]] st = some (.tup [I 2, I 0]) := fun st => by
    rw [s28 exT_ok VN (by decide) V0 (by decide)]; simp only [rnkR, exT_v, cN, c0, Bool.and_true, if_true, exT_1, ex_rank]
  have a7 := fun st => s50 V01 V01 (by decide) st
  have a8 := fun st => s50 V5 V5 (by decide) st
  have a0 := s65
  obtain ⟨tv, ht⟩ : ∃ tv, tv = exTv := ⟨_, rfl⟩
  obtain ⟨uv, hu⟩ : ∃ uv, uv = exUv := ⟨_, rfl⟩
  rw [← ht] at a1 a2 a3 a6 a0
  rw [← hu] at a4 a5 a0
  have HT : TbOk exT tv := by rw [ht]; exact exT_ok
  have HU : TbOk exU uv := by rw [hu]; exact exU_ok
  refine Iso_of (es _ _ _ _) e18 ?_
  simp only [f18]
  simp (disch := first | assumption | omega | (simp only [az]; done)) only [ru, eq_self, if_true, if_false, BEq.rfl, binI, AO.row?, splice, fillL, mmAll, loadV, storeV, zeros, Am.rowAt, Am.part, addOff, Nat.reduceAdd, Nat.reduceMul, Nat.reduceLeDiff, Nat.reduceSub, Nat.reduceLT, Int.reduceEq, Int.reduceLT, Int.reduceLE, Int.reduceGT, Int.reduceGE, Int.reduceAdd, Int.reduceSub, Int.reduceMul, Int.reduceNeg, Int.reduceToNat, reduceCtorEq, reduceIte, lenV_sl HT.i, elem_pt HT.i, view_sl HT.i, scalar_sl HT.i, cells_sl HT.i, pure_sl HT.i, Int.toNat_natCast, lenV_sl HU.i, elem_pt HU.i, view_sl HU.i, scalar_sl HU.i, cells_sl HU.i, pure_sl HU.i, Int.toNat_natCast, a0, a1, a2, a3, a4, a5, a6, a7, a8, exOp_litS, AV.pureV.go, AV.pureV, Bool.and_true, decide_true]
  done
section
variable {t : List Pt} {v : AV}
/-- a table that is handed in -/
structure TbIn (t : List Pt) (v : AV) : Prop where
  i : IsSl 6 Pt.e t v
end
end Go.Proofs.Yteonklnjchefiaa.S

/-
The inputs of the laws of stage 7, as the abstract machine has them.
-/
namespace Go.Proofs.Yteonklnjchefiaa.S
open Go Go.Am Go.Proofs.Yteonklnjchefiaa.T
set_option linter.unusedVariables false
set_option maxRecDepth 100000

theorem z3 : Try.prog.cellsOf 3 = 1 := by kernel_rfl
theorem z33 : Try.prog.cellsOf 33 = 2 := by kernel_rfl
theorem z41 : Try.prog.cellsOf 41 = 6 := by kernel_rfl
theorem wfIc {d : Nat} {c : List AV} (h : WfC Try.prog (d + 1) 3 c) : ∃ i, c = [I i] ∧ True := by
  obtain ⟨i, e, hw⟩ := wf_int Try.underlying3 h
  exact ⟨i, e, trivial⟩
theorem wfI {d : Nat} {a : AV} (h : WfC Try.prog (d + 1) 3 [a]) : ∃ i, a = I i ∧ True := by
  obtain ⟨i, e, _⟩ := wfIc h
  simp only [List.cons.injEq, and_true] at e
  exact ⟨i, e, trivial⟩
theorem wfSpn {d : Nat} {c : List AV} (h : WfC Try.prog (d + 2) 33 c) : ∃ x y, c = [I x, I y] ∧ True := by
  obtain ⟨hl, hf⟩ := wf_struct Try.underlying33 h
  rw [z33] at hl
  match c, hl with
  | [x, y], _ =>
    have h0 : WfC Try.prog (d + 1) 3 (([x, y].drop 0).take (Try.prog.cellsOf 3)) := hf 0 _ rfl
    have h1 : WfC Try.prog (d + 1) 3 (([x, y].drop 1).take (Try.prog.cellsOf 3)) := hf 1 _ rfl
    rw [z3] at h0 h1
    obtain ⟨i, rfl, _⟩ := wfI (show WfC Try.prog (d + 1) 3 [x] from h0)
    obtain ⟨j, rfl, _⟩ := wfI (show WfC Try.prog (d + 1) 3 [y] from h1)
    exact ⟨i, j, rfl, trivial⟩
theorem wfPt {d : Nat} {c : List AV} (h : WfC Try.prog (d + 3) 41 c) : ∃ s : Pt, c = s.e ∧ True := by
  obtain ⟨hl, hf⟩ := wf_struct Try.underlying41 h
  rw [z41] at hl
  match c, hl with
  | [x, y, z, u, v, w], _ =>
    have h0 : WfC Try.prog (d + 2) 3 (([x, y, z, u, v, w].drop 0).take (Try.prog.cellsOf 3)) := hf 0 _ rfl
    have h1 : WfC Try.prog (d + 2) 33 (([x, y, z, u, v, w].drop 1).take (Try.prog.cellsOf 33)) := hf 1 _ rfl
    have h2 : WfC Try.prog (d + 2) 33 (([x, y, z, u, v, w].drop 3).take (Try.prog.cellsOf 33)) := hf 2 _ rfl
    have h3 : WfC Try.prog (d + 2) 3 (([x, y, z, u, v, w].drop 5).take (Try.prog.cellsOf 3)) := hf 3 _ rfl
    rw [z3] at h0 h3
    rw [z33] at h1 h2
    obtain ⟨i, rfl, _⟩ := wfI (show WfC Try.prog (d + 1 + 1) 3 [x] from h0)
    obtain ⟨a, b, e1, _⟩ := wfSpn (show WfC Try.prog (d + 2) 33 [y, z] from h1)
    obtain ⟨a', b', e2, _⟩ := wfSpn (show WfC Try.prog (d + 2) 33 [u, v] from h2)
    obtain ⟨j, rfl, _⟩ := wfI (show WfC Try.prog (d + 1 + 1) 3 [w] from h3)
    simp only [List.cons.injEq, and_true] at e1 e2
    obtain ⟨rfl, rfl⟩ := e1
    obtain ⟨rfl, rfl⟩ := e2
    exact ⟨⟨i, ⟨a, b⟩, ⟨a', b'⟩, j⟩, rfl, trivial⟩
theorem wfTab {d : Nat} {c : List AV} (h : WfC Try.prog (d + 4) 22 c) : ∃ (l : List Pt) (v : AV), c = [v] ∧ TbIn l v := by
  obtain ⟨l, v, e, iv, _⟩ := wf_sl (d := d + 3) (enc := Pt.e) (p := fun _ => True) Try.underlying22 z41 (fun c hc => wfPt hc) h
  exact ⟨l, v, e, ⟨iv⟩⟩
theorem own : ownKnob Try.prog.godebug = none := by kernel_rfl
theorem laid : laidOutB Try.prog = true := by kernel_rfl
end Go.Proofs.Yteonklnjchefiaa.S

