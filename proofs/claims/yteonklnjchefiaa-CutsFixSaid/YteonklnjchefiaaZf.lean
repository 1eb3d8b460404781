/-
The specification: Change, Changed and Fix.
-/
import Derived.Test.YteonklnjchefiaaZe
namespace Go.Proofs.Yteonklnjchefiaa.S
open Go Go.Am Go.Proofs.Yteonklnjchefiaa.T
set_option maxRecDepth 100000
set_option linter.unusedSimpArgs false
set_option linter.unusedVariables false

section
variable {t : List Pt} {v : AV}
theorem awy_30 {s : Spn} {b : Nat} (hs : 0 ≤ s.lo ∧ s.lo ≤ s.hi ∧ s.hi ≤ 30) (hb : b < 31) : 0 ≤ awy s b ∧ awy s b ≤ 30 :=
  ⟨awy_nn, mx_le (mx_le (by omega) (by omega)) (by omega)⟩
theorem aI_rp (T : TW t) {i : Nat} (hi : i < t.length) {b : Nat} (hb : b < 31) : Rp 3000 (aI t i b) (cD t i b) := by
  have h := awy_30 (T.w i hi) hb
  unfold aI cD
  rw [if_pos (by omega)]
  exact ⟨fun v hv => by simp only [Option.some.injEq] at hv; omega, (fun e => by cases e)⟩
def ptE (t : List Pt) (q : Bool) : Int := if tval t then (if q then (if (Lst t (cD t)).isSome then 0 else 3) else 1) else 70
/-- the least change, as the specification finds it -/
theorem s79D (H : TbOk t v) (T : TW t) {w : AV} (W : IsSl 1 resE (rowsL t.length (aI t)) w) : ∃ x, (∀ st, Iso E 79 [v, w] st = some (I x)) ∧ RpT x (Lst t (cD t)) := s79 H T.toTG (c := cD t) (F := aI t) (fun i hi b hb => aI_rp T hi hb) W
theorem s95 (H : TbOk t v) (q : Bool) (st : Bool) : Iso E 95 [v, Bo q] st = some (I (ptE t q)) := by
  have g := fun st => s123 H q st
  refine Iso_of (es _ _ _ _) e95 ?_
  simp only [f95, ptE]
  cases hv : tval t
  · simp only [hv, aC, Bool.false_eq_true, if_false] at g
    simp (disch := first | assumption | omega | (simp only [az]; done)) only [ru, eq_self, if_true, if_false, BEq.rfl, binI, AO.row?, splice, fillL, mmAll, loadV, storeV, zeros, Am.rowAt, Am.part, addOff, Nat.reduceAdd, Nat.reduceMul, Nat.reduceLeDiff, Nat.reduceSub, Nat.reduceLT, Int.reduceEq, Int.reduceLT, Int.reduceLE, Int.reduceGT, Int.reduceGE, Int.reduceAdd, Int.reduceSub, Int.reduceMul, Int.reduceNeg, Int.reduceToNat, reduceCtorEq, reduceIte, lenV_sl H.i, elem_pt H.i, view_sl H.i, scalar_sl H.i, cells_sl H.i, pure_sl H.i, Int.toNat_natCast, g, decide_true, decide_false, Bool.false_eq_true]
    done
  have T := tval_W hv
  have g96 := fun st => s96 H T st
  obtain ⟨w, hw⟩ : ∃ w, w = resLL (rowsL t.length (aI t)) := ⟨_, rfl⟩
  have W : IsSl 1 resE (rowsL t.length (aI t)) w := by rw [hw]; exact resLL_is _
  rw [← hw] at g96
  obtain ⟨x, g79, hx⟩ := s79D H T W
  have e : decide (x < 549755813888) = (Lst t (cD t)).isSome := by
    cases h : Lst t (cD t) with
    | none => have := hx.2.1 h; exact decide_eq_false (by omega)
    | some u =>
      have := hx.1 u h
      have := sm_small T.toTG (cD_bd T) h
      exact decide_eq_true (by omega)
  cases q
  · simp only [hv, aC, Bool.false_eq_true, if_false, if_true] at g
    simp (disch := first | assumption | omega | (simp only [az]; done)) only [ru, eq_self, if_true, if_false, BEq.rfl, binI, AO.row?, splice, fillL, mmAll, loadV, storeV, zeros, Am.rowAt, Am.part, addOff, Nat.reduceAdd, Nat.reduceMul, Nat.reduceLeDiff, Nat.reduceSub, Nat.reduceLT, Int.reduceEq, Int.reduceLT, Int.reduceLE, Int.reduceGT, Int.reduceGE, Int.reduceAdd, Int.reduceSub, Int.reduceMul, Int.reduceNeg, Int.reduceToNat, reduceCtorEq, reduceIte, lenV_sl H.i, elem_pt H.i, view_sl H.i, scalar_sl H.i, cells_sl H.i, pure_sl H.i, Int.toNat_natCast, g, decide_true, decide_false, Bool.false_eq_true]
    done
  simp only [hv, aC, if_true] at g
  cases hs : (Lst t (cD t)).isSome
  · rw [hs] at e
    simp (disch := first | assumption | omega | (simp only [az]; done)) only [ru, eq_self, if_true, if_false, BEq.rfl, binI, AO.row?, splice, fillL, mmAll, loadV, storeV, zeros, Am.rowAt, Am.part, addOff, Nat.reduceAdd, Nat.reduceMul, Nat.reduceLeDiff, Nat.reduceSub, Nat.reduceLT, Int.reduceEq, Int.reduceLT, Int.reduceLE, Int.reduceGT, Int.reduceGE, Int.reduceAdd, Int.reduceSub, Int.reduceMul, Int.reduceNeg, Int.reduceToNat, reduceCtorEq, reduceIte, lenV_sl H.i, elem_pt H.i, view_sl H.i, scalar_sl H.i, cells_sl H.i, pure_sl H.i, Int.toNat_natCast, lenV_sl W, view_sl W, scalar_sl W, cells_sl W, pure_sl W, g, g96, g79, s78, e, decide_true, decide_false, Bool.not_false, Bool.not_true, Bool.false_eq_true]
    done
  · rw [hs] at e
    simp (disch := first | assumption | omega | (simp only [az]; done)) only [ru, eq_self, if_true, if_false, BEq.rfl, binI, AO.row?, splice, fillL, mmAll, loadV, storeV, zeros, Am.rowAt, Am.part, addOff, Nat.reduceAdd, Nat.reduceMul, Nat.reduceLeDiff, Nat.reduceSub, Nat.reduceLT, Int.reduceEq, Int.reduceLT, Int.reduceLE, Int.reduceGT, Int.reduceGE, Int.reduceAdd, Int.reduceSub, Int.reduceMul, Int.reduceNeg, Int.reduceToNat, reduceCtorEq, reduceIte, lenV_sl H.i, elem_pt H.i, view_sl H.i, scalar_sl H.i, cells_sl H.i, pure_sl H.i, Int.toNat_natCast, lenV_sl W, view_sl W, scalar_sl W, cells_sl W, pure_sl W, g, g96, g79, s78, e, decide_true, decide_false, Bool.not_false, Bool.not_true, Bool.false_eq_true]
    done
theorem s58 (H : TbOk t v) (st : Bool) : Iso E 58 [v] st = some (chaR t) := by
  have g := fun st => s95 H true st
  refine Iso_of (es _ _ _ _) e58 ?_
  simp only [f58, chaR]
  cases hv : tval t
  · simp only [hv, ptE, Bool.false_eq_true, if_false] at g
    simp (disch := first | assumption | omega | (simp only [az]; done)) only [ru, eq_self, if_true, if_false, BEq.rfl, binI, AO.row?, splice, fillL, mmAll, loadV, storeV, zeros, Am.rowAt, Am.part, addOff, Nat.reduceAdd, Nat.reduceMul, Nat.reduceLeDiff, Nat.reduceSub, Nat.reduceLT, Int.reduceEq, Int.reduceLT, Int.reduceLE, Int.reduceGT, Int.reduceGE, Int.reduceAdd, Int.reduceSub, Int.reduceMul, Int.reduceNeg, Int.reduceToNat, reduceCtorEq, reduceIte, lenV_sl H.i, elem_pt H.i, view_sl H.i, scalar_sl H.i, cells_sl H.i, pure_sl H.i, Int.toNat_natCast, g, decide_true, decide_false, Bool.false_eq_true]
    done
  have T := tval_W hv
  cases hm : Lst t (cD t) with
  | none =>
    simp only [hv, ptE, hm, Option.isSome, Bool.false_eq_true, if_false, if_true] at g
    simp (disch := first | assumption | omega | (simp only [az]; done)) only [ru, eq_self, if_true, if_false, BEq.rfl, binI, AO.row?, splice, fillL, mmAll, loadV, storeV, zeros, Am.rowAt, Am.part, addOff, Nat.reduceAdd, Nat.reduceMul, Nat.reduceLeDiff, Nat.reduceSub, Nat.reduceLT, Int.reduceEq, Int.reduceLT, Int.reduceLE, Int.reduceGT, Int.reduceGE, Int.reduceAdd, Int.reduceSub, Int.reduceMul, Int.reduceNeg, Int.reduceToNat, reduceCtorEq, reduceIte, lenV_sl H.i, elem_pt H.i, view_sl H.i, scalar_sl H.i, cells_sl H.i, pure_sl H.i, Int.toNat_natCast, g, decide_true, decide_false, Bool.false_eq_true]
    done
  | some m =>
    simp only [hv, ptE, hm, Option.isSome, Bool.false_eq_true, if_false, if_true] at g
    have g96 := fun st => s96 H T st
    obtain ⟨w, hw⟩ : ∃ w, w = resLL (rowsL t.length (aI t)) := ⟨_, rfl⟩
    have W : IsSl 1 resE (rowsL t.length (aI t)) w := by rw [hw]; exact resLL_is _
    rw [← hw] at g96
    obtain ⟨x, g79, hx⟩ := s79D H T W
    have ex := hx.1 m hm
    rw [ex] at g79
    simp (disch := first | assumption | omega | (simp only [az]; done)) only [ru, eq_self, if_true, if_false, BEq.rfl, binI, AO.row?, splice, fillL, mmAll, loadV, storeV, zeros, Am.rowAt, Am.part, addOff, Nat.reduceAdd, Nat.reduceMul, Nat.reduceLeDiff, Nat.reduceSub, Nat.reduceLT, Int.reduceEq, Int.reduceLT, Int.reduceLE, Int.reduceGT, Int.reduceGE, Int.reduceAdd, Int.reduceSub, Int.reduceMul, Int.reduceNeg, Int.reduceToNat, reduceCtorEq, reduceIte, lenV_sl H.i, elem_pt H.i, view_sl H.i, scalar_sl H.i, cells_sl H.i, pure_sl H.i, Int.toNat_natCast, lenV_sl W, view_sl W, scalar_sl W, cells_sl W, pure_sl W, g, g96, g79, decide_true, decide_false, Bool.false_eq_true]
    done

/-! costs of changes by which one part is kept, or is changed -/
def kI (t : List Pt) (p : Nat) (sb : Bool) (i b : Nat) : Int := if i = p ∧ sb ≠ decide (aI t i b = 0) then NV else aI t i b
theorem kI_rp (T : TW t) {p : Nat} {sb : Bool} {i : Nat} (hi : i < t.length) {b : Nat} (hb : b < 31) : Rp 3000 (kI t p sb i b) (cK t p sb i b) := by
  unfold kI cK
  by_cases c : i = p ∧ sb ≠ decide (aI t i b = 0)
  · rw [if_pos c, if_pos ⟨by omega, c.2⟩]
    exact ⟨(fun v hv => by cases hv), fun _ => by show NV - 3000 ≤ NV ∧ NV ≤ NV + 3000; omega⟩
  · rw [if_neg c, if_neg (fun h => c ⟨by omega, h.2⟩)]
    exact aI_rp T hi hb
theorem kI_ne {p : Nat} {sb : Bool} {i b : Nat} (h : i ≠ p) : kI t p sb i b = aI t i b := if_neg (fun c => h c.1)
/-- a table of which of one row so much is written -/
def rowT (F G : Nat → Nat → Int) (p b : Nat) : Nat → Nat → Int := fun k y => if k = p ∧ y < b then F k y else G k y
theorem row_put {F G : Nat → Nat → Int} {p b : Nat} {c : Int} (hb : b < 31) {Z : List AV} (hZ : Z = rw_ 31 (rowT F G p b p)) (hc : c = F p b) : Z.take b ++ I c :: Z.drop (b + 1) = rw_ 31 (rowT F G p (b + 1) p) := by
  have : Z.take b ++ [I c] ++ Z.drop (b + 1) = rw_ 31 (rowT F G p (b + 1) p) := by
    rw [hZ]
    refine rw_put hb fun y hy => ?_
    unfold rowT
    by_cases e : y = b
    · subst e; rw [if_pos rfl, if_pos ⟨rfl, by omega⟩, hc]
    · rw [if_neg e]; by_cases e2 : p = p ∧ y < b
      · rw [if_pos e2, if_pos ⟨rfl, by omega⟩]
      · rw [if_neg e2, if_neg (by omega)]
  simpa using this
theorem row_ne {F G : Nat → Nat → Int} {p b c k y : Nat} (h : k ≠ p) : rowT F G p b k y = rowT F G p c k y := by
  unfold rowT; rw [if_neg (fun e => h e.1), if_neg (fun e => h e.1)]
theorem row_same {F G : Nat → Nat → Int} {p b : Nat} (h : F p b = G p b) {k y : Nat} : rowT F G p b k y = rowT F G p (b + 1) k y := by
  unfold rowT
  by_cases e : k = p ∧ y = b
  · obtain ⟨rfl, rfl⟩ := e
    rw [if_neg (by omega), if_pos ⟨rfl, by omega⟩, h]
  · by_cases e2 : k = p ∧ y < b
    · rw [if_pos e2, if_pos ⟨e2.1, by omega⟩]
    · rw [if_neg e2, if_neg (by omega)]
set_option maxHeartbeats 8000000 in
theorem s60 (H : TbOk t v) (i : Int) (st : Bool) : Iso E 60 [v, I i] st = some (chdR t i) := by
  have sp := H.n
  have nvv : NV = 1099511627776 := rfl
  have g31 := fun st => s31 H i st
  have g := fun q st => s95 H q st
  refine Iso_of (es _ _ _ _) e60 ?_
  simp only [f60, chdR]
  cases hv : tval t
  · simp only [hv, ptE, Bool.false_eq_true, if_false] at g
    simp (disch := first | assumption | omega | (simp only [az]; done)) only [ru, eq_self, if_true, if_false, BEq.rfl, binI, AO.row?, splice, fillL, mmAll, loadV, storeV, zeros, Am.rowAt, Am.part, addOff, Nat.reduceAdd, Nat.reduceMul, Nat.reduceLeDiff, Nat.reduceSub, Nat.reduceLT, Int.reduceEq, Int.reduceLT, Int.reduceLE, Int.reduceGT, Int.reduceGE, Int.reduceAdd, Int.reduceSub, Int.reduceMul, Int.reduceNeg, Int.reduceToNat, reduceCtorEq, reduceIte, lenV_sl H.i, elem_pt H.i, view_sl H.i, scalar_sl H.i, cells_sl H.i, pure_sl H.i, Int.toNat_natCast, g31, g, decide_true, decide_false, Bool.false_eq_true]
    done
  have T := tval_W hv
  have n8 := T.n
  cases hq : inR i 0 (t.length - 1)
  · simp only [hq] at g31
    simp only [hv, ptE, if_true] at g
    simp (disch := first | assumption | omega | (simp only [az]; done)) only [ru, eq_self, if_true, if_false, BEq.rfl, binI, AO.row?, splice, fillL, mmAll, loadV, storeV, zeros, Am.rowAt, Am.part, addOff, Nat.reduceAdd, Nat.reduceMul, Nat.reduceLeDiff, Nat.reduceSub, Nat.reduceLT, Int.reduceEq, Int.reduceLT, Int.reduceLE, Int.reduceGT, Int.reduceGE, Int.reduceAdd, Int.reduceSub, Int.reduceMul, Int.reduceNeg, Int.reduceToNat, reduceCtorEq, reduceIte, lenV_sl H.i, elem_pt H.i, view_sl H.i, scalar_sl H.i, cells_sl H.i, pure_sl H.i, Int.toNat_natCast, g31, g, decide_true, decide_false, Bool.false_eq_true]
    done
  simp only [hq] at g31
  cases hm : Lst t (cD t) with
  | none =>
    simp only [hv, ptE, hm, Option.isSome, Bool.false_eq_true, if_false, if_true] at g
    simp (disch := first | assumption | omega | (simp only [az]; done)) only [ru, eq_self, if_true, if_false, BEq.rfl, binI, AO.row?, splice, fillL, mmAll, loadV, storeV, zeros, Am.rowAt, Am.part, addOff, Nat.reduceAdd, Nat.reduceMul, Nat.reduceLeDiff, Nat.reduceSub, Nat.reduceLT, Int.reduceEq, Int.reduceLT, Int.reduceLE, Int.reduceGT, Int.reduceGE, Int.reduceAdd, Int.reduceSub, Int.reduceMul, Int.reduceNeg, Int.reduceToNat, reduceCtorEq, reduceIte, lenV_sl H.i, elem_pt H.i, view_sl H.i, scalar_sl H.i, cells_sl H.i, pure_sl H.i, Int.toNat_natCast, g31, g, decide_true, decide_false, Bool.false_eq_true]
    done
  | some m =>
  simp only [hv, ptE, hm, Option.isSome, Bool.false_eq_true, if_false, if_true] at g
  obtain ⟨i0, i1⟩ := inR_iff.1 hq
  obtain ⟨p, rfl⟩ : ∃ n : Nat, i = n := ⟨i.toNat, by omega⟩
  have hp : p < t.length := by omega
  have plt : (p : Int) < t.length := by omega
  have hn : 0 < t.length := by omega
  simp only [Int.toNat_natCast]
  obtain ⟨w0, h1, hr0, f0, T0⟩ := r96 H T (h := []) (lim := 0) (Nat.zero_le _)
  obtain ⟨w1, h2, hr1, f1, T1⟩ := r96 H T (h := h1) (lim := 0) (Nat.zero_le _)
  obtain ⟨w2, h3, hr2, f2, T2⟩ := r96 H T (h := h2) (lim := 0) (Nat.zero_le _)
  have v0 := fun st => T0.view st 6
  have sc0 := T0.sc
  obtain ⟨aw, haw⟩ : ∃ w, w = resLL (rowsL t.length (aI t)) := ⟨_, rfl⟩
  have AW : IsSl 1 resE (rowsL t.length (aI t)) aw := by rw [haw]; exact resLL_is _
  rw [← haw] at v0
  obtain ⟨x0, g0, hx0⟩ := s79D H T AW
  obtain rfl := hx0.1 m hm
  obtain ⟨iw, hiw⟩ : ∃ w, w = resLL (rowsL t.length (kI t p true)) := ⟨_, rfl⟩
  have IW : IsSl 1 resE (rowsL t.length (kI t p true)) iw := by rw [hiw]; exact resLL_is _
  obtain ⟨ow, how⟩ : ∃ w, w = resLL (rowsL t.length (kI t p false)) := ⟨_, rfl⟩
  have OW : IsSl 1 resE (rowsL t.length (kI t p false)) ow := by rw [how]; exact resLL_is _
  obtain ⟨x1, g1, hx1⟩ := s79 H T.toTG (c := cK t p true) (F := kI t p true) (fun i hi b hb => kI_rp T hi hb) IW
  obtain ⟨x2, g2, hx2⟩ := s79 H T.toTG (c := cK t p false) (F := kI t p false) (fun i hi b hb => kI_rp T hi hb) OW
  have ms := sm_small T.toTG (cD_bd T) hm
  have key : ∀ {sb : Bool} {y : Int}, RpT y (Lst t (cK t p sb)) → (y > x0 ↔ Lst t (cK t p sb) ≠ some x0) := fun {sb y} hy => by
    rcases cK_ge T.toTG hm hp (sb := sb) with ⟨u, hu, hle⟩ | hno
    · have := hy.1 u hu
      rw [hu]
      constructor
      · intro h e; simp only [Option.some.injEq] at e; omega
      · intro h
        have : u ≠ x0 := fun e => h (by rw [e])
        omega
    · have := hy.2.1 hno
      rw [hno]
      exact ⟨fun _ => by simp, fun _ => by omega⟩
  have k1 := key hx1
  have k2 := key hx2
  have cd : chdV t p = if x1 > x0 then 1 else if x2 > x0 then 2 else 3 := by
    unfold chdV
    rw [hm]
    by_cases c1 : x1 > x0
    · rw [if_pos c1, if_pos (k1.1 c1)]
    · rw [if_neg c1, if_neg (fun h => c1 (k1.2 h))]
      by_cases c2 : x2 > x0
      · rw [if_pos c2, if_pos (k2.1 c2)]
      · rw [if_neg c2, if_neg (fun h => c2 (k2.2 h))]
  rw [cd]
  rcases T1 with ⟨h0, _⟩ | ⟨_, o1, q1, rfl, T1⟩
  · omega
  rcases T2 with ⟨h0, _⟩ | ⟨_, o2, q2, rfl, T2⟩
  · omega
  have T1' := T1.fr (h' := h3) fun j h1 h2 => f2.k j h2
  simp (disch := first | assumption | omega | (simp only [az]; done)) only [ru, eq_self, if_true, if_false, BEq.rfl, binI, AO.row?, splice, fillL, mmAll, loadV, storeV, zeros, Am.rowAt, Am.part, addOff, Nat.reduceAdd, Nat.reduceMul, Nat.reduceLeDiff, Nat.reduceSub, Nat.reduceLT, Int.reduceEq, Int.reduceLT, Int.reduceLE, Int.reduceGT, Int.reduceGE, Int.reduceAdd, Int.reduceSub, Int.reduceMul, Int.reduceNeg, Int.reduceToNat, reduceCtorEq, reduceIte, lenV_sl H.i, elem_pt H.i, view_sl H.i, scalar_sl H.i, cells_sl H.i, pure_sl H.i, Int.toNat_natCast, lenV_sl AW, view_sl AW, scalar_sl AW, cells_sl AW, pure_sl AW, g31, g, exOp_call0, hr0, v0, sc0.1, sc0.2, g0, hr1, hr2, decide_true, decide_false]
  refine G_loop_ind (fun z ts hh mk => ∃ b : Nat, b ≤ 31 ∧ z = 31 - b ∧ TabN h1.length h2.length hh t.length o1 q1 (rowT (kI t p true) (aI t) p b) ∧ TabN h2.length h3.length hh t.length o2 q2 (rowT (kI t p false) (aI t) p b) ∧ ts.length = 63 ∧ ts.getD 0 .undef = v ∧ ts.getD 1 .undef = I p ∧ ts.getD 7 .undef = I x0 ∧ ts.getD 8 .undef = .ms 1 o1 0 t.length ∧ ts.getD 9 .undef = .ms 1 o2 0 t.length ∧ ts.getD 10 .undef = I b ∧ mk = []) ?_ _ _ _ _
    ⟨0, Nat.zero_le _, rfl, T1'.congr (fun k _ y _ => by unfold rowT; rw [if_neg (by omega)]), T2.congr (fun k _ y _ => by unfold rowT; rw [if_neg (by omega)]), rfl, rfl, rfl, rfl, rfl, rfl, rfl, rfl⟩
  clear T1 T2 T1'
  rintro z ts hh mk ih ⟨b, hb, rfl, TA, TB, hl', q0, q1', q7, q8, q9, q10, rfl⟩
  rw [lit_all hl']
  simp only [lit0, litS, Nat.reduceAdd, q0, q1', q7, q8, q9, q10]
  by_cases hlt : (b : Int) ≤ 30
  case neg =>
    obtain rfl : b = 31 := by omega
    have va := fun st => (TA.congr (g := kI t p true) fun k hk y hy => by
      unfold rowT; split
      · rfl
      · rename_i c; exact (kI_ne (by omega)).symm).view hn st 6
    have vb := fun st => (TB.congr (g := kI t p false) fun k hk y hy => by
      unfold rowT; split
      · rfl
      · rename_i c; exact (kI_ne (by omega)).symm).view hn st 6
    rw [← hiw] at va
    rw [← how] at vb
    by_cases c1 : x1 > x0
    · simp (disch := first | assumption | omega | (simp only [az]; done)) only [ru, eq_self, if_true, if_false, BEq.rfl, binI, AO.row?, splice, fillL, mmAll, loadV, storeV, zeros, Am.rowAt, Am.part, addOff, Nat.reduceAdd, Nat.reduceMul, Nat.reduceLeDiff, Nat.reduceSub, Nat.reduceLT, Int.reduceEq, Int.reduceLT, Int.reduceLE, Int.reduceGT, Int.reduceGE, Int.reduceAdd, Int.reduceSub, Int.reduceMul, Int.reduceNeg, Int.reduceToNat, reduceCtorEq, reduceIte, lenV_sl H.i, elem_pt H.i, view_sl H.i, scalar_sl H.i, cells_sl H.i, pure_sl H.i, Int.toNat_natCast, lenV_sl IW, view_sl IW, scalar_sl IW, cells_sl IW, pure_sl IW, lenV_sl OW, view_sl OW, scalar_sl OW, cells_sl OW, pure_sl OW, hlt, decide_true, decide_false, va, vb, g1, g2, c1]
      done
    by_cases c2 : x2 > x0
    · simp (disch := first | assumption | omega | (simp only [az]; done)) only [ru, eq_self, if_true, if_false, BEq.rfl, binI, AO.row?, splice, fillL, mmAll, loadV, storeV, zeros, Am.rowAt, Am.part, addOff, Nat.reduceAdd, Nat.reduceMul, Nat.reduceLeDiff, Nat.reduceSub, Nat.reduceLT, Int.reduceEq, Int.reduceLT, Int.reduceLE, Int.reduceGT, Int.reduceGE, Int.reduceAdd, Int.reduceSub, Int.reduceMul, Int.reduceNeg, Int.reduceToNat, reduceCtorEq, reduceIte, lenV_sl H.i, elem_pt H.i, view_sl H.i, scalar_sl H.i, cells_sl H.i, pure_sl H.i, Int.toNat_natCast, lenV_sl IW, view_sl IW, scalar_sl IW, cells_sl IW, pure_sl IW, lenV_sl OW, view_sl OW, scalar_sl OW, cells_sl OW, pure_sl OW, hlt, decide_true, decide_false, va, vb, g1, g2, c1, c2]
      done
    · simp (disch := first | assumption | omega | (simp only [az]; done)) only [ru, eq_self, if_true, if_false, BEq.rfl, binI, AO.row?, splice, fillL, mmAll, loadV, storeV, zeros, Am.rowAt, Am.part, addOff, Nat.reduceAdd, Nat.reduceMul, Nat.reduceLeDiff, Nat.reduceSub, Nat.reduceLT, Int.reduceEq, Int.reduceLT, Int.reduceLE, Int.reduceGT, Int.reduceGE, Int.reduceAdd, Int.reduceSub, Int.reduceMul, Int.reduceNeg, Int.reduceToNat, reduceCtorEq, reduceIte, lenV_sl H.i, elem_pt H.i, view_sl H.i, scalar_sl H.i, cells_sl H.i, pure_sl H.i, Int.toNat_natCast, lenV_sl IW, view_sl IW, scalar_sl IW, cells_sl IW, pure_sl IW, lenV_sl OW, view_sl OW, scalar_sl OW, cells_sl OW, pure_sl OW, hlt, decide_true, decide_false, va, vb, g1, g2, c1, c2]
      done
  have hb2 : b < 31 := by omega
  have tA := TA.rows p hp
  have tB := TB.rows p hp
  have cA := TA.oc
  have cB := TB.oc
  obtain ⟨ZA, hZA⟩ : ∃ Z, Z = rw_ 31 (rowT (kI t p true) (aI t) p b p) := ⟨_, rfl⟩
  obtain ⟨ZB, hZB⟩ : ∃ Z, Z = rw_ 31 (rowT (kI t p false) (aI t) p b p) := ⟨_, rfl⟩
  have rat : ∀ F, rowT F (aI t) p b p b = aI t p b := fun F => if_neg (by omega)
  have hA : (ZA.drop b).head? = some (I (aI t p b)) := by rw [hZA, rw_head hb2, rat]
  have lA : ZA.length = 31 := by rw [hZA, rw_len]
  have lB : ZB.length = 31 := by rw [hZB, rw_len]
  have pA := fun (c : Int) h => row_put (c := c) hb2 hZA h
  have pB := fun (c : Int) h => row_put (c := c) hb2 hZB h
  have rA' := tA.2.2
  have rB' := tB.2.2
  rw [← hZA] at rA'
  rw [← hZB] at rB'
  have phA := ptrs_head (q := q1) hp
  have phB := ptrs_head (q := q2) hp
  obtain ⟨PA, hPA⟩ : ∃ PP, PP = ptrs t.length q1 := ⟨_, rfl⟩
  obtain ⟨PB, hPB⟩ : ∃ PP, PP = ptrs t.length q2 := ⟨_, rfl⟩
  rw [← hPA] at cA phA
  rw [← hPB] at cB phB
  have l31 : (b : Int) < ((31 : Nat) : Int) := by omega
  have fA : b + 1 ≤ ZA.length := by omega
  have fB' : b + 1 ≤ ZB.length := by omega
  have nn0 : 0 ≤ aI t p b := (awy_30 (T.w p hp) hb2).1
  obtain ⟨a, ha⟩ : ∃ a, a = aI t p b := ⟨_, rfl⟩
  rw [← ha] at hA nn0
  by_cases c : a > 0
  · have kt : kI t p true p b = NV := if_pos ⟨rfl, by rw [← ha, decide_eq_false (by omega)]; simp⟩
    have kf : kI t p false p b = aI t p b := if_neg (by rw [← ha, decide_eq_false (show ¬ a = 0 by omega)]; simp)
    have pA1 := pA NV kt.symm
    obtain ⟨NA, hNA⟩ : ∃ Z, Z = rw_ 31 (rowT (kI t p true) (aI t) p (b + 1) p) := ⟨_, rfl⟩
    rw [← hNA] at pA1
    have TA2 := TA.put hp (g := rowT (kI t p true) (aI t) p (b + 1)) fun k _ hk y _ => row_ne hk
    rw [← hNA] at TA2
    have TB2 := (TB.congr fun k _ y _ => row_same kf).fr (h' := hh.set (q1 p) (.cells NA false)) fun j j1 j2 => by rw [List.getElem?_set_ne (by have := tA.1; omega)]
    simp (disch := first | assumption | omega | (simp only [az]; done)) only [ru, eq_self, if_true, if_false, BEq.rfl, binI, AO.row?, splice, fillL, mmAll, loadV, storeV, zeros, Am.rowAt, Am.part, addOff, Nat.reduceAdd, Nat.reduceMul, Nat.reduceLeDiff, Nat.reduceSub, Nat.reduceLT, Int.reduceEq, Int.reduceLT, Int.reduceLE, Int.reduceGT, Int.reduceGE, Int.reduceAdd, Int.reduceSub, Int.reduceMul, Int.reduceNeg, Int.reduceToNat, reduceCtorEq, reduceIte, lenV_sl H.i, elem_pt H.i, view_sl H.i, scalar_sl H.i, cells_sl H.i, pure_sl H.i, Int.toNat_natCast, hlt, decide_true, decide_false, elemAt_ms, plt, l31, nn, Int.toNat_natCast, Nat.mul_one, Nat.zero_add, cA, phA, rA', hA, c, fA, pA1, List.append_assoc]
    exact ih (31 - (b + 1)) _ _ _ (by omega) ⟨b + 1, by omega, rfl, TA2, TB2, rfl, rfl, rfl, rfl, rfl, rfl, rfl, rfl⟩
  · have a0 : a = 0 := by omega
    have kt : kI t p true p b = aI t p b := if_neg (by rw [← ha, decide_eq_true a0]; simp)
    have kf : kI t p false p b = NV := if_pos ⟨rfl, by rw [← ha, decide_eq_true a0]; simp⟩
    have pB1 := pB NV kf.symm
    obtain ⟨NB, hNB⟩ : ∃ Z, Z = rw_ 31 (rowT (kI t p false) (aI t) p (b + 1) p) := ⟨_, rfl⟩
    rw [← hNB] at pB1
    have TB2 := TB.put hp (g := rowT (kI t p false) (aI t) p (b + 1)) fun k _ hk y _ => row_ne hk
    rw [← hNB] at TB2
    have TA2 := (TA.congr fun k _ y _ => row_same kt).fr (h' := hh.set (q2 p) (.cells NB false)) fun j j1 j2 => by rw [List.getElem?_set_ne (by have := tB.1; omega)]
    simp (disch := first | assumption | omega | (simp only [az]; done)) only [ru, eq_self, if_true, if_false, BEq.rfl, binI, AO.row?, splice, fillL, mmAll, loadV, storeV, zeros, Am.rowAt, Am.part, addOff, Nat.reduceAdd, Nat.reduceMul, Nat.reduceLeDiff, Nat.reduceSub, Nat.reduceLT, Int.reduceEq, Int.reduceLT, Int.reduceLE, Int.reduceGT, Int.reduceGE, Int.reduceAdd, Int.reduceSub, Int.reduceMul, Int.reduceNeg, Int.reduceToNat, reduceCtorEq, reduceIte, lenV_sl H.i, elem_pt H.i, view_sl H.i, scalar_sl H.i, cells_sl H.i, pure_sl H.i, Int.toNat_natCast, hlt, decide_true, decide_false, elemAt_ms, plt, l31, nn, Int.toNat_natCast, Nat.mul_one, Nat.zero_add, cA, phA, rA', hA, c, cB, phB, rB', fB', pB1, List.append_assoc]
    exact ih (31 - (b + 1)) _ _ _ (by omega) ⟨b + 1, by omega, rfl, TA2, TB2, rfl, rfl, rfl, rfl, rfl, rfl, rfl, rfl⟩
end
end Go.Proofs.Yteonklnjchefiaa.S

