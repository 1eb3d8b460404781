/-
A table with another span.
-/
import Derived.Test.YtkmcbiimlnphmaaYh
namespace Go.Proofs.Ytkmcbiimlnphmaa.S
open Go Go.Am Go.Proofs.Ytkmcbiimlnphmaa.T
set_option maxRecDepth 100000
set_option linter.unusedSimpArgs false
set_option linter.unusedVariables false

section
variable {t : List Pt} {v w : AV} {l : List Int}
/-- a table with another span of a part -/
def clr (t : List Pt) (p : Nat) (q lo hi : Int) : List Pt := t.set p (if q = 1 then { t.getD p default with s := ⟨lo, hi⟩ } else { t.getD p default with w := ⟨lo, hi⟩ })
def old (t : List Pt) (p : Nat) (q : Int) : Spn := if q = 1 then (t.getD p default).s else (t.getD p default).w
theorem clr_len {p : Nat} {q lo hi : Int} : (clr t p q lo hi).length = t.length := by simp [clr]
set_option maxHeartbeats 2000000 in
theorem s37 (H : TbOk t v) {p : Nat} (hp : p < t.length) (q lo hi : Int) : Iso E 37 [v, .agg [I p, I q, I lo, I hi]] false = some (.tup [slV 6 Pt.e (clr t p q lo hi), .agg [I (old t p q).lo, I (old t p q).hi]]) := by
  have sp := H.n
  obtain ⟨o, H', hC, fr, ho, hc⟩ := c42 H [.cells [I p, I q, I lo, I hi] false, .cells [I 0, I 0] false]
  simp only [List.length_cons, List.length_nil, Nat.zero_add, Nat.reduceAdd] at ho
  have gt := pt_get6 hp
  obtain ⟨x, hx⟩ : ∃ x, x = t.getD p default := ⟨_, rfl⟩
  rw [← hx] at gt
  have f0 : H'[0]? = some (.cells [I p, I q, I lo, I hi] false) := fr.at rfl
  have f1 : H'[1]? = some (.cells [I 0, I 0] false) := fr.at rfl
  obtain ⟨Z, hZ⟩ : ∃ Z, Z = t.flatMap Pt.e := ⟨_, rfl⟩
  have zl : Z.length = t.length * 6 := by rw [hZ, flat_len Pt.el]
  rw [← hZ] at gt hc
  have fit : p * 6 + 6 ≤ Z.length := by omega
  have ol := (List.getElem?_eq_some_iff.1 hc).1
  have plt : (p : Int) < t.length := by omega
  obtain ⟨a, ha⟩ : ∃ a, a = H'.length := ⟨_, rfl⟩
  obtain ⟨HA, hHA⟩ : ∃ HA, HA = H' ++ [AO.cells [I x.of, I x.w.lo, I x.w.hi, I x.s.lo, I x.s.hi, I x.p] false] := ⟨_, rfl⟩
  have stA : ∀ X Y : AO, (H' ++ [X]).set a Y = H' ++ [Y] := fun X Y => by rw [ha]; exact setE
  have atA : ∀ X : AO, (H' ++ [X])[a]? = some X := fun X => by rw [ha]; exact atE
  have la : HA.length = a + 1 := by rw [hHA, ha]; simp
  obtain ⟨HB, hHB⟩ : ∃ HB, HB = HA ++ [AO.cells [I x.w.lo, I x.w.hi] false] := ⟨_, rfl⟩
  have stB : ∀ X Y : AO, (HA ++ [X]).set (a + 1) Y = HA ++ [Y] := fun X Y => by rw [← la]; exact setE
  have atB : ∀ X : AO, (HA ++ [X])[a + 1]? = some X := fun X => by rw [← la]; exact atE
  have frA : Fr H' HA := by rw [hHA]; exact Fr.app _ _
  have frB : Fr HA HB := by rw [hHB]; exact Fr.app _ _
  have Aa : HA[a]? = some (.cells [I x.of, I x.w.lo, I x.w.hi, I x.s.lo, I x.s.hi, I x.p] false) := by rw [hHA]; exact atA _
  have Ba := frB.at Aa
  have Bb : HB[a + 1]? = some (.cells [I x.w.lo, I x.w.hi] false) := by rw [hHB]; exact atB _
  have B0 := frB.at (frA.at f0)
  have B1 := frB.at (frA.at f1)
  have Bo' := frB.at (frA.at hc)
  have lb : HB.length = a + 2 := by rw [hHB]; simp [la]
  have A0 := frA.at f0
  have atA0 : ∀ X : AO, (H' ++ [X])[0]? = some (.cells [I p, I q, I lo, I hi] false) := fun X => Fr.at (Fr.app _ _) f0
  have atB0 : ∀ X : AO, (HA ++ [X])[0]? = some (.cells [I p, I q, I lo, I hi] false) := fun X => Fr.at (Fr.app _ _) A0
  have atBa : ∀ X : AO, (HA ++ [X])[a]? = some (.cells [I x.of, I x.w.lo, I x.w.hi, I x.s.lo, I x.s.hi, I x.p] false) := fun X => Fr.at (Fr.app _ _) Aa
  refine Iso_of (es _ _ _ _) e37 ?_
  simp only [f37]
  by_cases hq : q = 1
  · subst hq
    have pt : Z.take (p * 6) ++ I x.of :: I x.w.lo :: I x.w.hi :: I lo :: I hi :: I x.p :: Z.drop (p * 6 + 6) = (clr t p 1 lo hi).flatMap Pt.e := by
      rw [hZ, clr, if_pos rfl, ← hx]; exact pt_put6 hp { x with s := ⟨lo, hi⟩ }
    have od : old t p 1 = x.s := by rw [old, if_pos rfl, hx]
    obtain ⟨HC, hHC⟩ : ∃ HC, HC = HB.set (a + 1) (.cells [I x.s.lo, I x.s.hi] false) := ⟨_, rfl⟩
    obtain ⟨HD, hHD⟩ : ∃ HD, HD = HC.set a (.cells [I x.of, I x.w.lo, I x.w.hi, I lo, I hi, I x.p] false) := ⟨_, rfl⟩
    obtain ⟨HE, hHE⟩ : ∃ HE, HE = HD.set o (.cells ((clr t p 1 lo hi).flatMap Pt.e) false) := ⟨_, rfl⟩
    obtain ⟨HF, hHF⟩ : ∃ HF, HF = HE.set 1 (.cells [I x.s.lo, I x.s.hi] false) := ⟨_, rfl⟩
    have ca : HC[a]? = some (.cells [I x.of, I x.w.lo, I x.w.hi, I x.s.lo, I x.s.hi, I x.p] false) := by rw [hHC, List.getElem?_set_ne (by omega)]; exact Ba
    have c0 : HC[0]? = some (.cells [I p, I 1, I lo, I hi] false) := by rw [hHC, List.getElem?_set_ne (by omega)]; exact B0
    have lc : HC.length = a + 2 := by rw [hHC]; simp [lb]
    have da : HD[a]? = some (.cells [I x.of, I x.w.lo, I x.w.hi, I lo, I hi, I x.p] false) := by rw [hHD, List.getElem?_set_self (by omega)]
    have d0 : HD[0]? = some (.cells [I p, I 1, I lo, I hi] false) := by rw [hHD, List.getElem?_set_ne (by omega)]; exact c0
    have do' : HD[o]? = some (.cells Z false) := by rw [hHD, List.getElem?_set_ne (by omega), hHC, List.getElem?_set_ne (by omega)]; exact Bo'
    have ld : HD.length = a + 2 := by rw [hHD]; simp [lc]
    have eb : HE[a + 1]? = some (.cells [I x.s.lo, I x.s.hi] false) := by rw [hHE, List.getElem?_set_ne (by omega), hHD, List.getElem?_set_ne (by omega), hHC, List.getElem?_set_self (by omega)]
    have e1 : HE[1]? = some (.cells [I 0, I 0] false) := by rw [hHE, List.getElem?_set_ne (by omega), hHD, List.getElem?_set_ne (by omega), hHC, List.getElem?_set_ne (by omega)]; exact B1
    have le : HE.length = a + 2 := by rw [hHE]; simp [ld]
    have g1 : HF[1]? = some (.cells [I x.s.lo, I x.s.hi] false) := by rw [hHF, List.getElem?_set_self (by omega)]
    have go : HF[o]? = some (.cells ((clr t p 1 lo hi).flatMap Pt.e) false) := by rw [hHF, List.getElem?_set_ne (by omega), hHE, List.getElem?_set_self (by omega)]
    have vw : ∀ k, view false HF (k + 1) (.ms 6 o 0 t.length) = some (slV 6 Pt.e (clr t p 1 lo hi)) := fun k => by
      have := RdC.view (enc := Pt.e) (esz := 6) (l := clr t p 1 lo hi) (h := HF) (w := .ms 6 o 0 t.length) ⟨o, by rw [clr_len], go⟩ Pt.el Pt.iv (st := false) (k := k)
      exact this
    have vw7 := vw 7
    have vw6 := vw 6
    rw [od]
    simp (disch := first | assumption | omega | (simp only [az]; done)) only [ru, eq_self, if_true, if_false, BEq.rfl, binI, AO.row?, splice, fillL, mmAll, loadV, storeV, zeros, Am.rowAt, Am.part, addOff, Nat.reduceAdd, Nat.reduceMul, Nat.reduceLeDiff, Nat.reduceSub, Nat.reduceLT, Int.reduceEq, Int.reduceLT, Int.reduceLE, Int.reduceGT, Int.reduceGE, Int.reduceAdd, Int.reduceSub, Int.reduceMul, Int.reduceNeg, Int.reduceToNat, reduceCtorEq, reduceIte, lenV_sl H.i, elem_pt H.i, view_sl H.i, scalar_sl H.i, cells_sl H.i, pure_sl H.i, Int.toNat_natCast, exOp_call2, hC, ← ha, elemAt_ms, plt, nn, Int.toNat_natCast, Nat.zero_add, hc, gt, atA, stA, atA0, f0, f1, ← hHA, la, Aa, A0, atB, stB, atB0, atBa, ← hHB, Ba, Bb, B0, ← hHC, ca, c0, ← hHD, da, d0, do', fit, List.append_assoc, pt, ← hHE, eb, e1, ← hHF, g1]
    refine ⟨.inr rfl, (.tup [.ms 6 o 0 t.length, .agg [I x.s.lo, I x.s.hi]], HF), ?_, ?_⟩
    · simp [finish, takeMarks, getRes, Am.rowAt, g1, AO.row?, Am.part, I]
    · show view false HF 8 (.tup [.ms 6 o 0 t.length, .agg [I x.s.lo, I x.s.hi]]) = _
      simp only [view_tup, List.mapM_cons, List.mapM_nil, vw6, view_agg, view_int, Option.bind_eq_bind, Option.pure_def, Option.bind_some, Option.map_some]
  · have pt : Z.take (p * 6) ++ I x.of :: I lo :: I hi :: I x.s.lo :: I x.s.hi :: I x.p :: Z.drop (p * 6 + 6) = (clr t p q lo hi).flatMap Pt.e := by
      rw [hZ, clr, if_neg hq, ← hx]; exact pt_put6 hp { x with w := ⟨lo, hi⟩ }
    have od : old t p q = x.w := by rw [old, if_neg hq, hx]
    obtain ⟨HD, hHD⟩ : ∃ HD, HD = HB.set a (.cells [I x.of, I lo, I hi, I x.s.lo, I x.s.hi, I x.p] false) := ⟨_, rfl⟩
    obtain ⟨HE, hHE⟩ : ∃ HE, HE = HD.set o (.cells ((clr t p q lo hi).flatMap Pt.e) false) := ⟨_, rfl⟩
    obtain ⟨HF, hHF⟩ : ∃ HF, HF = HE.set 1 (.cells [I x.w.lo, I x.w.hi] false) := ⟨_, rfl⟩
    have da : HD[a]? = some (.cells [I x.of, I lo, I hi, I x.s.lo, I x.s.hi, I x.p] false) := by rw [hHD, List.getElem?_set_self (by omega)]
    have d0 : HD[0]? = some (.cells [I p, I q, I lo, I hi] false) := by rw [hHD, List.getElem?_set_ne (by omega)]; exact B0
    have do' : HD[o]? = some (.cells Z false) := by rw [hHD, List.getElem?_set_ne (by omega)]; exact Bo'
    have ld : HD.length = a + 2 := by rw [hHD]; simp [lb]
    have eb : HE[a + 1]? = some (.cells [I x.w.lo, I x.w.hi] false) := by rw [hHE, List.getElem?_set_ne (by omega), hHD, List.getElem?_set_ne (by omega)]; exact Bb
    have e1 : HE[1]? = some (.cells [I 0, I 0] false) := by rw [hHE, List.getElem?_set_ne (by omega), hHD, List.getElem?_set_ne (by omega)]; exact B1
    have le : HE.length = a + 2 := by rw [hHE]; simp [ld]
    have g1 : HF[1]? = some (.cells [I x.w.lo, I x.w.hi] false) := by rw [hHF, List.getElem?_set_self (by omega)]
    have go : HF[o]? = some (.cells ((clr t p q lo hi).flatMap Pt.e) false) := by rw [hHF, List.getElem?_set_ne (by omega), hHE, List.getElem?_set_self (by omega)]
    have vw : ∀ k, view false HF (k + 1) (.ms 6 o 0 t.length) = some (slV 6 Pt.e (clr t p q lo hi)) := fun k => by
      have := RdC.view (enc := Pt.e) (esz := 6) (l := clr t p q lo hi) (h := HF) (w := .ms 6 o 0 t.length) ⟨o, by rw [clr_len], go⟩ Pt.el Pt.iv (st := false) (k := k)
      exact this
    have vw7 := vw 7
    have vw6 := vw 6
    rw [od]
    simp (disch := first | assumption | omega | (simp only [az]; done)) only [ru, eq_self, if_true, if_false, BEq.rfl, binI, AO.row?, splice, fillL, mmAll, loadV, storeV, zeros, Am.rowAt, Am.part, addOff, Nat.reduceAdd, Nat.reduceMul, Nat.reduceLeDiff, Nat.reduceSub, Nat.reduceLT, Int.reduceEq, Int.reduceLT, Int.reduceLE, Int.reduceGT, Int.reduceGE, Int.reduceAdd, Int.reduceSub, Int.reduceMul, Int.reduceNeg, Int.reduceToNat, reduceCtorEq, reduceIte, lenV_sl H.i, elem_pt H.i, view_sl H.i, scalar_sl H.i, cells_sl H.i, pure_sl H.i, Int.toNat_natCast, exOp_call2, hC, ← ha, elemAt_ms, plt, nn, Int.toNat_natCast, Nat.zero_add, hc, gt, atA, stA, atA0, f0, f1, ← hHA, la, Aa, A0, atB, stB, atB0, atBa, ← hHB, Ba, Bb, B0, hq, ← hHD, da, d0, do', fit, List.append_assoc, pt, ← hHE, eb, e1, ← hHF, g1]
    refine ⟨.inr rfl, (.tup [.ms 6 o 0 t.length, .agg [I x.w.lo, I x.w.hi]], HF), ?_, ?_⟩
    · simp [finish, takeMarks, getRes, Am.rowAt, g1, AO.row?, Am.part, I]
    · show view false HF 8 (.tup [.ms 6 o 0 t.length, .agg [I x.w.lo, I x.w.hi]]) = _
      simp only [view_tup, List.mapM_cons, List.mapM_nil, vw6, view_agg, view_int, Option.bind_eq_bind, Option.pure_def, Option.bind_some, Option.map_some]
end
end Go.Proofs.Ytkmcbiimlnphmaa.S
