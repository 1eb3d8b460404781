/-
The law of the weight of the fish.
-/
import Derived.Test.YtjgbiclbpgkfeaaTf
namespace Go.Proofs.Ytjgbiclbpgkfeaa.S
open Go Go.Am Go.Proofs.Ytjgbiclbpgkfeaa.T
set_option maxRecDepth 100000
set_option linter.unusedSimpArgs false
set_option linter.unusedVariables false

theorem s46 {t : Trap} {o w : AV} (H0 : TrIn t o w) : ∃ b, (∀ st, Iso E 4 [trV t o w] st = some (Bo b)) ∧ (b = false → t.huge = false) := by
  have ho := H0.o
  have hw := H0.w
  have c53 := fun st => s53 H0 st
  simp only [trV] at c53 ⊢
  cases hg : t.huge
  case true =>
    rw [hg] at c53
    refine ⟨true, fun st => ?_, fun h => (by cases h)⟩
    refine Iso_of (es _ _ _ _) e4 ?_
    simp only [f4]
    simp (disch := first | assumption | omega | (simp only [az]; done)) only [ru, eq_self, if_true, if_false, BEq.rfl, binI, AO.row?, splice, fillL, mmAll, loadV, storeV, zeros, Am.rowAt, Am.part, addOff, Nat.reduceAdd, Nat.reduceMul, Nat.reduceLeDiff, Nat.reduceSub, Nat.reduceLT, Int.reduceEq, Int.reduceLT, Int.reduceLE, Int.reduceGT, Int.reduceGE, Int.reduceAdd, Int.reduceSub, Int.reduceMul, Int.reduceNeg, Int.reduceToNat, reduceCtorEq, reduceIte, lenV_sl ho, elem_sl Ls.el ho, view_sl ho, scalar_sl ho, cells_sl ho, pure_sl ho, lenV_sl hw, elem_sl Wd.el hw, view_sl hw, scalar_sl hw, cells_sl hw, pure_sl hw, c53, gUn]
  rw [hg] at c53
  have H := H0.ok hg
  have c55 := fun st => s55 H st
  simp only [trV] at c55
  obtain ⟨ce, hce⟩ : ∃ ce, ce = chkE t := ⟨_, rfl⟩
  rw [← hce] at c55
  by_cases g1 : t.ch > 3
  · refine ⟨ce == 0, fun st => ?_, fun _ => rfl⟩
    refine Iso_of (es _ _ _ _) e4 ?_
    simp only [f4]
    simp (disch := first | assumption | omega | (simp only [az]; done)) only [ru, eq_self, if_true, if_false, BEq.rfl, binI, AO.row?, splice, fillL, mmAll, loadV, storeV, zeros, Am.rowAt, Am.part, addOff, Nat.reduceAdd, Nat.reduceMul, Nat.reduceLeDiff, Nat.reduceSub, Nat.reduceLT, Int.reduceEq, Int.reduceLT, Int.reduceLE, Int.reduceGT, Int.reduceGE, Int.reduceAdd, Int.reduceSub, Int.reduceMul, Int.reduceNeg, Int.reduceToNat, reduceCtorEq, reduceIte, lenV_sl ho, elem_sl Ls.el ho, view_sl ho, scalar_sl ho, cells_sl ho, pure_sl ho, lenV_sl hw, elem_sl Wd.el hw, view_sl hw, scalar_sl hw, cells_sl hw, pure_sl hw, c53, c55, g1, gUn]
  · by_cases g2 : t.tm > 3
    · refine ⟨ce == 0, fun st => ?_, fun _ => rfl⟩
      refine Iso_of (es _ _ _ _) e4 ?_
      simp only [f4]
      simp (disch := first | assumption | omega | (simp only [az]; done)) only [ru, eq_self, if_true, if_false, BEq.rfl, binI, AO.row?, splice, fillL, mmAll, loadV, storeV, zeros, Am.rowAt, Am.part, addOff, Nat.reduceAdd, Nat.reduceMul, Nat.reduceLeDiff, Nat.reduceSub, Nat.reduceLT, Int.reduceEq, Int.reduceLT, Int.reduceLE, Int.reduceGT, Int.reduceGE, Int.reduceAdd, Int.reduceSub, Int.reduceMul, Int.reduceNeg, Int.reduceToNat, reduceCtorEq, reduceIte, lenV_sl ho, elem_sl Ls.el ho, view_sl ho, scalar_sl ho, cells_sl ho, pure_sl ho, lenV_sl hw, elem_sl Wd.el hw, view_sl hw, scalar_sl hw, cells_sl hw, pure_sl hw, c53, c55, g1, g2, gUn]
    · refine ⟨false, fun st => ?_, fun _ => rfl⟩
      refine Iso_of (es _ _ _ _) e4 ?_
      simp only [f4]
      simp (disch := first | assumption | omega | (simp only [az]; done)) only [ru, eq_self, if_true, if_false, BEq.rfl, binI, AO.row?, splice, fillL, mmAll, loadV, storeV, zeros, Am.rowAt, Am.part, addOff, Nat.reduceAdd, Nat.reduceMul, Nat.reduceLeDiff, Nat.reduceSub, Nat.reduceLT, Int.reduceEq, Int.reduceLT, Int.reduceLE, Int.reduceGT, Int.reduceGE, Int.reduceAdd, Int.reduceSub, Int.reduceMul, Int.reduceNeg, Int.reduceToNat, reduceCtorEq, reduceIte, lenV_sl ho, elem_sl Ls.el ho, view_sl ho, scalar_sl ho, cells_sl ho, pure_sl ho, lenV_sl hw, elem_sl Wd.el hw, view_sl hw, scalar_sl hw, cells_sl hw, pure_sl hw, c53, c55, g1, g2, gUn]

theorem trN_cp {t : Trap} {L : List Ls} : TruN t.cp L ↔ TruN t L := by
  have e4 : ∀ i c, PasK t.cp L i c ↔ PasK t L i c := fun i c => by
    have : ((t.cp.op).getD i default).list = (t.op.getD i default).list := cp_row (L := t.op) (i := i)
    unfold PasK; rw [this]
  constructor
  · intro h
    exact ⟨h.l, h.r, fun i hi c hc => (e4 i c).1 (h.p i hi c hc), h.w⟩
  · intro h
    exact ⟨h.l, h.r, fun i hi c hc => (e4 i c).2 (h.p i hi c hc), h.w⟩
section
variable {t : Trap} {i : Nat} {l u : AV} {L U : List Int}
theorem EndA.mem (E0 : EndA t i l u L U) {x : Nat → Int} (tx : Tr t x) {c : Nat} (hc : c < t.C) : L.getD c 0 ≤ gap t.C x i c ∧ gap t.C x i c ≤ U.getD c 0 := by
  have := (xt_tr (E0.x c hc)).1 x tx
  try simp only at this
  exact this
theorem EndA.nn (E0 : EndA t i l u L U) (hi : i < t.T) : (∀ x ∈ L, 0 ≤ x) ∧ ∀ x ∈ U, 0 ≤ x := by
  have key : ∀ c, c < t.C → 0 ≤ L.getD c 0 ∧ 0 ≤ U.getD c 0 := fun c hc => by
    have b := xt_bd hi hc (E0.x c hc)
    have X := xt_tr (E0.x c hc)
    obtain ⟨x, h1, h2⟩ := X.2.1
    have := X.1 x h1
    try simp only at this
    omega
  refine ⟨fun x hx => ?_, fun x hx => ?_⟩
  · obtain ⟨c, hc, rfl⟩ := List.mem_iff_getElem.1 hx
    have := (key c (by rw [← E0.ll]; exact hc)).1
    rwa [List.getD_eq_getElem?_getD, List.getElem?_eq_getElem hc] at this
  · obtain ⟨c, hc, rfl⟩ := List.mem_iff_getElem.1 hx
    have := (key c (by rw [← E0.lu]; exact hc)).2
    rwa [List.getD_eq_getElem?_getD, List.getElem?_eq_getElem hc] at this
theorem EndA.sub {t' : Trap} {l' u' : AV} {L' U' : List Int} (E0 : EndA t i l u L U) (E1 : EndA t' i l' u' L' U') (hC : t'.C = t.C) (sub : ∀ x, Tr t' x → Tr t x) {c : Nat} (hc : c < t.C) : L.getD c 0 ≤ L'.getD c 0 ∧ U'.getD c 0 ≤ U.getD c 0 := by
  have X := xt_tr (E0.x c hc)
  have Y := xt_tr (E1.x c (by omega))
  rw [hC] at Y
  obtain ⟨Y0, ⟨p, p1, p2⟩, q, q1, q2⟩ := Y
  have a := X.1 p (sub p p1)
  have b := X.1 q (sub q q1)
  try simp only at a b p2 q2
  omega
end
theorem drag_len {n : A.Net} {t : A.Tru} {f : List Int} (h : n.ancs.length ≤ 40) : (A.dragOf n t f).length ≤ 1000000 := by
  have : (A.lst n (A.lfp (n.ld f) t A.none6)).length ≤ n.ancs.length := A.lst_le
  show (A.lst n (A.lfp (n.ld f) t A.none6)).length ≤ _
  omega

set_option maxHeartbeats 8000000 in
theorem sTop {t : Trap} {o w : AV} (H0 : TrIn t o w) {n : A.Net} {g a w2 : AV} (N0 : A.NetIn n g a w2) {L : List Ls} {nv : AV} (hN : IsSl 1 Ls.e L nv) (x : Int) {tr : A.Tru} {tv : AV} (V0 : A.TruIn tr tv) (y : Wd) :
    Iso E 3 [trV t o w, A.netV n g a w2, .agg [nv, I x, I tr.wind, I tr.cur, tv, I y.time, I y.ch, I y.lo, I y.hi]] false = some (Bo true) := by
  have ho := H0.o; have hw := H0.w
  have ng := N0.g; have na := N0.a; have nw := N0.w
  have tvs := V0.s
  have d11 := sHeld
  obtain ⟨far, c4, hf⟩ := s46 H0
  simp only [trV] at c4
  cases far
  case true =>
    refine Iso_of (es _ _ _ _) e3 ?_
    simp only [f3, trV, A.netV]
    simp (disch := first | assumption | omega | (simp only [az]; done)) only [ru, eq_self, if_true, if_false, BEq.rfl, binI, AO.row?, splice, fillL, mmAll, loadV, storeV, zeros, Am.rowAt, Am.part, addOff, Nat.reduceAdd, Nat.reduceMul, Nat.reduceLeDiff, Nat.reduceSub, Nat.reduceLT, Int.reduceEq, Int.reduceLT, Int.reduceLE, Int.reduceGT, Int.reduceGE, Int.reduceAdd, Int.reduceSub, Int.reduceMul, Int.reduceNeg, Int.reduceToNat, reduceCtorEq, reduceIte, lenV_sl ho, elem_sl Ls.el ho, view_sl ho, scalar_sl ho, cells_sl ho, pure_sl ho, lenV_sl hw, elem_sl Wd.el hw, view_sl hw, scalar_sl hw, cells_sl hw, pure_sl hw, lenV_sl hN, elem_sl Ls.el hN, view_sl hN, scalar_sl hN, cells_sl hN, pure_sl hN, lenV_sl ng, view_sl ng, scalar_sl ng, cells_sl ng, pure_sl ng, lenV_sl na, view_sl na, scalar_sl na, cells_sl na, pure_sl na, lenV_sl nw, view_sl nw, scalar_sl nw, cells_sl nw, pure_sl nw, lenV_sl tvs, view_sl tvs, scalar_sl tvs, cells_sl tvs, pure_sl tvs, c4, d11, gUn]
  have H := H0.ok (hf rfl)
  have c5 := fun st => s55 H st
  simp only [trV, chkE] at c5
  cases hv : t.valid
  · simp only [hv, Bool.false_eq_true, if_false] at c5
    refine Iso_of (es _ _ _ _) e3 ?_
    simp only [f3, trV, A.netV]
    simp (disch := first | assumption | omega | (simp only [az]; done)) only [ru, eq_self, if_true, if_false, BEq.rfl, binI, AO.row?, splice, fillL, mmAll, loadV, storeV, zeros, Am.rowAt, Am.part, addOff, Nat.reduceAdd, Nat.reduceMul, Nat.reduceLeDiff, Nat.reduceSub, Nat.reduceLT, Int.reduceEq, Int.reduceLT, Int.reduceLE, Int.reduceGT, Int.reduceGE, Int.reduceAdd, Int.reduceSub, Int.reduceMul, Int.reduceNeg, Int.reduceToNat, reduceCtorEq, reduceIte, lenV_sl ho, elem_sl Ls.el ho, view_sl ho, scalar_sl ho, cells_sl ho, pure_sl ho, lenV_sl hw, elem_sl Wd.el hw, view_sl hw, scalar_sl hw, cells_sl hw, pure_sl hw, lenV_sl hN, elem_sl Ls.el hN, view_sl hN, scalar_sl hN, cells_sl hN, pure_sl hN, lenV_sl ng, view_sl ng, scalar_sl ng, cells_sl ng, pure_sl ng, lenV_sl na, view_sl na, scalar_sl na, cells_sl na, pure_sl na, lenV_sl nw, view_sl nw, scalar_sl nw, cells_sl nw, pure_sl nw, lenV_sl tvs, view_sl tvs, scalar_sl tvs, cells_sl tvs, pure_sl tvs, c4, c5, d11, gUn]
  simp only [hv, if_true] at c5
  have c6 := fun st => A.s15 ng na nw tvs tr.wind tr.cur st
  simp only [A.netV] at c6
  obtain ⟨hu, hhu⟩ : ∃ b, b = (decide ((n.grips.length : Int) > 40) || (decide ((n.ancs.length : Int) > 40) || (decide ((n.walls.length : Int) > 40) || decide ((tr.grips.length : Int) > 40)))) := ⟨_, rfl⟩
  rw [← hhu] at c6
  cases hu
  case true =>
    refine Iso_of (es _ _ _ _) e3 ?_
    simp only [f3, trV, A.netV]
    simp (disch := first | assumption | omega | (simp only [az]; done)) only [ru, eq_self, if_true, if_false, BEq.rfl, binI, AO.row?, splice, fillL, mmAll, loadV, storeV, zeros, Am.rowAt, Am.part, addOff, Nat.reduceAdd, Nat.reduceMul, Nat.reduceLeDiff, Nat.reduceSub, Nat.reduceLT, Int.reduceEq, Int.reduceLT, Int.reduceLE, Int.reduceGT, Int.reduceGE, Int.reduceAdd, Int.reduceSub, Int.reduceMul, Int.reduceNeg, Int.reduceToNat, reduceCtorEq, reduceIte, lenV_sl ho, elem_sl Ls.el ho, view_sl ho, scalar_sl ho, cells_sl ho, pure_sl ho, lenV_sl hw, elem_sl Wd.el hw, view_sl hw, scalar_sl hw, cells_sl hw, pure_sl hw, lenV_sl hN, elem_sl Ls.el hN, view_sl hN, scalar_sl hN, cells_sl hN, pure_sl hN, lenV_sl ng, view_sl ng, scalar_sl ng, cells_sl ng, pure_sl ng, lenV_sl na, view_sl na, scalar_sl na, cells_sl na, pure_sl na, lenV_sl nw, view_sl nw, scalar_sl nw, cells_sl nw, pure_sl nw, lenV_sl tvs, view_sl tvs, scalar_sl tvs, cells_sl tvs, pure_sl tvs, c4, c5, c6, d11, gUn]
  have hs := hhu.symm
  simp only [Bool.or_eq_false_iff, decide_eq_false_iff_not] at hs
  obtain ⟨hs1, hs2, hs3, hs4⟩ := hs
  have HN : A.NetOk n g a w2 := ⟨ng, na, nw, by omega, by omega, by omega⟩
  have HV : A.TruOk tr tv := ⟨tvs, by omega⟩
  have c7 := fun st => A.s19 HN st
  simp only [A.netV] at c7
  cases hnv : n.valid
  · simp only [hnv, Bool.false_eq_true, if_false] at c7
    refine Iso_of (es _ _ _ _) e3 ?_
    simp only [f3, trV, A.netV]
    simp (disch := first | assumption | omega | (simp only [az]; done)) only [ru, eq_self, if_true, if_false, BEq.rfl, binI, AO.row?, splice, fillL, mmAll, loadV, storeV, zeros, Am.rowAt, Am.part, addOff, Nat.reduceAdd, Nat.reduceMul, Nat.reduceLeDiff, Nat.reduceSub, Nat.reduceLT, Int.reduceEq, Int.reduceLT, Int.reduceLE, Int.reduceGT, Int.reduceGE, Int.reduceAdd, Int.reduceSub, Int.reduceMul, Int.reduceNeg, Int.reduceToNat, reduceCtorEq, reduceIte, lenV_sl ho, elem_sl Ls.el ho, view_sl ho, scalar_sl ho, cells_sl ho, pure_sl ho, lenV_sl hw, elem_sl Wd.el hw, view_sl hw, scalar_sl hw, cells_sl hw, pure_sl hw, lenV_sl hN, elem_sl Ls.el hN, view_sl hN, scalar_sl hN, cells_sl hN, pure_sl hN, lenV_sl ng, view_sl ng, scalar_sl ng, cells_sl ng, pure_sl ng, lenV_sl na, view_sl na, scalar_sl na, cells_sl na, pure_sl na, lenV_sl nw, view_sl nw, scalar_sl nw, cells_sl nw, pure_sl nw, lenV_sl tvs, view_sl tvs, scalar_sl tvs, cells_sl tvs, pure_sl tvs, c4, c5, c6, c7, d11, gUn]
  simp only [hnv, if_true] at c7
  have c8 := fun st => A.s102 HN HV st
  simp only [A.netV] at c8
  cases htr : A.truthOk n tr
  · rw [htr] at c8
    refine Iso_of (es _ _ _ _) e3 ?_
    simp only [f3, trV, A.netV]
    simp (disch := first | assumption | omega | (simp only [az]; done)) only [ru, eq_self, if_true, if_false, BEq.rfl, binI, AO.row?, splice, fillL, mmAll, loadV, storeV, zeros, Am.rowAt, Am.part, addOff, Nat.reduceAdd, Nat.reduceMul, Nat.reduceLeDiff, Nat.reduceSub, Nat.reduceLT, Int.reduceEq, Int.reduceLT, Int.reduceLE, Int.reduceGT, Int.reduceGE, Int.reduceAdd, Int.reduceSub, Int.reduceMul, Int.reduceNeg, Int.reduceToNat, reduceCtorEq, reduceIte, lenV_sl ho, elem_sl Ls.el ho, view_sl ho, scalar_sl ho, cells_sl ho, pure_sl ho, lenV_sl hw, elem_sl Wd.el hw, view_sl hw, scalar_sl hw, cells_sl hw, pure_sl hw, lenV_sl hN, elem_sl Ls.el hN, view_sl hN, scalar_sl hN, cells_sl hN, pure_sl hN, lenV_sl ng, view_sl ng, scalar_sl ng, cells_sl ng, pure_sl ng, lenV_sl na, view_sl na, scalar_sl na, cells_sl na, pure_sl na, lenV_sl nw, view_sl nw, scalar_sl nw, cells_sl nw, pure_sl nw, lenV_sl tvs, view_sl tvs, scalar_sl tvs, cells_sl tvs, pure_sl tvs, c4, c5, c6, c7, c8, d11, gUn]
  rw [htr] at c8
  have G := A.good_of hnv htr
  have c9 := fun st => s45 H x st
  simp only [trV, wrT hv] at c9
  cases hx : inR x 0 (t.tm - 1)
  · rw [hx] at c9
    refine Iso_of (es _ _ _ _) e3 ?_
    simp only [f3, trV, A.netV]
    simp (disch := first | assumption | omega | (simp only [az]; done)) only [ru, eq_self, if_true, if_false, BEq.rfl, binI, AO.row?, splice, fillL, mmAll, loadV, storeV, zeros, Am.rowAt, Am.part, addOff, Nat.reduceAdd, Nat.reduceMul, Nat.reduceLeDiff, Nat.reduceSub, Nat.reduceLT, Int.reduceEq, Int.reduceLT, Int.reduceLE, Int.reduceGT, Int.reduceGE, Int.reduceAdd, Int.reduceSub, Int.reduceMul, Int.reduceNeg, Int.reduceToNat, reduceCtorEq, reduceIte, lenV_sl ho, elem_sl Ls.el ho, view_sl ho, scalar_sl ho, cells_sl ho, pure_sl ho, lenV_sl hw, elem_sl Wd.el hw, view_sl hw, scalar_sl hw, cells_sl hw, pure_sl hw, lenV_sl hN, elem_sl Ls.el hN, view_sl hN, scalar_sl hN, cells_sl hN, pure_sl hN, lenV_sl ng, view_sl ng, scalar_sl ng, cells_sl ng, pure_sl ng, lenV_sl na, view_sl na, scalar_sl na, cells_sl na, pure_sl na, lenV_sl nw, view_sl nw, scalar_sl nw, cells_sl nw, pure_sl nw, lenV_sl tvs, view_sl tvs, scalar_sl tvs, cells_sl tvs, pure_sl tvs, c4, c5, c6, c7, c8, c9, d11, gUn]
  rw [hx] at c9
  by_cases hlen : (L.length : Int) > 40
  · refine Iso_of (es _ _ _ _) e3 ?_
    simp only [f3, trV, A.netV]
    simp (disch := first | assumption | omega | (simp only [az]; done)) only [ru, eq_self, if_true, if_false, BEq.rfl, binI, AO.row?, splice, fillL, mmAll, loadV, storeV, zeros, Am.rowAt, Am.part, addOff, Nat.reduceAdd, Nat.reduceMul, Nat.reduceLeDiff, Nat.reduceSub, Nat.reduceLT, Int.reduceEq, Int.reduceLT, Int.reduceLE, Int.reduceGT, Int.reduceGE, Int.reduceAdd, Int.reduceSub, Int.reduceMul, Int.reduceNeg, Int.reduceToNat, reduceCtorEq, reduceIte, lenV_sl ho, elem_sl Ls.el ho, view_sl ho, scalar_sl ho, cells_sl ho, pure_sl ho, lenV_sl hw, elem_sl Wd.el hw, view_sl hw, scalar_sl hw, cells_sl hw, pure_sl hw, lenV_sl hN, elem_sl Ls.el hN, view_sl hN, scalar_sl hN, cells_sl hN, pure_sl hN, lenV_sl ng, view_sl ng, scalar_sl ng, cells_sl ng, pure_sl ng, lenV_sl na, view_sl na, scalar_sl na, cells_sl na, pure_sl na, lenV_sl nw, view_sl nw, scalar_sl nw, cells_sl nw, pure_sl nw, lenV_sl tvs, view_sl tvs, scalar_sl tvs, cells_sl tvs, pure_sl tvs, c4, c5, c6, c7, c8, c9, hlen, d11, gUn]
  obtain ⟨b10, c10, hb10⟩ := s18 H hv hN (by omega)
  simp only [trV] at c10
  cases b10
  · refine Iso_of (es _ _ _ _) e3 ?_
    simp only [f3, trV, A.netV]
    simp (disch := first | assumption | omega | (simp only [az]; done)) only [ru, eq_self, if_true, if_false, BEq.rfl, binI, AO.row?, splice, fillL, mmAll, loadV, storeV, zeros, Am.rowAt, Am.part, addOff, Nat.reduceAdd, Nat.reduceMul, Nat.reduceLeDiff, Nat.reduceSub, Nat.reduceLT, Int.reduceEq, Int.reduceLT, Int.reduceLE, Int.reduceGT, Int.reduceGE, Int.reduceAdd, Int.reduceSub, Int.reduceMul, Int.reduceNeg, Int.reduceToNat, reduceCtorEq, reduceIte, lenV_sl ho, elem_sl Ls.el ho, view_sl ho, scalar_sl ho, cells_sl ho, pure_sl ho, lenV_sl hw, elem_sl Wd.el hw, view_sl hw, scalar_sl hw, cells_sl hw, pure_sl hw, lenV_sl hN, elem_sl Ls.el hN, view_sl hN, scalar_sl hN, cells_sl hN, pure_sl hN, lenV_sl ng, view_sl ng, scalar_sl ng, cells_sl ng, pure_sl ng, lenV_sl na, view_sl na, scalar_sl na, cells_sl na, pure_sl na, lenV_sl nw, view_sl nw, scalar_sl nw, cells_sl nw, pure_sl nw, lenV_sl tvs, view_sl tvs, scalar_sl tvs, cells_sl tvs, pure_sl tvs, c4, c5, c6, c7, c8, c9, hlen, c10, d11, gUn]
  have TN := hb10.1 rfl
  have V := valid_trb hv
  have h8 := valid_w8 hv
  have v1 := V.c0; have v2 := V.c1; have v3 := V.t0; have v4 := V.t1
  have eC := trC V; have eT := trT V
  have hx2 := inR_iff.1 hx
  obtain ⟨i, rfl⟩ : ∃ i : Nat, x = i := ⟨x.toNat, by omega⟩
  have hi : i < t.T := by omega
  have LT := TN.l
  obtain ⟨xt, tx, gx, _⟩ := num_tr V TN
  have sv : Solv t.C t.T t := ⟨xt, tx⟩
  obtain ⟨l, u, L0, U0, c12, E0⟩ := sEnds H hv sv hi
  obtain ⟨z, hz⟩ : ∃ z, z = L.getD i default := ⟨_, rfl⟩
  have rk := TN.r i hi
  have rz : rowN L i = z.list := by rw [hz]; rfl
  have lz : z.list.length = t.C := by rw [← rz]; exact rk.1
  have zc : ∀ c, c < t.C → z.list.getD c 0 = gap t.C xt i c := fun c hc => by rw [← gx i c hi hc, ← rz]; rfl
  have z0 : ∀ x ∈ z.list, 0 ≤ x := fun x hx => by rw [← rz] at hx; exact (rowK_mem rk x hx).1
  have nn0 := E0.nn hi
  have dk := A.dgd HN HV G (F := L0) (fv := l) E0.il nn0.1
  have dl := A.dgd HN HV G (F := z.list) (fv := z.v) z.is z0
  have dm := A.dgd HN HV G (F := U0) (fv := u) E0.iu nn0.2
  have na40 : n.ancs.length ≤ 40 := HN.sa
  have ik := A.resL_is (A.dragOf n tr L0)
  have il := A.resL_is (A.dragOf n tr z.list)
  have im := A.resL_is (A.dragOf n tr U0)
  have ik0 := ik
  have ilz := il
  have im0 := im
  have l0 : L0.length = z.list.length := E0.ll.trans lz.symm
  have u0 : z.list.length = U0.length := lz.trans E0.lu.symm
  have p1 := fun st => A.s54 ik il (drag_len na40) (drag_len na40) (A.drag_part G nn0.1 z0 l0 fun c hc => by
    have hc' : c < t.C := by rw [← E0.ll]; exact hc
    have := (E0.mem tx hc').1
    have e := zc c hc'
    show L0.getD c 0 ≤ z.list.getD c 0
    omega) st
  have p2 := fun st => A.s54 il im (drag_len na40) (drag_len na40) (A.drag_part G z0 nn0.2 u0 fun c hc => by
    have hc' : c < t.C := by rw [← lz]; exact hc
    have := (E0.mem tx hc').2
    have e := zc c hc'
    show z.list.getD c 0 ≤ U0.getD c 0
    omega) st
  have c15 := fun st => s28 H y st
  have il0 := E0.il
  have iu0 := E0.iu
  have i0 : (0 : Int) ≤ i := by omega
  have i1 : (i : Int) < (L.length : Nat) := by omega
  obtain ⟨rk', ek⟩ : ∃ r, r = A.resL (A.dragOf n tr L0) := ⟨_, rfl⟩
  obtain ⟨rl', el⟩ : ∃ r, r = A.resL (A.dragOf n tr z.list) := ⟨_, rfl⟩
  obtain ⟨rm', em⟩ : ∃ r, r = A.resL (A.dragOf n tr U0) := ⟨_, rfl⟩
  rw [← ek] at dk ik p1
  rw [← el] at dl il p1 p2
  rw [← em] at dm im p2
  simp only [trV, A.netV, Wd.e] at c12 dk dl dm c15
  cases hW : isW t y
  · rw [hW] at c15
    refine Iso_of (es _ _ _ _) e3 ?_
    simp only [f3, trV, A.netV]
    simp (disch := first | assumption | omega | (simp only [az]; done)) only [ru, eq_self, if_true, if_false, BEq.rfl, binI, AO.row?, splice, fillL, mmAll, loadV, storeV, zeros, Am.rowAt, Am.part, addOff, Nat.reduceAdd, Nat.reduceMul, Nat.reduceLeDiff, Nat.reduceSub, Nat.reduceLT, Int.reduceEq, Int.reduceLT, Int.reduceLE, Int.reduceGT, Int.reduceGE, Int.reduceAdd, Int.reduceSub, Int.reduceMul, Int.reduceNeg, Int.reduceToNat, reduceCtorEq, reduceIte, lenV_sl ho, elem_sl Ls.el ho, view_sl ho, scalar_sl ho, cells_sl ho, pure_sl ho, lenV_sl hw, elem_sl Wd.el hw, view_sl hw, scalar_sl hw, cells_sl hw, pure_sl hw, lenV_sl hN, elem_sl Ls.el hN, view_sl hN, scalar_sl hN, cells_sl hN, pure_sl hN, lenV_sl ng, view_sl ng, scalar_sl ng, cells_sl ng, pure_sl ng, lenV_sl na, view_sl na, scalar_sl na, cells_sl na, pure_sl na, lenV_sl nw, view_sl nw, scalar_sl nw, cells_sl nw, pure_sl nw, lenV_sl tvs, view_sl tvs, scalar_sl tvs, cells_sl tvs, pure_sl tvs, c4, c5, c6, c7, c8, c9, hlen, c10, gUn]
    simp (disch := first | assumption | omega | (simp only [az]; done)) only [ru, eq_self, if_true, if_false, BEq.rfl, binI, AO.row?, splice, fillL, mmAll, loadV, storeV, zeros, Am.rowAt, Am.part, addOff, Nat.reduceAdd, Nat.reduceMul, Nat.reduceLeDiff, Nat.reduceSub, Nat.reduceLT, Int.reduceEq, Int.reduceLT, Int.reduceLE, Int.reduceGT, Int.reduceGE, Int.reduceAdd, Int.reduceSub, Int.reduceMul, Int.reduceNeg, Int.reduceToNat, reduceCtorEq, reduceIte, lenV_sl ho, elem_sl Ls.el ho, view_sl ho, scalar_sl ho, cells_sl ho, pure_sl ho, lenV_sl hw, elem_sl Wd.el hw, view_sl hw, scalar_sl hw, cells_sl hw, pure_sl hw, lenV_sl hN, elem_sl Ls.el hN, view_sl hN, scalar_sl hN, cells_sl hN, pure_sl hN, lenV_sl ng, view_sl ng, scalar_sl ng, cells_sl ng, pure_sl ng, lenV_sl na, view_sl na, scalar_sl na, cells_sl na, pure_sl na, lenV_sl nw, view_sl nw, scalar_sl nw, cells_sl nw, pure_sl nw, lenV_sl tvs, view_sl tvs, scalar_sl tvs, cells_sl tvs, pure_sl tvs, lenV_sl il0, elem_sl intE il0, view_sl il0, scalar_sl il0, cells_sl il0, pure_sl il0, lenV_sl iu0, elem_sl intE iu0, view_sl iu0, scalar_sl iu0, cells_sl iu0, pure_sl iu0, lenV_sl z.is, elem_sl intE z.is, view_sl z.is, scalar_sl z.is, cells_sl z.is, pure_sl z.is, lenV_sl ik, elem_sl intE ik, view_sl ik, scalar_sl ik, cells_sl ik, pure_sl ik, lenV_sl il, elem_sl intE il, view_sl il, scalar_sl il, cells_sl il, pure_sl il, lenV_sl im, elem_sl intE im, view_sl im, scalar_sl im, cells_sl im, pure_sl im, i0, i1, Int.toNat_natCast, ← hz, Ls.e, c12, dk, dl, dm, p1, p2, c15, d11, gUn]
    done
  rw [hW] at c15
  have c16 := fun st => s35 H (by omega) y st
  have HA := add_ok H (by omega) y
  have c5n := fun st => s55 HA st
  have hq := HA.o
  have hq' := HA.w
  obtain ⟨o', eo⟩ : ∃ o', o' = cpO (t.add y).op := ⟨_, rfl⟩
  obtain ⟨w', ew⟩ : ∃ w', w' = slV 4 Wd.e (t.add y).ws := ⟨_, rfl⟩
  rw [← eo, ← ew] at HA
  rw [← eo] at hq
  rw [← ew] at hq'
  have c16' : ∀ st, Iso E 16 [.agg [I t.ch, I t.tm, o, w], .agg [I y.time, I y.ch, I y.lo, I y.hi]] st = some (.agg [I t.ch, I t.tm, o', w']) := by rw [eo, ew]; exact c16
  have c5n' : ∀ st, Iso E 5 [.agg [I t.ch, I t.tm, o', w']] st = some (I (chkE (t.add y).cp)) := by rw [eo, ew]; exact c5n
  clear c16 c5n
  cases hvn : (t.add y).cp.valid
  · have e10 : chkE (t.add y).cp = 10 := by unfold chkE; rw [hvn]; rfl
    rw [e10] at c5n'
    refine Iso_of (es _ _ _ _) e3 ?_
    simp only [f3, trV, A.netV]
    simp (disch := first | assumption | omega | (simp only [az]; done)) only [ru, eq_self, if_true, if_false, BEq.rfl, binI, AO.row?, splice, fillL, mmAll, loadV, storeV, zeros, Am.rowAt, Am.part, addOff, Nat.reduceAdd, Nat.reduceMul, Nat.reduceLeDiff, Nat.reduceSub, Nat.reduceLT, Int.reduceEq, Int.reduceLT, Int.reduceLE, Int.reduceGT, Int.reduceGE, Int.reduceAdd, Int.reduceSub, Int.reduceMul, Int.reduceNeg, Int.reduceToNat, reduceCtorEq, reduceIte, lenV_sl ho, elem_sl Ls.el ho, view_sl ho, scalar_sl ho, cells_sl ho, pure_sl ho, lenV_sl hw, elem_sl Wd.el hw, view_sl hw, scalar_sl hw, cells_sl hw, pure_sl hw, lenV_sl hN, elem_sl Ls.el hN, view_sl hN, scalar_sl hN, cells_sl hN, pure_sl hN, lenV_sl ng, view_sl ng, scalar_sl ng, cells_sl ng, pure_sl ng, lenV_sl na, view_sl na, scalar_sl na, cells_sl na, pure_sl na, lenV_sl nw, view_sl nw, scalar_sl nw, cells_sl nw, pure_sl nw, lenV_sl tvs, view_sl tvs, scalar_sl tvs, cells_sl tvs, pure_sl tvs, c4, c5, c6, c7, c8, c9, hlen, c10, gUn]
    simp (disch := first | assumption | omega | (simp only [az]; done)) only [ru, eq_self, if_true, if_false, BEq.rfl, binI, AO.row?, splice, fillL, mmAll, loadV, storeV, zeros, Am.rowAt, Am.part, addOff, Nat.reduceAdd, Nat.reduceMul, Nat.reduceLeDiff, Nat.reduceSub, Nat.reduceLT, Int.reduceEq, Int.reduceLT, Int.reduceLE, Int.reduceGT, Int.reduceGE, Int.reduceAdd, Int.reduceSub, Int.reduceMul, Int.reduceNeg, Int.reduceToNat, reduceCtorEq, reduceIte, lenV_sl ho, elem_sl Ls.el ho, view_sl ho, scalar_sl ho, cells_sl ho, pure_sl ho, lenV_sl hw, elem_sl Wd.el hw, view_sl hw, scalar_sl hw, cells_sl hw, pure_sl hw, lenV_sl hN, elem_sl Ls.el hN, view_sl hN, scalar_sl hN, cells_sl hN, pure_sl hN, lenV_sl ng, view_sl ng, scalar_sl ng, cells_sl ng, pure_sl ng, lenV_sl na, view_sl na, scalar_sl na, cells_sl na, pure_sl na, lenV_sl nw, view_sl nw, scalar_sl nw, cells_sl nw, pure_sl nw, lenV_sl tvs, view_sl tvs, scalar_sl tvs, cells_sl tvs, pure_sl tvs, lenV_sl il0, elem_sl intE il0, view_sl il0, scalar_sl il0, cells_sl il0, pure_sl il0, lenV_sl iu0, elem_sl intE iu0, view_sl iu0, scalar_sl iu0, cells_sl iu0, pure_sl iu0, lenV_sl z.is, elem_sl intE z.is, view_sl z.is, scalar_sl z.is, cells_sl z.is, pure_sl z.is, lenV_sl ik, elem_sl intE ik, view_sl ik, scalar_sl ik, cells_sl ik, pure_sl ik, lenV_sl il, elem_sl intE il, view_sl il, scalar_sl il, cells_sl il, pure_sl il, lenV_sl im, elem_sl intE im, view_sl im, scalar_sl im, cells_sl im, pure_sl im, i0, i1, Int.toNat_natCast, ← hz, Ls.e, c12, dk, dl, dm, p1, p2, c15, gUn]
    simp (disch := first | assumption | omega | (simp only [az]; done)) only [ru, eq_self, if_true, if_false, BEq.rfl, binI, AO.row?, splice, fillL, mmAll, loadV, storeV, zeros, Am.rowAt, Am.part, addOff, Nat.reduceAdd, Nat.reduceMul, Nat.reduceLeDiff, Nat.reduceSub, Nat.reduceLT, Int.reduceEq, Int.reduceLT, Int.reduceLE, Int.reduceGT, Int.reduceGE, Int.reduceAdd, Int.reduceSub, Int.reduceMul, Int.reduceNeg, Int.reduceToNat, reduceCtorEq, reduceIte, lenV_sl ho, elem_sl Ls.el ho, view_sl ho, scalar_sl ho, cells_sl ho, pure_sl ho, lenV_sl hw, elem_sl Wd.el hw, view_sl hw, scalar_sl hw, cells_sl hw, pure_sl hw, lenV_sl hq, elem_sl Ls.el hq, view_sl hq, scalar_sl hq, cells_sl hq, pure_sl hq, lenV_sl hq', elem_sl Wd.el hq', view_sl hq', scalar_sl hq', cells_sl hq', pure_sl hq', lenV_sl hN, elem_sl Ls.el hN, view_sl hN, scalar_sl hN, cells_sl hN, pure_sl hN, lenV_sl ng, view_sl ng, scalar_sl ng, cells_sl ng, pure_sl ng, lenV_sl na, view_sl na, scalar_sl na, cells_sl na, pure_sl na, lenV_sl nw, view_sl nw, scalar_sl nw, cells_sl nw, pure_sl nw, lenV_sl tvs, view_sl tvs, scalar_sl tvs, cells_sl tvs, pure_sl tvs, c16', c5n', d11, gUn]
    done
  have e10 : chkE (t.add y).cp = 0 := by unfold chkE; rw [hvn]; rfl
  rw [e10] at c5n'
  obtain ⟨b11, c11, hb11⟩ := s18 HA hvn hN (by omega)
  have c11' : ∀ st, Iso E 10 [.agg [I t.ch, I t.tm, o', w'], nv] st = some (Bo b11) := c11
  cases b11
  · refine Iso_of (es _ _ _ _) e3 ?_
    simp only [f3, trV, A.netV]
    simp (disch := first | assumption | omega | (simp only [az]; done)) only [ru, eq_self, if_true, if_false, BEq.rfl, binI, AO.row?, splice, fillL, mmAll, loadV, storeV, zeros, Am.rowAt, Am.part, addOff, Nat.reduceAdd, Nat.reduceMul, Nat.reduceLeDiff, Nat.reduceSub, Nat.reduceLT, Int.reduceEq, Int.reduceLT, Int.reduceLE, Int.reduceGT, Int.reduceGE, Int.reduceAdd, Int.reduceSub, Int.reduceMul, Int.reduceNeg, Int.reduceToNat, reduceCtorEq, reduceIte, lenV_sl ho, elem_sl Ls.el ho, view_sl ho, scalar_sl ho, cells_sl ho, pure_sl ho, lenV_sl hw, elem_sl Wd.el hw, view_sl hw, scalar_sl hw, cells_sl hw, pure_sl hw, lenV_sl hN, elem_sl Ls.el hN, view_sl hN, scalar_sl hN, cells_sl hN, pure_sl hN, lenV_sl ng, view_sl ng, scalar_sl ng, cells_sl ng, pure_sl ng, lenV_sl na, view_sl na, scalar_sl na, cells_sl na, pure_sl na, lenV_sl nw, view_sl nw, scalar_sl nw, cells_sl nw, pure_sl nw, lenV_sl tvs, view_sl tvs, scalar_sl tvs, cells_sl tvs, pure_sl tvs, c4, c5, c6, c7, c8, c9, hlen, c10, gUn]
    simp (disch := first | assumption | omega | (simp only [az]; done)) only [ru, eq_self, if_true, if_false, BEq.rfl, binI, AO.row?, splice, fillL, mmAll, loadV, storeV, zeros, Am.rowAt, Am.part, addOff, Nat.reduceAdd, Nat.reduceMul, Nat.reduceLeDiff, Nat.reduceSub, Nat.reduceLT, Int.reduceEq, Int.reduceLT, Int.reduceLE, Int.reduceGT, Int.reduceGE, Int.reduceAdd, Int.reduceSub, Int.reduceMul, Int.reduceNeg, Int.reduceToNat, reduceCtorEq, reduceIte, lenV_sl ho, elem_sl Ls.el ho, view_sl ho, scalar_sl ho, cells_sl ho, pure_sl ho, lenV_sl hw, elem_sl Wd.el hw, view_sl hw, scalar_sl hw, cells_sl hw, pure_sl hw, lenV_sl hN, elem_sl Ls.el hN, view_sl hN, scalar_sl hN, cells_sl hN, pure_sl hN, lenV_sl ng, view_sl ng, scalar_sl ng, cells_sl ng, pure_sl ng, lenV_sl na, view_sl na, scalar_sl na, cells_sl na, pure_sl na, lenV_sl nw, view_sl nw, scalar_sl nw, cells_sl nw, pure_sl nw, lenV_sl tvs, view_sl tvs, scalar_sl tvs, cells_sl tvs, pure_sl tvs, lenV_sl il0, elem_sl intE il0, view_sl il0, scalar_sl il0, cells_sl il0, pure_sl il0, lenV_sl iu0, elem_sl intE iu0, view_sl iu0, scalar_sl iu0, cells_sl iu0, pure_sl iu0, lenV_sl z.is, elem_sl intE z.is, view_sl z.is, scalar_sl z.is, cells_sl z.is, pure_sl z.is, lenV_sl ik, elem_sl intE ik, view_sl ik, scalar_sl ik, cells_sl ik, pure_sl ik, lenV_sl il, elem_sl intE il, view_sl il, scalar_sl il, cells_sl il, pure_sl il, lenV_sl im, elem_sl intE im, view_sl im, scalar_sl im, cells_sl im, pure_sl im, i0, i1, Int.toNat_natCast, ← hz, Ls.e, c12, dk, dl, dm, p1, p2, c15, gUn]
    simp (disch := first | assumption | omega | (simp only [az]; done)) only [ru, eq_self, if_true, if_false, BEq.rfl, binI, AO.row?, splice, fillL, mmAll, loadV, storeV, zeros, Am.rowAt, Am.part, addOff, Nat.reduceAdd, Nat.reduceMul, Nat.reduceLeDiff, Nat.reduceSub, Nat.reduceLT, Int.reduceEq, Int.reduceLT, Int.reduceLE, Int.reduceGT, Int.reduceGE, Int.reduceAdd, Int.reduceSub, Int.reduceMul, Int.reduceNeg, Int.reduceToNat, reduceCtorEq, reduceIte, lenV_sl ho, elem_sl Ls.el ho, view_sl ho, scalar_sl ho, cells_sl ho, pure_sl ho, lenV_sl hw, elem_sl Wd.el hw, view_sl hw, scalar_sl hw, cells_sl hw, pure_sl hw, lenV_sl hq, elem_sl Ls.el hq, view_sl hq, scalar_sl hq, cells_sl hq, pure_sl hq, lenV_sl hq', elem_sl Wd.el hq', view_sl hq', scalar_sl hq', cells_sl hq', pure_sl hq', lenV_sl hN, elem_sl Ls.el hN, view_sl hN, scalar_sl hN, cells_sl hN, pure_sl hN, lenV_sl ng, view_sl ng, scalar_sl ng, cells_sl ng, pure_sl ng, lenV_sl na, view_sl na, scalar_sl na, cells_sl na, pure_sl na, lenV_sl nw, view_sl nw, scalar_sl nw, cells_sl nw, pure_sl nw, lenV_sl tvs, view_sl tvs, scalar_sl tvs, cells_sl tvs, pure_sl tvs, c16', c5n', c11', d11, gUn]
    done
  have TN2 : TruN (t.add y) L := trN_cp.1 (hb11.1 rfl)
  have vA : (t.add y).valid = true := cp_valid.symm.trans hvn
  obtain ⟨xs, txs, gxs, _⟩ := num_tr (valid_trb vA) TN2
  have svA : Solv (t.add y).cp.C (t.add y).cp.T (t.add y).cp := solv_tr.2 ⟨xs, tr_cp.2 txs⟩
  obtain ⟨l2, u2, L2, U2, c12n, E2⟩ := sEnds HA hvn svA (i := i) hi
  have c12n' : ∀ st, Iso E 12 [.agg [I t.ch, I t.tm, o', w'], I i] st = some (.tup [l2, u2, Bo true]) := c12n
  have sub : ∀ x, Tr (t.add y).cp x → Tr t x := fun x hx => (tr_add.1 (tr_cp.1 hx)).1
  have zs : ∀ c, c < t.C → z.list.getD c 0 = gap t.C xs i c := fun c hc => by
    have := gxs i c hi hc
    rw [← rz]; exact this
  have nn2 := E2.nn hi
  have l2l : L2.length = t.C := E2.ll
  have u2l : U2.length = t.C := E2.lu
  have dp := A.dgd HN HV G (F := L2) (fv := l2) E2.il nn2.1
  have dq := A.dgd HN HV G (F := U2) (fv := u2) E2.iu nn2.2
  have ip := A.resL_is (A.dragOf n tr L2)
  have iq := A.resL_is (A.dragOf n tr U2)
  have p3 := fun st => A.s54 ik0 ip (drag_len na40) (drag_len na40) (A.drag_part G nn0.1 nn2.1 (E0.ll.trans l2l.symm) fun c hc => by
    have hc' : c < t.C := by rw [← E0.ll]; exact hc
    exact (E0.sub E2 rfl sub hc').1) st
  have p4 := fun st => A.s54 ip ilz (drag_len na40) (drag_len na40) (A.drag_part G nn2.1 z0 (l2l.trans lz.symm) fun c hc => by
    have hc' : c < t.C := by rw [← l2l]; exact hc
    have := (E2.mem (tr_cp.2 txs) hc').1
    have e := zs c hc'
    show L2.getD c 0 ≤ z.list.getD c 0
    rw [e]; exact this) st
  have p5 := fun st => A.s54 ilz iq (drag_len na40) (drag_len na40) (A.drag_part G z0 nn2.2 (lz.trans u2l.symm) fun c hc => by
    have hc' : c < t.C := by rw [← lz]; exact hc
    have := (E2.mem (tr_cp.2 txs) hc').2
    have e := zs c hc'
    show z.list.getD c 0 ≤ U2.getD c 0
    rw [e]; exact this) st
  have p6 := fun st => A.s54 iq im0 (drag_len na40) (drag_len na40) (A.drag_part G nn2.2 nn0.2 (u2l.trans E0.lu.symm) fun c hc => by
    have hc' : c < t.C := by rw [← u2l]; exact hc
    exact (E0.sub E2 rfl sub hc').2) st
  have il2 := E2.il
  have iu2 := E2.iu
  obtain ⟨rp', ep⟩ : ∃ r, r = A.resL (A.dragOf n tr L2) := ⟨_, rfl⟩
  obtain ⟨rq', eq⟩ : ∃ r, r = A.resL (A.dragOf n tr U2) := ⟨_, rfl⟩
  rw [← ep] at dp ip p3 p4
  rw [← eq] at dq iq p5 p6
  rw [← ek] at p3
  rw [← el] at p4 p5
  rw [← em] at p6
  simp only [A.netV] at dp dq
  refine Iso_of (es _ _ _ _) e3 ?_
  simp only [f3, trV, A.netV]
  simp (disch := first | assumption | omega | (simp only [az]; done)) only [ru, eq_self, if_true, if_false, BEq.rfl, binI, AO.row?, splice, fillL, mmAll, loadV, storeV, zeros, Am.rowAt, Am.part, addOff, Nat.reduceAdd, Nat.reduceMul, Nat.reduceLeDiff, Nat.reduceSub, Nat.reduceLT, Int.reduceEq, Int.reduceLT, Int.reduceLE, Int.reduceGT, Int.reduceGE, Int.reduceAdd, Int.reduceSub, Int.reduceMul, Int.reduceNeg, Int.reduceToNat, reduceCtorEq, reduceIte, lenV_sl ho, elem_sl Ls.el ho, view_sl ho, scalar_sl ho, cells_sl ho, pure_sl ho, lenV_sl hw, elem_sl Wd.el hw, view_sl hw, scalar_sl hw, cells_sl hw, pure_sl hw, lenV_sl hN, elem_sl Ls.el hN, view_sl hN, scalar_sl hN, cells_sl hN, pure_sl hN, lenV_sl ng, view_sl ng, scalar_sl ng, cells_sl ng, pure_sl ng, lenV_sl na, view_sl na, scalar_sl na, cells_sl na, pure_sl na, lenV_sl nw, view_sl nw, scalar_sl nw, cells_sl nw, pure_sl nw, lenV_sl tvs, view_sl tvs, scalar_sl tvs, cells_sl tvs, pure_sl tvs, c4, c5, c6, c7, c8, c9, hlen, c10, gUn]
  simp (disch := first | assumption | omega | (simp only [az]; done)) only [ru, eq_self, if_true, if_false, BEq.rfl, binI, AO.row?, splice, fillL, mmAll, loadV, storeV, zeros, Am.rowAt, Am.part, addOff, Nat.reduceAdd, Nat.reduceMul, Nat.reduceLeDiff, Nat.reduceSub, Nat.reduceLT, Int.reduceEq, Int.reduceLT, Int.reduceLE, Int.reduceGT, Int.reduceGE, Int.reduceAdd, Int.reduceSub, Int.reduceMul, Int.reduceNeg, Int.reduceToNat, reduceCtorEq, reduceIte, lenV_sl ho, elem_sl Ls.el ho, view_sl ho, scalar_sl ho, cells_sl ho, pure_sl ho, lenV_sl hw, elem_sl Wd.el hw, view_sl hw, scalar_sl hw, cells_sl hw, pure_sl hw, lenV_sl hN, elem_sl Ls.el hN, view_sl hN, scalar_sl hN, cells_sl hN, pure_sl hN, lenV_sl ng, view_sl ng, scalar_sl ng, cells_sl ng, pure_sl ng, lenV_sl na, view_sl na, scalar_sl na, cells_sl na, pure_sl na, lenV_sl nw, view_sl nw, scalar_sl nw, cells_sl nw, pure_sl nw, lenV_sl tvs, view_sl tvs, scalar_sl tvs, cells_sl tvs, pure_sl tvs, lenV_sl il0, elem_sl intE il0, view_sl il0, scalar_sl il0, cells_sl il0, pure_sl il0, lenV_sl iu0, elem_sl intE iu0, view_sl iu0, scalar_sl iu0, cells_sl iu0, pure_sl iu0, lenV_sl z.is, elem_sl intE z.is, view_sl z.is, scalar_sl z.is, cells_sl z.is, pure_sl z.is, lenV_sl ik, elem_sl intE ik, view_sl ik, scalar_sl ik, cells_sl ik, pure_sl ik, lenV_sl il, elem_sl intE il, view_sl il, scalar_sl il, cells_sl il, pure_sl il, lenV_sl im, elem_sl intE im, view_sl im, scalar_sl im, cells_sl im, pure_sl im, i0, i1, Int.toNat_natCast, ← hz, Ls.e, c12, dk, dl, dm, p1, p2, c15, gUn]
  simp (disch := first | assumption | omega | (simp only [az]; done)) only [ru, eq_self, if_true, if_false, BEq.rfl, binI, AO.row?, splice, fillL, mmAll, loadV, storeV, zeros, Am.rowAt, Am.part, addOff, Nat.reduceAdd, Nat.reduceMul, Nat.reduceLeDiff, Nat.reduceSub, Nat.reduceLT, Int.reduceEq, Int.reduceLT, Int.reduceLE, Int.reduceGT, Int.reduceGE, Int.reduceAdd, Int.reduceSub, Int.reduceMul, Int.reduceNeg, Int.reduceToNat, reduceCtorEq, reduceIte, lenV_sl ho, elem_sl Ls.el ho, view_sl ho, scalar_sl ho, cells_sl ho, pure_sl ho, lenV_sl hw, elem_sl Wd.el hw, view_sl hw, scalar_sl hw, cells_sl hw, pure_sl hw, lenV_sl hq, elem_sl Ls.el hq, view_sl hq, scalar_sl hq, cells_sl hq, pure_sl hq, lenV_sl hq', elem_sl Wd.el hq', view_sl hq', scalar_sl hq', cells_sl hq', pure_sl hq', lenV_sl hN, elem_sl Ls.el hN, view_sl hN, scalar_sl hN, cells_sl hN, pure_sl hN, lenV_sl ng, view_sl ng, scalar_sl ng, cells_sl ng, pure_sl ng, lenV_sl na, view_sl na, scalar_sl na, cells_sl na, pure_sl na, lenV_sl nw, view_sl nw, scalar_sl nw, cells_sl nw, pure_sl nw, lenV_sl tvs, view_sl tvs, scalar_sl tvs, cells_sl tvs, pure_sl tvs, c16', c5n', c11', gUn]
  simp (disch := first | assumption | omega | (simp only [az]; done)) only [ru, eq_self, if_true, if_false, BEq.rfl, binI, AO.row?, splice, fillL, mmAll, loadV, storeV, zeros, Am.rowAt, Am.part, addOff, Nat.reduceAdd, Nat.reduceMul, Nat.reduceLeDiff, Nat.reduceSub, Nat.reduceLT, Int.reduceEq, Int.reduceLT, Int.reduceLE, Int.reduceGT, Int.reduceGE, Int.reduceAdd, Int.reduceSub, Int.reduceMul, Int.reduceNeg, Int.reduceToNat, reduceCtorEq, reduceIte, lenV_sl ho, elem_sl Ls.el ho, view_sl ho, scalar_sl ho, cells_sl ho, pure_sl ho, lenV_sl hw, elem_sl Wd.el hw, view_sl hw, scalar_sl hw, cells_sl hw, pure_sl hw, lenV_sl hq, elem_sl Ls.el hq, view_sl hq, scalar_sl hq, cells_sl hq, pure_sl hq, lenV_sl hq', elem_sl Wd.el hq', view_sl hq', scalar_sl hq', cells_sl hq', pure_sl hq', lenV_sl hN, elem_sl Ls.el hN, view_sl hN, scalar_sl hN, cells_sl hN, pure_sl hN, lenV_sl ng, view_sl ng, scalar_sl ng, cells_sl ng, pure_sl ng, lenV_sl na, view_sl na, scalar_sl na, cells_sl na, pure_sl na, lenV_sl nw, view_sl nw, scalar_sl nw, cells_sl nw, pure_sl nw, lenV_sl tvs, view_sl tvs, scalar_sl tvs, cells_sl tvs, pure_sl tvs, lenV_sl il2, elem_sl intE il2, view_sl il2, scalar_sl il2, cells_sl il2, pure_sl il2, lenV_sl iu2, elem_sl intE iu2, view_sl iu2, scalar_sl iu2, cells_sl iu2, pure_sl iu2, lenV_sl ik, elem_sl intE ik, view_sl ik, scalar_sl ik, cells_sl ik, pure_sl ik, lenV_sl il, elem_sl intE il, view_sl il, scalar_sl il, cells_sl il, pure_sl il, lenV_sl im, elem_sl intE im, view_sl im, scalar_sl im, cells_sl im, pure_sl im, lenV_sl ip, elem_sl intE ip, view_sl ip, scalar_sl ip, cells_sl ip, pure_sl ip, lenV_sl iq, elem_sl intE iq, view_sl iq, scalar_sl iq, cells_sl iq, pure_sl iq, c12n', dp, dq, p3, p4, p5, p6, d11, gUn]
  done
end Go.Proofs.Ytjgbiclbpgkfeaa.S
