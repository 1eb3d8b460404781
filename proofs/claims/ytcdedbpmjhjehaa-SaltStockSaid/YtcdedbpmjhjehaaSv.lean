/-
The laws that compare with the specification: SaltParts, SaltLeast, SaltWhere, SaltStock.
-/
import Derived.Test.YtcdedbpmjhjehaaS3
namespace Go.Proofs.Ytcdedbpmjhjehaa.S
open Go Go.Am Go.Proofs.Ytcdedbpmjhjehaa.T
set_option maxRecDepth 100000
set_option linter.unusedSimpArgs false
set_option linter.unusedVariables false

section
variable {h : Hs} {k p b : AV}
abbrev cK (h : Hs) : AV := slV 2 Kd.e h.ks
abbrev cP (h : Hs) : AV := slV 2 Pr.e h.ps
abbrev cB (h : Hs) : AV := slV 1 intL h.bs
theorem cp_ok (H : HsOk h k p b) : HsOk h (cK h) (cP h) (cB h) := { toHsIn := cpV_in, nk := H.nk, np := H.np, nb := H.nb }
theorem far_ok (H : HsIn h k p b) (hf : h.far = false) : HsOk h k p b := huge_ok H (by
  unfold Hs.far at hf
  cases hh : h.huge with
  | false => rfl
  | true => rw [hh] at hf; cases hf)
/-- a copy whose lists are not looked into -/
theorem cp_ex (H : HsOk h k p b) : ∃ k' p' b', HsOk h k' p' b' ∧ ∀ st, Iso E 17 [.agg [k, I h.fl, p, b]] st = some (.agg [k', I h.fl, p', b']) := ⟨cK h, cP h, cB h, cp_ok H, fun st => s17 H st⟩
theorem bsf_len (H : HsOk h k p b) : (if askE h.valid true h.pk = 0 then (bsf h.sa h.pk).getD [] else []).length ≤ 100000 := by
  split
  · rename_i he
    obtain ⟨hv, _, hp⟩ := askE_iff.1 he
    obtain ⟨x, hx, hm, _⟩ := bsf_some (f := h.sa) hp
    have := pk_len (valid_iff.1 hv) hm
    have := H.np
    rw [hx, Option.getD_some]; omega
  · simp
set_option maxHeartbeats 4000000 in
theorem s4 (H0 : HsIn h k p b) : Iso E 4 [hsV h.fl k p b] false = some (Bo true) := by
  have a0 := fun st => s29 H0 st
  simp only [hsV] at a0
  refine Iso_of (es _ _ _ _) e4 ?_
  simp only [f4, hsV]
  cases hf : h.far
  case true => simp (disch := first | assumption | omega | (simp only [az]; done)) only [ru, eq_self, if_true, if_false, BEq.rfl, binI, AO.row?, splice, fillL, mmAll, loadV, storeV, zeros, Am.rowAt, Am.part, addOff, Nat.reduceAdd, Nat.reduceMul, Nat.reduceLeDiff, Nat.reduceSub, Nat.reduceLT, Int.reduceEq, Int.reduceLT, Int.reduceLE, Int.reduceGT, Int.reduceGE, Int.reduceAdd, Int.reduceSub, Int.reduceMul, Int.reduceNeg, Int.reduceToNat, reduceCtorEq, reduceIte, lenV_sl H0.k, lenV_sl H0.p, lenV_sl H0.b, elem_kd H0.k, elem_pr H0.p, elem_in H0.b, view_sl H0.k, view_sl H0.p, view_sl H0.b, scalar_sl H0.k, scalar_sl H0.p, scalar_sl H0.b, cells_sl H0.k, cells_sl H0.p, cells_sl H0.b, pure_sl H0.k, pure_sl H0.p, pure_sl H0.b, Int.toNat_natCast, a0, hf, s16]
  have H := far_ok H0 hf
  obtain ⟨k', p', b', H', a17⟩ := cp_ex H
  have a30 := fun st => s30 H' st
  have a31 := s31 H
  have a32 := s32 H'
  have a33 := s33 H
  have a34 := fun st => s34 H' st
  have a35 := s35 H
  have a27 := fun st => s27 H' H st
  have bl := bsf_len H
  simp only [hsV, ansN] at a30 a31 a32 a33 a34 a35 a27
  obtain ⟨U, hU⟩ : ∃ U, U = (if askE h.valid true h.pk = 0 then slV 1 intL ((bsf h.sa h.pk).getD []) else .nils) := ⟨_, rfl⟩
  obtain ⟨W, hW⟩ : ∃ W, W = (if askE h.valid true h.pk = 0 then resL ((bsf h.sa h.pk).getD []) else .nils) := ⟨_, rfl⟩
  have IU : IsSl 1 intL (if askE h.valid true h.pk = 0 then (bsf h.sa h.pk).getD [] else []) U := by
    rw [hU]; split
    · exact slV_is
    · exact .inr ⟨rfl, rfl⟩
  have IW : IsSl 1 intL (if askE h.valid true h.pk = 0 then (bsf h.sa h.pk).getD [] else []) W := by
    rw [hW]; split
    · exact resL_is _
    · exact .inr ⟨rfl, rfl⟩
  have a28 := fun st => s28 IU IW bl st
  rw [← hU] at a32
  rw [← hW] at a33
  obtain ⟨x1, hx1⟩ : ∃ x, x = (if askE h.valid true h.pk = 0 then lsf h.sa h.pk else 0) := ⟨_, rfl⟩
  obtain ⟨x2, hx2⟩ : ∃ x, x = (if askE h.valid true h.pk = 0 then lsf h.us h.pk else 0) := ⟨_, rfl⟩
  rw [← hx1] at a30 a31
  rw [← hx2] at a34 a35
  obtain ⟨e, he⟩ : ∃ e, e = askE h.valid true h.pk := ⟨_, rfl⟩
  rw [← he] at a30 a31 a32 a33 a34 a35
  simp (disch := first | assumption | omega | (simp only [az]; done)) only [ru, eq_self, if_true, if_false, BEq.rfl, binI, AO.row?, splice, fillL, mmAll, loadV, storeV, zeros, Am.rowAt, Am.part, addOff, Nat.reduceAdd, Nat.reduceMul, Nat.reduceLeDiff, Nat.reduceSub, Nat.reduceLT, Int.reduceEq, Int.reduceLT, Int.reduceLE, Int.reduceGT, Int.reduceGE, Int.reduceAdd, Int.reduceSub, Int.reduceMul, Int.reduceNeg, Int.reduceToNat, reduceCtorEq, reduceIte, lenV_sl H0.k, lenV_sl H0.p, lenV_sl H0.b, elem_kd H0.k, elem_pr H0.p, elem_in H0.b, view_sl H0.k, view_sl H0.p, view_sl H0.b, scalar_sl H0.k, scalar_sl H0.p, scalar_sl H0.b, cells_sl H0.k, cells_sl H0.p, cells_sl H0.b, pure_sl H0.k, pure_sl H0.p, pure_sl H0.b, Int.toNat_natCast, lenV_sl H'.k, lenV_sl H'.p, lenV_sl H'.b, elem_kd H'.k, elem_pr H'.p, elem_in H'.b, view_sl H'.k, view_sl H'.p, view_sl H'.b, scalar_sl H'.k, scalar_sl H'.p, scalar_sl H'.b, cells_sl H'.k, cells_sl H'.p, cells_sl H'.b, pure_sl H'.k, pure_sl H'.p, pure_sl H'.b, Int.toNat_natCast, lenV_sl IU, elem_in IU, view_sl IU, scalar_sl IU, cells_sl IU, pure_sl IU, Int.toNat_natCast, lenV_sl IW, elem_in IW, view_sl IW, scalar_sl IW, cells_sl IW, pure_sl IW, Int.toNat_natCast, a0, hf, a17, a30, a31, a32, a33, a34, a35, a27, a28, s16, decide_true]
theorem ansL_is {e : Int} {l : List Int} : ∃ U, IsSl 1 intL (if e = 0 then l else []) U ∧ ansL e l = .tup [U, I e] := by
  refine ⟨if e = 0 then resL l else .nils, ?_, rfl⟩
  split
  · exact resL_is _
  · exact .inr ⟨rfl, rfl⟩
theorem whr_len (H : HsOk h k p b) {q : Nat} {e : Int} : (if e = 0 then h.whr q else []).length ≤ 100000 := by
  have := H.nb
  split
  · exact Nat.le_trans idx_len (by omega)
  · simp
theorem spr_len (H : HsOk h k p b) {e : Int} : (if e = 0 then h.spr else []).length ≤ 100000 := by
  have := H.nb
  split
  · exact Nat.le_trans idx_len (by omega)
  · simp
set_option maxHeartbeats 4000000 in
theorem s5 (H0 : HsIn h k p b) (q d : Int) : Iso E 5 [hsV h.fl k p b, I q, I d] false = some (Bo true) := by
  have a0 := fun st => s29 H0 st
  simp only [hsV] at a0
  refine Iso_of (es _ _ _ _) e5 ?_
  simp only [f5, hsV]
  cases hf : h.far
  case true => simp (disch := first | assumption | omega | (simp only [az]; done)) only [ru, eq_self, if_true, if_false, BEq.rfl, binI, AO.row?, splice, fillL, mmAll, loadV, storeV, zeros, Am.rowAt, Am.part, addOff, Nat.reduceAdd, Nat.reduceMul, Nat.reduceLeDiff, Nat.reduceSub, Nat.reduceLT, Int.reduceEq, Int.reduceLT, Int.reduceLE, Int.reduceGT, Int.reduceGE, Int.reduceAdd, Int.reduceSub, Int.reduceMul, Int.reduceNeg, Int.reduceToNat, reduceCtorEq, reduceIte, lenV_sl H0.k, lenV_sl H0.p, lenV_sl H0.b, elem_kd H0.k, elem_pr H0.p, elem_in H0.b, view_sl H0.k, view_sl H0.p, view_sl H0.b, scalar_sl H0.k, scalar_sl H0.p, scalar_sl H0.b, cells_sl H0.k, cells_sl H0.p, cells_sl H0.b, pure_sl H0.k, pure_sl H0.p, pure_sl H0.b, Int.toNat_natCast, a0, hf, s16]
  have H := far_ok H0 hf
  obtain ⟨k', p', b', H', a17⟩ := cp_ex H
  have a36 := fun st => s36 H' q st
  have a37 := s37 H q
  have a38 := fun st => s38 H' d st
  have a39 := s39 H d
  have a40 := fun st => s40 H' st
  have a41 := s41 H
  have a27 := fun st => s27 H' H st
  obtain ⟨U, IU, hU⟩ := ansL_is (e := askE h.valid (inR q 0 (h.ps.length - 1)) h.pk) (l := h.whr q.toNat)
  obtain ⟨W, IW, hW⟩ := ansL_is (e := askE h.valid true h.pk) (l := h.spr)
  rw [hU] at a36 a37
  rw [hW] at a40 a41
  have a28 := fun st => s28 IU IU (whr_len H) st
  have c28 := fun st => s28 IW IW (spr_len H) st
  simp only [hsV, ansN] at a36 a37 a38 a39 a40 a41 a27
  obtain ⟨x1, hx1⟩ : ∃ x, x = (if askE h.valid (inR d 0 20) h.pk = 0 then mst (h.ea d) h.pk else 0) := ⟨_, rfl⟩
  rw [← hx1] at a38 a39
  obtain ⟨y1, hy1⟩ : ∃ e, e = askE h.valid (inR q 0 (h.ps.length - 1)) h.pk := ⟨_, rfl⟩
  obtain ⟨y2, hy2⟩ : ∃ e, e = askE h.valid (inR d 0 20) h.pk := ⟨_, rfl⟩
  obtain ⟨y3, hy3⟩ : ∃ e, e = askE h.valid true h.pk := ⟨_, rfl⟩
  rw [← hy1] at a36 a37
  rw [← hy2] at a38 a39
  rw [← hy3] at a40 a41
  simp (disch := first | assumption | omega | (simp only [az]; done)) only [ru, eq_self, if_true, if_false, BEq.rfl, binI, AO.row?, splice, fillL, mmAll, loadV, storeV, zeros, Am.rowAt, Am.part, addOff, Nat.reduceAdd, Nat.reduceMul, Nat.reduceLeDiff, Nat.reduceSub, Nat.reduceLT, Int.reduceEq, Int.reduceLT, Int.reduceLE, Int.reduceGT, Int.reduceGE, Int.reduceAdd, Int.reduceSub, Int.reduceMul, Int.reduceNeg, Int.reduceToNat, reduceCtorEq, reduceIte, lenV_sl H0.k, lenV_sl H0.p, lenV_sl H0.b, elem_kd H0.k, elem_pr H0.p, elem_in H0.b, view_sl H0.k, view_sl H0.p, view_sl H0.b, scalar_sl H0.k, scalar_sl H0.p, scalar_sl H0.b, cells_sl H0.k, cells_sl H0.p, cells_sl H0.b, pure_sl H0.k, pure_sl H0.p, pure_sl H0.b, Int.toNat_natCast, lenV_sl H'.k, lenV_sl H'.p, lenV_sl H'.b, elem_kd H'.k, elem_pr H'.p, elem_in H'.b, view_sl H'.k, view_sl H'.p, view_sl H'.b, scalar_sl H'.k, scalar_sl H'.p, scalar_sl H'.b, cells_sl H'.k, cells_sl H'.p, cells_sl H'.b, pure_sl H'.k, pure_sl H'.p, pure_sl H'.b, Int.toNat_natCast, lenV_sl IU, elem_in IU, view_sl IU, scalar_sl IU, cells_sl IU, pure_sl IU, Int.toNat_natCast, lenV_sl IW, elem_in IW, view_sl IW, scalar_sl IW, cells_sl IW, pure_sl IW, Int.toNat_natCast, a0, hf, a17, a36, a37, a38, a39, a40, a41, a27, a28, c28, s16, decide_true]
set_option maxHeartbeats 4000000 in
theorem s6 (H0 : HsIn h k p b) (s : Int) : Iso E 6 [hsV h.fl k p b, I s] false = some (Bo true) := by
  have a0 := fun st => s29 H0 st
  simp only [hsV] at a0
  refine Iso_of (es _ _ _ _) e6 ?_
  simp only [f6, hsV]
  cases hf : h.far
  case true => simp (disch := first | assumption | omega | (simp only [az]; done)) only [ru, eq_self, if_true, if_false, BEq.rfl, binI, AO.row?, splice, fillL, mmAll, loadV, storeV, zeros, Am.rowAt, Am.part, addOff, Nat.reduceAdd, Nat.reduceMul, Nat.reduceLeDiff, Nat.reduceSub, Nat.reduceLT, Int.reduceEq, Int.reduceLT, Int.reduceLE, Int.reduceGT, Int.reduceGE, Int.reduceAdd, Int.reduceSub, Int.reduceMul, Int.reduceNeg, Int.reduceToNat, reduceCtorEq, reduceIte, lenV_sl H0.k, lenV_sl H0.p, lenV_sl H0.b, elem_kd H0.k, elem_pr H0.p, elem_in H0.b, view_sl H0.k, view_sl H0.p, view_sl H0.b, scalar_sl H0.k, scalar_sl H0.p, scalar_sl H0.b, cells_sl H0.k, cells_sl H0.p, cells_sl H0.b, pure_sl H0.k, pure_sl H0.p, pure_sl H0.b, Int.toNat_natCast, a0, hf, s16]
  have H := far_ok H0 hf
  obtain ⟨k', p', b', H', a17⟩ := cp_ex H
  have a42 := fun st => s42 H' s st
  have a43 := s43 H s
  have a44 := fun st => s44 H' st
  have a45 := fun st => s45 H st
  have a27 := fun st => s27 H' H st
  simp only [hsV, ansN, buyV] at a42 a43 a44 a45 a27
  obtain ⟨x1, hx1⟩ : ∃ x, x = (if askS h.valid (inR s 0 999) = 0 then mst (h.sto s) h.po else 0) := ⟨_, rfl⟩
  rw [← hx1] at a42 a43
  obtain ⟨y1, hy1⟩ : ∃ e, e = askS h.valid (inR s 0 999) := ⟨_, rfl⟩
  rw [← hy1] at a42 a43
  obtain ⟨x2, hx2⟩ : ∃ x, x = (if (h.valid && decide (h.pk = []) && decide (h.bs.length ≠ 4)) = true then buyN h else 0) := ⟨_, rfl⟩
  rw [← hx2] at a44 a45
  simp (disch := first | assumption | omega | (simp only [az]; done)) only [ru, eq_self, if_true, if_false, BEq.rfl, binI, AO.row?, splice, fillL, mmAll, loadV, storeV, zeros, Am.rowAt, Am.part, addOff, Nat.reduceAdd, Nat.reduceMul, Nat.reduceLeDiff, Nat.reduceSub, Nat.reduceLT, Int.reduceEq, Int.reduceLT, Int.reduceLE, Int.reduceGT, Int.reduceGE, Int.reduceAdd, Int.reduceSub, Int.reduceMul, Int.reduceNeg, Int.reduceToNat, reduceCtorEq, reduceIte, lenV_sl H0.k, lenV_sl H0.p, lenV_sl H0.b, elem_kd H0.k, elem_pr H0.p, elem_in H0.b, view_sl H0.k, view_sl H0.p, view_sl H0.b, scalar_sl H0.k, scalar_sl H0.p, scalar_sl H0.b, cells_sl H0.k, cells_sl H0.p, cells_sl H0.b, pure_sl H0.k, pure_sl H0.p, pure_sl H0.b, Int.toNat_natCast, lenV_sl H'.k, lenV_sl H'.p, lenV_sl H'.b, elem_kd H'.k, elem_pr H'.p, elem_in H'.b, view_sl H'.k, view_sl H'.p, view_sl H'.b, scalar_sl H'.k, scalar_sl H'.p, scalar_sl H'.b, cells_sl H'.k, cells_sl H'.p, cells_sl H'.b, pure_sl H'.k, pure_sl H'.p, pure_sl H'.b, Int.toNat_natCast, a0, hf, a17, a42, a43, a44, a45, a27, s16, decide_true]
set_option maxHeartbeats 8000000 in
theorem s3 (H0 : HsIn h k p b) {l x : List Int} {v w : AV} (V : IsSl 1 intL l v) (W : IsSl 1 intL x w) (c : Int) : Iso E 3 [hsV h.fl k p b, .agg [v, w, I c]] false = some (Bo true) := by
  have a0 := fun st => s15 H0 st
  simp only [hsV] at a0
  refine Iso_of (es _ _ _ _) e3 ?_
  simp only [f3, hsV]
  cases hf : h.huge
  case true => simp (disch := first | assumption | omega | (simp only [az]; done)) only [ru, eq_self, if_true, if_false, BEq.rfl, binI, AO.row?, splice, fillL, mmAll, loadV, storeV, zeros, Am.rowAt, Am.part, addOff, Nat.reduceAdd, Nat.reduceMul, Nat.reduceLeDiff, Nat.reduceSub, Nat.reduceLT, Int.reduceEq, Int.reduceLT, Int.reduceLE, Int.reduceGT, Int.reduceGE, Int.reduceAdd, Int.reduceSub, Int.reduceMul, Int.reduceNeg, Int.reduceToNat, reduceCtorEq, reduceIte, lenV_sl H0.k, lenV_sl H0.p, lenV_sl H0.b, elem_kd H0.k, elem_pr H0.p, elem_in H0.b, view_sl H0.k, view_sl H0.p, view_sl H0.b, scalar_sl H0.k, scalar_sl H0.p, scalar_sl H0.b, cells_sl H0.k, cells_sl H0.p, cells_sl H0.b, pure_sl H0.k, pure_sl H0.p, pure_sl H0.b, Int.toNat_natCast, lenV_sl V, elem_in V, view_sl V, scalar_sl V, cells_sl V, pure_sl V, Int.toNat_natCast, lenV_sl W, elem_in W, view_sl W, scalar_sl W, cells_sl W, pure_sl W, Int.toNat_natCast, a0, hf, s16, gUn]
  by_cases h1 : (l.length : Int) > 40
  · simp (disch := first | assumption | omega | (simp only [az]; done)) only [ru, eq_self, if_true, if_false, BEq.rfl, binI, AO.row?, splice, fillL, mmAll, loadV, storeV, zeros, Am.rowAt, Am.part, addOff, Nat.reduceAdd, Nat.reduceMul, Nat.reduceLeDiff, Nat.reduceSub, Nat.reduceLT, Int.reduceEq, Int.reduceLT, Int.reduceLE, Int.reduceGT, Int.reduceGE, Int.reduceAdd, Int.reduceSub, Int.reduceMul, Int.reduceNeg, Int.reduceToNat, reduceCtorEq, reduceIte, lenV_sl H0.k, lenV_sl H0.p, lenV_sl H0.b, elem_kd H0.k, elem_pr H0.p, elem_in H0.b, view_sl H0.k, view_sl H0.p, view_sl H0.b, scalar_sl H0.k, scalar_sl H0.p, scalar_sl H0.b, cells_sl H0.k, cells_sl H0.p, cells_sl H0.b, pure_sl H0.k, pure_sl H0.p, pure_sl H0.b, Int.toNat_natCast, lenV_sl V, elem_in V, view_sl V, scalar_sl V, cells_sl V, pure_sl V, Int.toNat_natCast, lenV_sl W, elem_in W, view_sl W, scalar_sl W, cells_sl W, pure_sl W, Int.toNat_natCast, a0, hf, h1, s16, gUn, decide_true]
    done
  by_cases h2 : (x.length : Int) > 40
  · simp (disch := first | assumption | omega | (simp only [az]; done)) only [ru, eq_self, if_true, if_false, BEq.rfl, binI, AO.row?, splice, fillL, mmAll, loadV, storeV, zeros, Am.rowAt, Am.part, addOff, Nat.reduceAdd, Nat.reduceMul, Nat.reduceLeDiff, Nat.reduceSub, Nat.reduceLT, Int.reduceEq, Int.reduceLT, Int.reduceLE, Int.reduceGT, Int.reduceGE, Int.reduceAdd, Int.reduceSub, Int.reduceMul, Int.reduceNeg, Int.reduceToNat, reduceCtorEq, reduceIte, lenV_sl H0.k, lenV_sl H0.p, lenV_sl H0.b, elem_kd H0.k, elem_pr H0.p, elem_in H0.b, view_sl H0.k, view_sl H0.p, view_sl H0.b, scalar_sl H0.k, scalar_sl H0.p, scalar_sl H0.b, cells_sl H0.k, cells_sl H0.p, cells_sl H0.b, pure_sl H0.k, pure_sl H0.p, pure_sl H0.b, Int.toNat_natCast, lenV_sl V, elem_in V, view_sl V, scalar_sl V, cells_sl V, pure_sl V, Int.toNat_natCast, lenV_sl W, elem_in W, view_sl W, scalar_sl W, cells_sl W, pure_sl W, Int.toNat_natCast, a0, hf, h1, h2, s16, gUn, decide_true, decide_false]
    done
  have H := huge_ok H0 hf
  obtain ⟨k', p', b', H', a17⟩ := cp_ex H
  have l1 : l.length ≤ 1000 := by omega
  have l2 : x.length ≤ 1000 := by omega
  obtain ⟨v', hv'⟩ : ∃ v', v' = slV 1 intL l := ⟨_, rfl⟩
  obtain ⟨w', hw'⟩ : ∃ w', w' = slV 1 intL x := ⟨_, rfl⟩
  have V' : IsSl 1 intL l v' := by rw [hv']; exact slV_is
  have W' : IsSl 1 intL x w' := by rw [hw']; exact slV_is
  have c1 := fun st => s18 V l1 st
  have c2 := fun st => s18 W l2 st
  rw [← hv'] at c1
  rw [← hw'] at c2
  have a19 := fun st => s19 H' st
  have a20 := fun st => s20 H st
  have a21 := fun st => s21 H' V' l1 st
  have a22 := fun st => s22 H V l1 st
  have a23 := fun st => s23 H' W' l2 st
  have a24 := fun st => s24 H W l2 st
  have a25 := fun st => s25 H' W' l2 c st
  have a26 := fun st => s26 H W l2 c st
  have a27 := fun st => s27 H' H st
  have a28 := fun st => s28 V' V (by omega) st
  have c28 := fun st => s28 W' W (by omega) st
  simp only [hsV, ansN, ansB] at a19 a20 a21 a22 a23 a24 a25 a26 a27
  obtain ⟨y1, hy1⟩ : ∃ e, e = askS h.valid (risB l 0 (h.ps.length - 1)) := ⟨_, rfl⟩
  obtain ⟨y2, hy2⟩ : ∃ e, e = askS h.valid (h.isP x && inR c 0 (h.bs.length - 1)) := ⟨_, rfl⟩
  rw [← hy1] at a21 a22
  rw [← hy2] at a25 a26
  obtain ⟨x1, hx1⟩ : ∃ z, z = (if y1 = 0 then slP h.ks h.fl (h.pts l) else 0) := ⟨_, rfl⟩
  obtain ⟨x2, hx2⟩ : ∃ z, z = (if y2 = 0 then lbP (prs h.ps x c) else 0) := ⟨_, rfl⟩
  obtain ⟨x3, hx3⟩ : ∃ z, z = (if y2 = 0 then slP h.ks h.fl (prs h.ps x c) else 0) := ⟨_, rfl⟩
  obtain ⟨x4, hx4⟩ : ∃ z, z = (if y2 = 0 then dyP h.ks (prs h.ps x c) else 0) := ⟨_, rfl⟩
  rw [← hx1] at a21 a22
  rw [← hx2, ← hx3, ← hx4] at a25 a26
  obtain ⟨z, hz⟩ : ∃ z, z = (h.valid && h.isP x) := ⟨_, rfl⟩
  obtain ⟨e, he⟩ : ∃ e, e = vE h.valid := ⟨_, rfl⟩
  rw [← hz, ← he] at a23 a24
  rw [← he] at a19 a20
  simp (disch := first | assumption | omega | (simp only [az]; done)) only [ru, eq_self, if_true, if_false, BEq.rfl, binI, AO.row?, splice, fillL, mmAll, loadV, storeV, zeros, Am.rowAt, Am.part, addOff, Nat.reduceAdd, Nat.reduceMul, Nat.reduceLeDiff, Nat.reduceSub, Nat.reduceLT, Int.reduceEq, Int.reduceLT, Int.reduceLE, Int.reduceGT, Int.reduceGE, Int.reduceAdd, Int.reduceSub, Int.reduceMul, Int.reduceNeg, Int.reduceToNat, reduceCtorEq, reduceIte, lenV_sl H0.k, lenV_sl H0.p, lenV_sl H0.b, elem_kd H0.k, elem_pr H0.p, elem_in H0.b, view_sl H0.k, view_sl H0.p, view_sl H0.b, scalar_sl H0.k, scalar_sl H0.p, scalar_sl H0.b, cells_sl H0.k, cells_sl H0.p, cells_sl H0.b, pure_sl H0.k, pure_sl H0.p, pure_sl H0.b, Int.toNat_natCast, lenV_sl H'.k, lenV_sl H'.p, lenV_sl H'.b, elem_kd H'.k, elem_pr H'.p, elem_in H'.b, view_sl H'.k, view_sl H'.p, view_sl H'.b, scalar_sl H'.k, scalar_sl H'.p, scalar_sl H'.b, cells_sl H'.k, cells_sl H'.p, cells_sl H'.b, pure_sl H'.k, pure_sl H'.p, pure_sl H'.b, Int.toNat_natCast, lenV_sl V, elem_in V, view_sl V, scalar_sl V, cells_sl V, pure_sl V, Int.toNat_natCast, lenV_sl W, elem_in W, view_sl W, scalar_sl W, cells_sl W, pure_sl W, Int.toNat_natCast, lenV_sl V', elem_in V', view_sl V', scalar_sl V', cells_sl V', pure_sl V', Int.toNat_natCast, lenV_sl W', elem_in W', view_sl W', scalar_sl W', cells_sl W', pure_sl W', Int.toNat_natCast, a0, hf, h1, h2, a17, c1, c2, a19, a20, a21, a22, a23, a24, a25, a26, a27, a28, c28, gUn, s16, decide_true, decide_false, GO_mcall1, hideN, hideC]
end
end Go.Proofs.Ytcdedbpmjhjehaa.S

