/-
What drags of a net that is loaded with fish.
-/
import Derived.Test.YtjgbiclbpgkfeaaTb
namespace Go.Proofs.Ytjgbiclbpgkfeaa.A
open Go Go.Am Go.Proofs.Ytjgbiclbpgkfeaa.T
open Go.Proofs.Ytjgbiclbpgkfeaa.S (setT setT0 atT atT0 getT getT0)
set_option maxRecDepth 100000
set_option linter.unusedSimpArgs false
set_option linter.unusedVariables false

theorem dgd {n : Net} {g a w : AV} (H : NetOk n g a w) {t : Tru} {v : AV} (V : TruOk t v) (G : Good n t) {F : List Int} {fv : AV} (hF : IsSl 1 (fun n => [I n]) F fv) (hn : ∀ x ∈ F, 0 ≤ x) :
    Iso E 13 [netV n g a w, fv, .agg [I t.wind, I t.cur, v]] false = some (.tup [resL (dragOf n t F), Bo true]) := by
  have sa := H.sa
  have c1 := fun st => ldd H hF st
  have c2 := fun st => s25 V st
  have e1 : (n.ld F).walls.length = n.walls.length := ldW_len
  have HL : NetOk (n.ld F) (slV 2 Spn.e n.grips) (slV 2 Anc.e n.ancs) (slV 5 Wal.e (ldW n.walls F)) := ⟨slV_is, slV_is, slV_is, H.sg, H.sa, by rw [e1]; exact H.sw⟩
  have c3 := s28 HL V.c
  have GL := ld_good (f := F) G hn
  have e0 := good_e GL
  have ea : ansL (n.ld F) t (lfp (n.ld F) t none6) = .tup [resL (dragOf n t F), I 0] := by
    unfold ansL
    rw [e0]; rfl
  rw [ea] at c3
  have ir := resL_is (dragOf n t F)
  have lr : (dragOf n t F).length ≤ 1000000 := by
    have : (lst n (lfp (n.ld F) t none6)).length ≤ n.ancs.length := by
      unfold lst
      rw [List.length_map]
      have := List.length_filter_le (lfp (n.ld F) t none6) (List.range n.ancs.length)
      rwa [List.length_range] at this
    show (lst n (lfp (n.ld F) t none6)).length ≤ _
    omega
  have c4 := fun st => s53 ir lr (lst_rises n (lfp (n.ld F) t none6)) st
  have w1 : wr .i64 ((n.ancs.length : Int) - 1) = (n.ancs.length : Int) - 1 := wr64 (by omega) (by omega)
  obtain ⟨D, hD⟩ : ∃ D, D = dragOf n t F := ⟨_, rfl⟩
  obtain ⟨rv, hr⟩ : ∃ rv, rv = resL (dragOf n t F) := ⟨_, rfl⟩
  rw [← hr] at c3 c4 ir ⊢
  have i1 := HL.g; have i2 := HL.a; have i3 := HL.w
  have i4 := V.c.s
  obtain ⟨g', hg⟩ : ∃ x, x = slV 2 Spn.e n.grips := ⟨_, rfl⟩
  obtain ⟨a', ha⟩ : ∃ x, x = slV 2 Anc.e n.ancs := ⟨_, rfl⟩
  obtain ⟨w', hw⟩ : ∃ x, x = slV 5 Wal.e (ldW n.walls F) := ⟨_, rfl⟩
  obtain ⟨v', hv⟩ : ∃ x, x = slV 1 (fun n => [I n]) t.grips := ⟨_, rfl⟩
  rw [← hg] at i1
  rw [← ha] at i2
  rw [← hw] at i3
  rw [← hv] at i4
  have f1 : (n.ld F).wind = n.wind := rfl
  have f2 : (n.ld F).cur = n.cur := rfl
  have f3 : (n.ld F).grips = n.grips := rfl
  have f4 : (n.ld F).ancs = n.ancs := rfl
  have f5 : (n.ld F).walls = ldW n.walls F := rfl
  simp only [netC, netV, f1, f2, f3, f4, f5, ← hg, ← ha, ← hw, ← hv] at c1 c2 c3 i1 i2 i3
  refine Iso_of (es _ _ _ _) e13 ?_
  simp only [f13, netV]
  simp (disch := first | assumption | omega | (simp only [az]; done)) only [ru, eq_self, if_true, if_false, BEq.rfl, binI, AO.row?, splice, fillL, mmAll, loadV, storeV, zeros, Am.rowAt, Am.part, addOff, Nat.reduceAdd, Nat.reduceMul, Nat.reduceLeDiff, Nat.reduceSub, Nat.reduceLT, Int.reduceEq, Int.reduceLT, Int.reduceLE, Int.reduceGT, Int.reduceGE, Int.reduceAdd, Int.reduceSub, Int.reduceMul, Int.reduceNeg, Int.reduceToNat, reduceCtorEq, reduceIte, lenV_sl H.g, lenV_sl H.a, lenV_sl H.w, elem_sl Spn.el H.g, elem_sl Anc.el H.a, elem_sl Wal.el H.w, view_sl H.g, view_sl H.a, view_sl H.w, scalar_sl H.g, scalar_sl H.a, scalar_sl H.w, cells_sl H.g, cells_sl H.a, cells_sl H.w, pure_sl H.g, pure_sl H.a, pure_sl H.w, Spn.e, Anc.e, Wal.e, Spn.eta, Anc.eta, Wal.eta, Int.toNat_natCast, lenV_sl V.s, elem_sl intE V.s, view_sl V.s, scalar_sl V.s, cells_sl V.s, pure_sl V.s, lenV_sl hF, elem_sl intE hF, view_sl hF, scalar_sl hF, cells_sl hF, pure_sl hF, c1, c2, c3, c4, w1, gUn, lenV_sl ir, elem_sl intE ir, view_sl ir, scalar_sl ir, cells_sl ir, pure_sl ir, lenV_sl i4, elem_sl intE i4, view_sl i4, scalar_sl i4, cells_sl i4, pure_sl i4, view_sl i1, view_sl i2, view_sl i3, pure_sl i1, pure_sl i2, pure_sl i3, scalar_sl i1, scalar_sl i2, scalar_sl i3, cells_sl i1, cells_sl i2, cells_sl i3]
  done
end Go.Proofs.Ytjgbiclbpgkfeaa.A
