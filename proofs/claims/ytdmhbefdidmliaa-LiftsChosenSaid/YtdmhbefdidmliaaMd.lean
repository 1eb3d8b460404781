/-
LiftsChosen: which crew is chosen.
-/
import Derived.Test.YtdmhbefdidmliaaS3
namespace Go.Proofs.Ytdmhbefdidmliaa.S
open Go Go.Am Go.Proofs.Ytdmhbefdidmliaa.T
set_option maxRecDepth 100000
set_option linter.unusedSimpArgs false
set_option linter.unusedVariables false

section
variable {s : Sea} {p b : AV} {l : List Int} {v : AV}
theorem shoR_of (h : s.valid = true) : shoR s = .tup [resL (match sht s with | none => [] | some l => ofN l), I (match sht s with | none => 3 | some _ => 0)] := by
  simp only [shoR, h, if_true]
  cases sht s <;> rfl
theorem sht_len (K : SeaG s) {L : List Nat} (h : sht s = some L) : 0 < L.length ∧ L.length ≤ 1000 := by
  obtain ⟨g, h1, h2, h3, rfl, _⟩ := shtU_some h
  rw [List.length_take]
  have := K.sp.le
  have := fews_le (s := s) (f := g)
  omega

set_option maxHeartbeats 4000000 in
theorem s5 (H0 : SeaIn s p b) (V : IsSl 1 intL l v) (st : Bool) : Iso E 5 [seaV s p b, v] st = some (Bo true) := by
  have g0 := fun st => s16 H0 st
  refine Iso_of (es _ _ _ _) e5 ?_
  simp only [f5, seaV] at g0 ⊢
  cases hv : s.valid
  case false => simp (disch := first | assumption | omega | (simp only [az]; done)) only [ru, eq_self, if_true, if_false, BEq.rfl, binI, AO.row?, splice, fillL, mmAll, loadV, storeV, zeros, Am.rowAt, Am.part, addOff, Nat.reduceAdd, Nat.reduceMul, Nat.reduceLeDiff, Nat.reduceSub, Nat.reduceLT, Int.reduceEq, Int.reduceLT, Int.reduceLE, Int.reduceGT, Int.reduceGE, Int.reduceAdd, Int.reduceSub, Int.reduceMul, Int.reduceNeg, Int.reduceToNat, reduceCtorEq, reduceIte, lenV_sl H0.p, lenV_sl H0.b, elem_sp H0.p, elem_bt H0.b, view_sl H0.p, view_sl H0.b, scalar_sl H0.p, scalar_sl H0.b, cells_sl H0.p, cells_sl H0.b, pure_sl H0.p, pure_sl H0.b, Int.toNat_natCast, lenV_sl V, elem_in V, view_sl V, scalar_sl V, cells_sl V, pure_sl V, Int.toNat_natCast, g0, hv, gUn, s19]
  have K := (valid_good hv).1
  have H : SeaOk s p b := ⟨H0, by have := K.sp.le; omega, by have := K.nb; omega⟩
  have a1 := s31 H
  have a2 := fun st => s32 H st
  have a3 := fun st => s33 H hv st
  have a4 := s34 H
  have a5 := s20 H hv
  have NV := resL_is (nds s)
  obtain ⟨nv, hnv⟩ : ∃ nv, nv = resL (nds s) := ⟨_, rfl⟩
  rw [← hnv] at NV
  have a6 := fun (h : (l.length : Int) ≤ 40) st => s26 H V (by omega) st
  have a7 := fun (h : crB s l = true) st => s29 H V (by have := (cr_at h).1; omega) (cr_at h).2 NV st
  have a8 := fun (h : crB s l = true) st => s36 H K V (by have := (cr_at h).1; have := H.sp; omega) (cr_at h).2 st
  have m0 := most_le (s := s)
  have mv : mosv s = if s.bo.length < s.pl.length then -1 else most s := rfl
  obtain ⟨mo, hmo⟩ : ∃ mo, mo = mosv s := ⟨_, rfl⟩
  simp only [seaV, creR, cheR, hv, if_true, ← hnv, ← hmo] at a1 a2 a3 a4 a5 a6 a7 a8
  cases hcr : crew s with
  | none =>
    have hs : ∃ L, sht s = some L := by
      cases h : sht s with
      | some L => exact ⟨L, rfl⟩
      | none =>
        obtain ⟨x, h1, h2⟩ := sht_crew.1 h
        rw [crew_none.1 hcr x h1] at h2; cases h2
    obtain ⟨L, hL⟩ := hs
    have SV := resL_is (ofN L)
    have mlt : ¬ mo ≥ s.w.hi := by
      have w0 := K.w0; have w1 := K.w1; have w2 := K.w2
      rw [hmo, mv]; split
      · omega
      · rename_i hle
        intro hge
        have hge' : s.w.hi ≤ most s := hge
        by_cases h0 : s.w.hi = 0
        · have c : isCr s (ofN (List.range s.pl.length)) := by
            refine ⟨by simp [ofN], fun x hx => ?_, ?_⟩
            · simp only [ofN, List.mem_map, List.mem_range] at hx
              obtain ⟨n, h1, rfl⟩ := hx
              omega
            · simp only [List.Nodup, ofN, List.pairwise_map]
              exact List.pairwise_lt_range.imp fun h => by omega
          have f := crew_none.1 hcr _ c
          rw [fts_lft K c.1] at f
          have : 0 ≤ lft s (ofN (List.range s.pl.length)) := lftU_ge K (by rw [c.1]; exact Nat.le_refl _)
          simp only [decide_eq_false_iff_not] at f
          omega
        rcases mst_at (f := lft s) (l := crws s) with h | ⟨x, hx, h⟩
        · have : most s = 0 := h
          omega
        · have c := mem_crws.1 hx
          have f := crew_none.1 hcr x c
          rw [fts_lft K c.1] at f
          have : lft s x = most s := h
          simp only [decide_eq_false_iff_not] at f
          omega
    simp only [hcr] at a1 a2
    simp only [shoR_of hv, hL] at a4
    obtain ⟨sv, hsv⟩ : ∃ sv, sv = resL (ofN L) := ⟨_, rfl⟩
    rw [← hsv] at SV
    simp only [← hsv] at a4
    by_cases hl : (l.length : Int) > 40
    · simp (disch := first | assumption | omega | (simp only [az]; done)) only [ru, eq_self, if_true, if_false, BEq.rfl, binI, AO.row?, splice, fillL, mmAll, loadV, storeV, zeros, Am.rowAt, Am.part, addOff, Nat.reduceAdd, Nat.reduceMul, Nat.reduceLeDiff, Nat.reduceSub, Nat.reduceLT, Int.reduceEq, Int.reduceLT, Int.reduceLE, Int.reduceGT, Int.reduceGE, Int.reduceAdd, Int.reduceSub, Int.reduceMul, Int.reduceNeg, Int.reduceToNat, reduceCtorEq, reduceIte, lenV_sl H.p, lenV_sl H.b, elem_sp H.p, elem_bt H.b, view_sl H.p, view_sl H.b, scalar_sl H.p, scalar_sl H.b, cells_sl H.p, cells_sl H.b, pure_sl H.p, pure_sl H.b, Int.toNat_natCast, lenV_sl V, elem_in V, view_sl V, scalar_sl V, cells_sl V, pure_sl V, Int.toNat_natCast, lenV_sl SV, elem_in SV, view_sl SV, scalar_sl SV, cells_sl SV, pure_sl SV, Int.toNat_natCast, lenV_sl NV, elem_in NV, view_sl NV, scalar_sl NV, cells_sl NV, pure_sl NV, Int.toNat_natCast, g0, hv, a1, a2, a3, a4, a5, s35, hl, mlt, gUn, s19, decide_true, decide_false, Bool.true_or, Bool.or_true, Bool.or_false, Bool.not_true, Bool.not_false, bne_self_eq_false]
    have a6' := fun st => a6 (by omega) st
    cases hc : crB s l
    · simp (disch := first | assumption | omega | (simp only [az]; done)) only [ru, eq_self, if_true, if_false, BEq.rfl, binI, AO.row?, splice, fillL, mmAll, loadV, storeV, zeros, Am.rowAt, Am.part, addOff, Nat.reduceAdd, Nat.reduceMul, Nat.reduceLeDiff, Nat.reduceSub, Nat.reduceLT, Int.reduceEq, Int.reduceLT, Int.reduceLE, Int.reduceGT, Int.reduceGE, Int.reduceAdd, Int.reduceSub, Int.reduceMul, Int.reduceNeg, Int.reduceToNat, reduceCtorEq, reduceIte, lenV_sl H.p, lenV_sl H.b, elem_sp H.p, elem_bt H.b, view_sl H.p, view_sl H.b, scalar_sl H.p, scalar_sl H.b, cells_sl H.p, cells_sl H.b, pure_sl H.p, pure_sl H.b, Int.toNat_natCast, lenV_sl V, elem_in V, view_sl V, scalar_sl V, cells_sl V, pure_sl V, Int.toNat_natCast, lenV_sl SV, elem_in SV, view_sl SV, scalar_sl SV, cells_sl SV, pure_sl SV, Int.toNat_natCast, lenV_sl NV, elem_in NV, view_sl NV, scalar_sl NV, cells_sl NV, pure_sl NV, Int.toNat_natCast, g0, hv, a1, a2, a3, a4, a5, a6', hc, s35, hl, mlt, gUn, s19, decide_true, decide_false, Bool.true_or, Bool.or_true, Bool.or_false, Bool.not_true, Bool.not_false, bne_self_eq_false]
    have a7' := fun st => a7 hc st
    have f := crew_none.1 hcr l (crB_iff.1 hc)
    simp (disch := first | assumption | omega | (simp only [az]; done)) only [ru, eq_self, if_true, if_false, BEq.rfl, binI, AO.row?, splice, fillL, mmAll, loadV, storeV, zeros, Am.rowAt, Am.part, addOff, Nat.reduceAdd, Nat.reduceMul, Nat.reduceLeDiff, Nat.reduceSub, Nat.reduceLT, Int.reduceEq, Int.reduceLT, Int.reduceLE, Int.reduceGT, Int.reduceGE, Int.reduceAdd, Int.reduceSub, Int.reduceMul, Int.reduceNeg, Int.reduceToNat, reduceCtorEq, reduceIte, lenV_sl H.p, lenV_sl H.b, elem_sp H.p, elem_bt H.b, view_sl H.p, view_sl H.b, scalar_sl H.p, scalar_sl H.b, cells_sl H.p, cells_sl H.b, pure_sl H.p, pure_sl H.b, Int.toNat_natCast, lenV_sl V, elem_in V, view_sl V, scalar_sl V, cells_sl V, pure_sl V, Int.toNat_natCast, lenV_sl SV, elem_in SV, view_sl SV, scalar_sl SV, cells_sl SV, pure_sl SV, Int.toNat_natCast, lenV_sl NV, elem_in NV, view_sl NV, scalar_sl NV, cells_sl NV, pure_sl NV, Int.toNat_natCast, g0, hv, a1, a2, a3, a4, a5, a6', a7', f, hc, s35, hl, mlt, gUn, s19, decide_true, decide_false, Bool.true_or, Bool.or_true, Bool.or_false, Bool.not_true, Bool.not_false, bne_self_eq_false]
  | some m =>
    have hs : sht s = none := sht_crew.2 ⟨m, (crew_some hcr).1, (crew_some hcr).2.1⟩
    obtain ⟨m1, m2, m3⟩ := crew_some hcr
    have mlt : mo ≥ s.w.hi := by
      rw [hmo, mv, if_neg (by
        have h1 := m1.1
        have := nodup_le (l := m) (m := ofN (List.range s.bo.length)) m1.2.2 (fun x hx => by
          have := m1.2.1 x hx
          simp only [ofN, List.mem_map, List.mem_range]
          exact ⟨x.toNat, by omega, by omega⟩)
        simp only [ofN, List.length_map, List.length_range] at this
        omega)]
      have h2 := m2
      rw [fts_lft K m1.1] at h2
      simp only [decide_eq_true_eq] at h2
      have : lft s m ≤ most s := (mst_ge (f := lft s)).2 m (mem_crws.2 m1)
      omega
    have MV := resL_is m
    have mc : crB s m = true := crB_iff.2 m1
    have b1 := fun st => s26 H MV (by have := m1.1; have := H.sp; omega) st
    have b2 := fun st => s29 H MV (by have := m1.1; omega) (cr_at mc).2 NV st
    have b3 := fun st => s36 H K MV (by have := m1.1; have := H.sp; omega) (cr_at mc).2 st
    have b4 := fun (h : (l.length : Int) ≤ 40) st => s37 V MV (by omega) (by have := m1.1; have := H.sp; omega) st
    have mlen : (m.length : Int) = s.pl.length := by have := m1.1; omega
    simp only [hcr] at a1 a2
    simp only [shoR_of hv, hs] at a4
    obtain ⟨sv, hsv⟩ : ∃ sv, sv = resL m := ⟨_, rfl⟩
    rw [← hsv] at MV
    simp only [seaV, ← hsv, ← hnv] at a1 b1 b2 b3 b4
    have q0 : resL [] = .nils := rfl
    by_cases hl : (l.length : Int) > 40
    · simp (disch := first | assumption | omega | (simp only [az]; done)) only [ru, eq_self, if_true, if_false, BEq.rfl, binI, AO.row?, splice, fillL, mmAll, loadV, storeV, zeros, Am.rowAt, Am.part, addOff, Nat.reduceAdd, Nat.reduceMul, Nat.reduceLeDiff, Nat.reduceSub, Nat.reduceLT, Int.reduceEq, Int.reduceLT, Int.reduceLE, Int.reduceGT, Int.reduceGE, Int.reduceAdd, Int.reduceSub, Int.reduceMul, Int.reduceNeg, Int.reduceToNat, reduceCtorEq, reduceIte, lenV_sl H.p, lenV_sl H.b, elem_sp H.p, elem_bt H.b, view_sl H.p, view_sl H.b, scalar_sl H.p, scalar_sl H.b, cells_sl H.p, cells_sl H.b, pure_sl H.p, pure_sl H.b, Int.toNat_natCast, lenV_sl V, elem_in V, view_sl V, scalar_sl V, cells_sl V, pure_sl V, Int.toNat_natCast, lenV_sl MV, elem_in MV, view_sl MV, scalar_sl MV, cells_sl MV, pure_sl MV, Int.toNat_natCast, lenV_sl NV, elem_in NV, view_sl NV, scalar_sl NV, cells_sl NV, pure_sl NV, Int.toNat_natCast, g0, hv, a1, a2, a3, a4, q0, a5, b1, b2, b3, mc, m2, mlen, s35, hl, mlt, gUn, s19, decide_true, decide_false, Bool.true_or, Bool.or_true, Bool.or_false, Bool.not_true, Bool.not_false, bne_self_eq_false]
    have a6' := fun st => a6 (by omega) st
    have b4' := fun st => b4 (by omega) st
    cases hc : crB s l
    · simp (disch := first | assumption | omega | (simp only [az]; done)) only [ru, eq_self, if_true, if_false, BEq.rfl, binI, AO.row?, splice, fillL, mmAll, loadV, storeV, zeros, Am.rowAt, Am.part, addOff, Nat.reduceAdd, Nat.reduceMul, Nat.reduceLeDiff, Nat.reduceSub, Nat.reduceLT, Int.reduceEq, Int.reduceLT, Int.reduceLE, Int.reduceGT, Int.reduceGE, Int.reduceAdd, Int.reduceSub, Int.reduceMul, Int.reduceNeg, Int.reduceToNat, reduceCtorEq, reduceIte, lenV_sl H.p, lenV_sl H.b, elem_sp H.p, elem_bt H.b, view_sl H.p, view_sl H.b, scalar_sl H.p, scalar_sl H.b, cells_sl H.p, cells_sl H.b, pure_sl H.p, pure_sl H.b, Int.toNat_natCast, lenV_sl V, elem_in V, view_sl V, scalar_sl V, cells_sl V, pure_sl V, Int.toNat_natCast, lenV_sl MV, elem_in MV, view_sl MV, scalar_sl MV, cells_sl MV, pure_sl MV, Int.toNat_natCast, lenV_sl NV, elem_in NV, view_sl NV, scalar_sl NV, cells_sl NV, pure_sl NV, Int.toNat_natCast, g0, hv, a1, a2, a3, a4, q0, a5, b1, b2, b3, mc, m2, mlen, a6', hc, s35, hl, mlt, gUn, s19, decide_true, decide_false, Bool.true_or, Bool.or_true, Bool.or_false, Bool.not_true, Bool.not_false, bne_self_eq_false]
    have a7' := fun st => a7 hc st
    have a8' := fun st => a8 hc st
    cases f : fts s l
    · simp (disch := first | assumption | omega | (simp only [az]; done)) only [ru, eq_self, if_true, if_false, BEq.rfl, binI, AO.row?, splice, fillL, mmAll, loadV, storeV, zeros, Am.rowAt, Am.part, addOff, Nat.reduceAdd, Nat.reduceMul, Nat.reduceLeDiff, Nat.reduceSub, Nat.reduceLT, Int.reduceEq, Int.reduceLT, Int.reduceLE, Int.reduceGT, Int.reduceGE, Int.reduceAdd, Int.reduceSub, Int.reduceMul, Int.reduceNeg, Int.reduceToNat, reduceCtorEq, reduceIte, lenV_sl H.p, lenV_sl H.b, elem_sp H.p, elem_bt H.b, view_sl H.p, view_sl H.b, scalar_sl H.p, scalar_sl H.b, cells_sl H.p, cells_sl H.b, pure_sl H.p, pure_sl H.b, Int.toNat_natCast, lenV_sl V, elem_in V, view_sl V, scalar_sl V, cells_sl V, pure_sl V, Int.toNat_natCast, lenV_sl MV, elem_in MV, view_sl MV, scalar_sl MV, cells_sl MV, pure_sl MV, Int.toNat_natCast, lenV_sl NV, elem_in NV, view_sl NV, scalar_sl NV, cells_sl NV, pure_sl NV, Int.toNat_natCast, g0, hv, a1, a2, a3, a4, q0, a5, b1, b2, b3, mc, m2, mlen, a6', a7', f, hc, s35, hl, mlt, gUn, s19, decide_true, decide_false, Bool.true_or, Bool.or_true, Bool.or_false, Bool.not_true, Bool.not_false, bne_self_eq_false]
    obtain ⟨k1, k2⟩ := m3 l (crB_iff.1 hc) f
    have k1' : cst s l ≥ cst s m := k1
    obtain ⟨x, hx⟩ : ∃ x, x = cst s l := ⟨_, rfl⟩
    obtain ⟨y, hy⟩ : ∃ y, y = cst s m := ⟨_, rfl⟩
    simp only [← hx, ← hy] at a2 b3 a8' k1' k2 
    by_cases k3 : x > y
    · simp (disch := first | assumption | omega | (simp only [az]; done)) only [ru, eq_self, if_true, if_false, BEq.rfl, binI, AO.row?, splice, fillL, mmAll, loadV, storeV, zeros, Am.rowAt, Am.part, addOff, Nat.reduceAdd, Nat.reduceMul, Nat.reduceLeDiff, Nat.reduceSub, Nat.reduceLT, Int.reduceEq, Int.reduceLT, Int.reduceLE, Int.reduceGT, Int.reduceGE, Int.reduceAdd, Int.reduceSub, Int.reduceMul, Int.reduceNeg, Int.reduceToNat, reduceCtorEq, reduceIte, lenV_sl H.p, lenV_sl H.b, elem_sp H.p, elem_bt H.b, view_sl H.p, view_sl H.b, scalar_sl H.p, scalar_sl H.b, cells_sl H.p, cells_sl H.b, pure_sl H.p, pure_sl H.b, Int.toNat_natCast, lenV_sl V, elem_in V, view_sl V, scalar_sl V, cells_sl V, pure_sl V, Int.toNat_natCast, lenV_sl MV, elem_in MV, view_sl MV, scalar_sl MV, cells_sl MV, pure_sl MV, Int.toNat_natCast, lenV_sl NV, elem_in NV, view_sl NV, scalar_sl NV, cells_sl NV, pure_sl NV, Int.toNat_natCast, g0, hv, a1, a2, a3, a4, q0, a5, b1, b2, b3, mc, m2, mlen, a6', a7', a8', f, k1', k3, hc, s35, hl, mlt, gUn, s19, decide_true, decide_false, Bool.true_or, Bool.or_true, Bool.or_false, Bool.not_true, Bool.not_false, bne_self_eq_false]
    · have k4 := k2 (by omega)
      simp (disch := first | assumption | omega | (simp only [az]; done)) only [ru, eq_self, if_true, if_false, BEq.rfl, binI, AO.row?, splice, fillL, mmAll, loadV, storeV, zeros, Am.rowAt, Am.part, addOff, Nat.reduceAdd, Nat.reduceMul, Nat.reduceLeDiff, Nat.reduceSub, Nat.reduceLT, Int.reduceEq, Int.reduceLT, Int.reduceLE, Int.reduceGT, Int.reduceGE, Int.reduceAdd, Int.reduceSub, Int.reduceMul, Int.reduceNeg, Int.reduceToNat, reduceCtorEq, reduceIte, lenV_sl H.p, lenV_sl H.b, elem_sp H.p, elem_bt H.b, view_sl H.p, view_sl H.b, scalar_sl H.p, scalar_sl H.b, cells_sl H.p, cells_sl H.b, pure_sl H.p, pure_sl H.b, Int.toNat_natCast, lenV_sl V, elem_in V, view_sl V, scalar_sl V, cells_sl V, pure_sl V, Int.toNat_natCast, lenV_sl MV, elem_in MV, view_sl MV, scalar_sl MV, cells_sl MV, pure_sl MV, Int.toNat_natCast, lenV_sl NV, elem_in NV, view_sl NV, scalar_sl NV, cells_sl NV, pure_sl NV, Int.toNat_natCast, g0, hv, a1, a2, a3, a4, q0, a5, b1, b2, b3, mc, m2, mlen, a6', a7', a8', f, k1', k3, b4', k4, hc, s35, hl, mlt, gUn, s19, decide_true, decide_false, Bool.true_or, Bool.or_true, Bool.or_false, Bool.not_true, Bool.not_false, bne_self_eq_false]
end
end Go.Proofs.Ytdmhbefdidmliaa.S

