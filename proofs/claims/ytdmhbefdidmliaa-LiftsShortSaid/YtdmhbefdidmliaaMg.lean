/-
LiftsShort: which places are short of boats.
-/
import Derived.Test.YtdmhbefdidmliaaS3
namespace Go.Proofs.Ytdmhbefdidmliaa.S
open Go Go.Am Go.Proofs.Ytdmhbefdidmliaa.T
set_option maxRecDepth 100000
set_option linter.unusedSimpArgs false
set_option linter.unusedVariables false

section
variable {s : Sea} {p b : AV} {l : List Int} {v : AV}
/-- any list of places that is at least as long as the boats that serve its lightest is no earlier than the short one -/
theorem short_least (K : SeaG s) {q : List Int} (hq : ris s.pl.length q) (h0 : 0 < q.length) (h : canN s (lea s q) < q.length) : ∃ S, sht s = some S ∧ (S.length < q.length ∨ S.length = q.length ∧ ear q (ofN S) = false) := by
  have h1 : shB s q.length q = true := decide_eq_true h
  have h2 := (shB_iff hq h0).1 h1
  have h3 := take_least (fewsI (s := s) (f := q.length)).1 hq.2 h2
  have h4 := fews_le (s := s) (f := q.length)
  rw [ofN_len] at h3
  cases hs : sht s with
  | none =>
    have := shtU_none.1 hs q.length (by omega) (by omega)
    omega
  | some S =>
    obtain ⟨g, g1, g2, g3, rfl, g4⟩ := shtU_some hs
    refine ⟨_, rfl, ?_⟩
    have hg : g ≤ q.length := by
      by_cases c : q.length < g
      · have := g4 q.length (by omega) c; omega
      · omega
    rw [List.length_take]
    by_cases c : g = q.length
    · subst c
      exact .inr ⟨by omega, by rw [ofN_take]; exact h3.2⟩
    · exact .inl (by omega)
theorem short_ok (K : SeaG s) {S : List Nat} (hs : sht s = some S) : ris s.pl.length (ofN S) ∧ 0 < S.length ∧ S.length ≤ 1000 ∧ canN s (lea s (ofN S)) < S.length := by
  obtain ⟨g, g1, g2, g3, rfl, g4⟩ := shtU_some hs
  have h := take_ris (s := s) (f := g)
  have l1 := fews_le (s := s) (f := g)
  have l2 := K.sp.le
  rw [ofN_take]
  have h0 : 0 < ((ofN (fews s g)).take g).length := by rw [List.length_take, ofN_len]; omega
  have h1 := (shB_iff (m := g) h.1 h0).2 h.2
  have h2 : canN s (lea s ((ofN (fews s g)).take g)) < g := of_decide_eq_true h1
  refine ⟨h.1, ?_, ?_, ?_⟩ <;> rw [List.length_take] <;> omega
theorem ris_len (K : SeaG s) {q : List Int} (hq : ris s.pl.length q) : q.length ≤ s.pl.length := by
  have := nodup_le (l := q) (m := ofN (List.range s.pl.length)) (hq.2.imp fun h => by omega) (fun x hx => by
    have := hq.1 x hx
    simp only [ofN, List.mem_map, List.mem_range]
    exact ⟨x.toNat, by omega, by omega⟩)
  simpa only [ofN, List.length_map, List.length_range] using this
theorem ris_at {q : List Int} {k : Nat} (hq : ris k q) : ∀ i, i < q.length → 0 ≤ q.getD i 0 ∧ q.getD i 0 < k := fun i hi => hq.1 _ (by
  rw [List.getD_eq_getElem?_getD, List.getElem?_eq_getElem hi]; exact List.getElem_mem hi)

set_option maxHeartbeats 4000000 in
theorem s10 (H0 : SeaIn s p b) {q : List Int} {u : AV} (U : IsSl 1 intL q u) (st : Bool) : Iso E 10 [seaV s p b, u] st = some (Bo true) := by
  have g0 := fun st => s16 H0 st
  refine Iso_of (es _ _ _ _) e10 ?_
  simp only [f10, seaV] at g0 ⊢
  cases hv : s.valid
  case false => simp (disch := first | assumption | omega | (simp only [az]; done)) only [ru, eq_self, if_true, if_false, BEq.rfl, binI, AO.row?, splice, fillL, mmAll, loadV, storeV, zeros, Am.rowAt, Am.part, addOff, Nat.reduceAdd, Nat.reduceMul, Nat.reduceLeDiff, Nat.reduceSub, Nat.reduceLT, Int.reduceEq, Int.reduceLT, Int.reduceLE, Int.reduceGT, Int.reduceGE, Int.reduceAdd, Int.reduceSub, Int.reduceMul, Int.reduceNeg, Int.reduceToNat, reduceCtorEq, reduceIte, lenV_sl H0.p, lenV_sl H0.b, elem_sp H0.p, elem_bt H0.b, view_sl H0.p, view_sl H0.b, scalar_sl H0.p, scalar_sl H0.b, cells_sl H0.p, cells_sl H0.b, pure_sl H0.p, pure_sl H0.b, Int.toNat_natCast, lenV_sl U, elem_in U, view_sl U, scalar_sl U, cells_sl U, pure_sl U, Int.toNat_natCast, g0, hv, gUn, s19]
  by_cases hl : (q.length : Int) > 40
  · simp (disch := first | assumption | omega | (simp only [az]; done)) only [ru, eq_self, if_true, if_false, BEq.rfl, binI, AO.row?, splice, fillL, mmAll, loadV, storeV, zeros, Am.rowAt, Am.part, addOff, Nat.reduceAdd, Nat.reduceMul, Nat.reduceLeDiff, Nat.reduceSub, Nat.reduceLT, Int.reduceEq, Int.reduceLT, Int.reduceLE, Int.reduceGT, Int.reduceGE, Int.reduceAdd, Int.reduceSub, Int.reduceMul, Int.reduceNeg, Int.reduceToNat, reduceCtorEq, reduceIte, lenV_sl H0.p, lenV_sl H0.b, elem_sp H0.p, elem_bt H0.b, view_sl H0.p, view_sl H0.b, scalar_sl H0.p, scalar_sl H0.b, cells_sl H0.p, cells_sl H0.b, pure_sl H0.p, pure_sl H0.b, Int.toNat_natCast, lenV_sl U, elem_in U, view_sl U, scalar_sl U, cells_sl U, pure_sl U, Int.toNat_natCast, g0, hv, hl, decide_true, gUn, s19]
  have K := (valid_good hv).1
  have H : SeaOk s p b := ⟨H0, by have := K.sp.le; omega, by have := K.nb; omega⟩
  have sp := H.sp
  have a1 := s34 H
  have a2 := s20 H hv
  have NV := resL_is (nds s)
  obtain ⟨nv, hnv⟩ : ∃ nv, nv = resL (nds s) := ⟨_, rfl⟩
  rw [← hnv] at NV
  obtain ⟨rq, b1, b2⟩ := s44 U (by omega) s.pl.length true
  obtain ⟨rq', b1', b2'⟩ := s44 U (by omega) s.pl.length false
  have er : rq' = rq := by rw [Bool.eq_iff_iff, b2, b2']
  subst er
  have b3 : ∀ st, Iso E 44 [u, I 0, I ((s.pl.length : Int) - 1)] st = some (Bo rq') := fun st => by cases st <;> assumption
  clear b1 b1' b2'
  have b4 := fun (h : ris s.pl.length q) (h0 : 0 < q.length) st => s46 (s := s) NV U h0 (by omega) (ris_at h) st
  have b5 := fun st => s45 H (lea s q) st
  simp only [seaV, shoR, hv, if_true, ← hnv] at a1 a2 b5
  have p0 : ¬ (s.pl.length : Int) = 0 := by have := K.sp.ne; omega
  obtain ⟨c, hcn⟩ : ∃ c, c = canN s (lea s q) := ⟨_, rfl⟩
  have sl := short_least K (q := q)
  simp only [← hcn] at b5 sl
  cases hs : sht s with
  | none =>
    simp only [hs] at a1
    by_cases q0 : (q.length : Int) = 0
    · simp (disch := first | assumption | omega | (simp only [az]; done)) only [ru, eq_self, if_true, if_false, BEq.rfl, binI, AO.row?, splice, fillL, mmAll, loadV, storeV, zeros, Am.rowAt, Am.part, addOff, Nat.reduceAdd, Nat.reduceMul, Nat.reduceLeDiff, Nat.reduceSub, Nat.reduceLT, Int.reduceEq, Int.reduceLT, Int.reduceLE, Int.reduceGT, Int.reduceGE, Int.reduceAdd, Int.reduceSub, Int.reduceMul, Int.reduceNeg, Int.reduceToNat, reduceCtorEq, reduceIte, lenV_sl H.p, lenV_sl H.b, elem_sp H.p, elem_bt H.b, view_sl H.p, view_sl H.b, scalar_sl H.p, scalar_sl H.b, cells_sl H.p, cells_sl H.b, pure_sl H.p, pure_sl H.b, Int.toNat_natCast, lenV_sl U, elem_in U, view_sl U, scalar_sl U, cells_sl U, pure_sl U, Int.toNat_natCast, lenV_sl NV, elem_in NV, view_sl NV, scalar_sl NV, cells_sl NV, pure_sl NV, Int.toNat_natCast, g0, hv, hl, a1, a2, s35, q0, s19, gUn, decide_true, decide_false, Bool.or_true, Bool.true_or, Bool.or_false, Bool.not_true, Bool.not_false, bne_self_eq_false]
    cases hr : rq'
    · simp (disch := first | assumption | omega | (simp only [az]; done)) only [ru, eq_self, if_true, if_false, BEq.rfl, binI, AO.row?, splice, fillL, mmAll, loadV, storeV, zeros, Am.rowAt, Am.part, addOff, Nat.reduceAdd, Nat.reduceMul, Nat.reduceLeDiff, Nat.reduceSub, Nat.reduceLT, Int.reduceEq, Int.reduceLT, Int.reduceLE, Int.reduceGT, Int.reduceGE, Int.reduceAdd, Int.reduceSub, Int.reduceMul, Int.reduceNeg, Int.reduceToNat, reduceCtorEq, reduceIte, lenV_sl H.p, lenV_sl H.b, elem_sp H.p, elem_bt H.b, view_sl H.p, view_sl H.b, scalar_sl H.p, scalar_sl H.b, cells_sl H.p, cells_sl H.b, pure_sl H.p, pure_sl H.b, Int.toNat_natCast, lenV_sl U, elem_in U, view_sl U, scalar_sl U, cells_sl U, pure_sl U, Int.toNat_natCast, lenV_sl NV, elem_in NV, view_sl NV, scalar_sl NV, cells_sl NV, pure_sl NV, Int.toNat_natCast, g0, hv, hl, a1, a2, s35, q0, b3, hr, s19, gUn, decide_true, decide_false, Bool.or_true, Bool.true_or, Bool.or_false, Bool.not_true, Bool.not_false, bne_self_eq_false]
    have R := b2.1 hr
    have b4' := fun st => b4 R (by omega) st
    have k1 : (c : Int) ≥ q.length := by
      by_cases k : c < q.length
      · obtain ⟨S, h1, _⟩ := sl R (by omega) k
        rw [hs] at h1; cases h1
      · omega
    simp (disch := first | assumption | omega | (simp only [az]; done)) only [ru, eq_self, if_true, if_false, BEq.rfl, binI, AO.row?, splice, fillL, mmAll, loadV, storeV, zeros, Am.rowAt, Am.part, addOff, Nat.reduceAdd, Nat.reduceMul, Nat.reduceLeDiff, Nat.reduceSub, Nat.reduceLT, Int.reduceEq, Int.reduceLT, Int.reduceLE, Int.reduceGT, Int.reduceGE, Int.reduceAdd, Int.reduceSub, Int.reduceMul, Int.reduceNeg, Int.reduceToNat, reduceCtorEq, reduceIte, lenV_sl H.p, lenV_sl H.b, elem_sp H.p, elem_bt H.b, view_sl H.p, view_sl H.b, scalar_sl H.p, scalar_sl H.b, cells_sl H.p, cells_sl H.b, pure_sl H.p, pure_sl H.b, Int.toNat_natCast, lenV_sl U, elem_in U, view_sl U, scalar_sl U, cells_sl U, pure_sl U, Int.toNat_natCast, lenV_sl NV, elem_in NV, view_sl NV, scalar_sl NV, cells_sl NV, pure_sl NV, Int.toNat_natCast, g0, hv, hl, a1, a2, s35, q0, b3, hr, b4', b5, k1, s19, gUn, decide_true, decide_false, Bool.or_true, Bool.true_or, Bool.or_false, Bool.not_true, Bool.not_false, bne_self_eq_false]
  | some S =>
    obtain ⟨o1, o2, o3, o4⟩ := short_ok K hs
    have SV := resL_is (ofN S)
    have ol : (ofN S).length = S.length := ofN_len
    obtain ⟨rs, d1, d2⟩ := s44 SV (by omega) s.pl.length true
    obtain ⟨rs', d1', d2'⟩ := s44 SV (by omega) s.pl.length false
    have et : rs = true := d2.2 o1
    have ef : rs' = true := d2'.2 o1
    subst et; subst ef
    have d4 := fun st => s46 (s := s) NV SV (by omega) (by omega) (ris_at o1) st
    have d5 := fun st => s45 H (lea s (ofN S)) st
    have d6 := fun st => s37 U SV (by omega) (by omega) st
    obtain ⟨sv, hsv⟩ : ∃ sv, sv = resL (ofN S) := ⟨_, rfl⟩
    rw [← hsv] at SV
    simp only [hs, ← hsv] at a1
    simp only [seaV, ← hsv] at d1 d1' d4 d5 d6
    have d3 : ∀ st, Iso E 44 [sv, I 0, I ((s.pl.length : Int) - 1)] st = some (Bo true) := fun st => by cases st <;> assumption
    clear d1 d1' d2 d2'
    obtain ⟨e, he⟩ : ∃ e, e = canN s (lea s (ofN S)) := ⟨_, rfl⟩
    obtain ⟨g, hg⟩ : ∃ g, g = (ofN S).length := ⟨_, rfl⟩
    have LS := lenV_sl SV
    rw [← hg] at LS
    simp only [← he] at d5
    have k2 : (g : Int) > 0 := by omega
    have k3 : ¬ (e : Int) ≥ g := by omega
    by_cases q0 : (q.length : Int) = 0
    · simp (disch := first | assumption | omega | (simp only [az]; done)) only [ru, eq_self, if_true, if_false, BEq.rfl, binI, AO.row?, splice, fillL, mmAll, loadV, storeV, zeros, Am.rowAt, Am.part, addOff, Nat.reduceAdd, Nat.reduceMul, Nat.reduceLeDiff, Nat.reduceSub, Nat.reduceLT, Int.reduceEq, Int.reduceLT, Int.reduceLE, Int.reduceGT, Int.reduceGE, Int.reduceAdd, Int.reduceSub, Int.reduceMul, Int.reduceNeg, Int.reduceToNat, reduceCtorEq, reduceIte, lenV_sl H.p, lenV_sl H.b, elem_sp H.p, elem_bt H.b, view_sl H.p, view_sl H.b, scalar_sl H.p, scalar_sl H.b, cells_sl H.p, cells_sl H.b, pure_sl H.p, pure_sl H.b, Int.toNat_natCast, lenV_sl U, elem_in U, view_sl U, scalar_sl U, cells_sl U, pure_sl U, Int.toNat_natCast, lenV_sl NV, elem_in NV, view_sl NV, scalar_sl NV, cells_sl NV, pure_sl NV, Int.toNat_natCast, LS, lenV_sl SV, elem_in SV, view_sl SV, scalar_sl SV, cells_sl SV, pure_sl SV, Int.toNat_natCast, g0, hv, hl, a1, a2, s35, k2, k3, d3, d4, d5, q0, s19, gUn, decide_true, decide_false, Bool.or_true, Bool.true_or, Bool.or_false, Bool.not_true, Bool.not_false, bne_self_eq_false]
    cases hr : rq'
    · simp (disch := first | assumption | omega | (simp only [az]; done)) only [ru, eq_self, if_true, if_false, BEq.rfl, binI, AO.row?, splice, fillL, mmAll, loadV, storeV, zeros, Am.rowAt, Am.part, addOff, Nat.reduceAdd, Nat.reduceMul, Nat.reduceLeDiff, Nat.reduceSub, Nat.reduceLT, Int.reduceEq, Int.reduceLT, Int.reduceLE, Int.reduceGT, Int.reduceGE, Int.reduceAdd, Int.reduceSub, Int.reduceMul, Int.reduceNeg, Int.reduceToNat, reduceCtorEq, reduceIte, lenV_sl H.p, lenV_sl H.b, elem_sp H.p, elem_bt H.b, view_sl H.p, view_sl H.b, scalar_sl H.p, scalar_sl H.b, cells_sl H.p, cells_sl H.b, pure_sl H.p, pure_sl H.b, Int.toNat_natCast, lenV_sl U, elem_in U, view_sl U, scalar_sl U, cells_sl U, pure_sl U, Int.toNat_natCast, lenV_sl NV, elem_in NV, view_sl NV, scalar_sl NV, cells_sl NV, pure_sl NV, Int.toNat_natCast, LS, lenV_sl SV, elem_in SV, view_sl SV, scalar_sl SV, cells_sl SV, pure_sl SV, Int.toNat_natCast, g0, hv, hl, a1, a2, s35, k2, k3, d3, d4, d5, q0, b3, hr, s19, gUn, decide_true, decide_false, Bool.or_true, Bool.true_or, Bool.or_false, Bool.not_true, Bool.not_false, bne_self_eq_false]
    have R := b2.1 hr
    by_cases k4 : (q.length : Int) > g
    · simp (disch := first | assumption | omega | (simp only [az]; done)) only [ru, eq_self, if_true, if_false, BEq.rfl, binI, AO.row?, splice, fillL, mmAll, loadV, storeV, zeros, Am.rowAt, Am.part, addOff, Nat.reduceAdd, Nat.reduceMul, Nat.reduceLeDiff, Nat.reduceSub, Nat.reduceLT, Int.reduceEq, Int.reduceLT, Int.reduceLE, Int.reduceGT, Int.reduceGE, Int.reduceAdd, Int.reduceSub, Int.reduceMul, Int.reduceNeg, Int.reduceToNat, reduceCtorEq, reduceIte, lenV_sl H.p, lenV_sl H.b, elem_sp H.p, elem_bt H.b, view_sl H.p, view_sl H.b, scalar_sl H.p, scalar_sl H.b, cells_sl H.p, cells_sl H.b, pure_sl H.p, pure_sl H.b, Int.toNat_natCast, lenV_sl U, elem_in U, view_sl U, scalar_sl U, cells_sl U, pure_sl U, Int.toNat_natCast, lenV_sl NV, elem_in NV, view_sl NV, scalar_sl NV, cells_sl NV, pure_sl NV, Int.toNat_natCast, LS, lenV_sl SV, elem_in SV, view_sl SV, scalar_sl SV, cells_sl SV, pure_sl SV, Int.toNat_natCast, g0, hv, hl, a1, a2, s35, k2, k3, d3, d4, d5, q0, b3, hr, k4, s19, gUn, decide_true, decide_false, Bool.or_true, Bool.true_or, Bool.or_false, Bool.not_true, Bool.not_false, bne_self_eq_false]
    have b4' := fun st => b4 R (by omega) st
    by_cases k5 : (q.length : Int) = g
    · have hl3 : ¬ (g : Int) > 40 := by omega
      have g0' : ¬ (g : Int) = 0 := by omega
      have gg : ¬ (g : Int) > g := by omega
      cases k6 : ear q (ofN S)
      · simp (disch := first | assumption | omega | (simp only [az]; done)) only [ru, eq_self, if_true, if_false, BEq.rfl, binI, AO.row?, splice, fillL, mmAll, loadV, storeV, zeros, Am.rowAt, Am.part, addOff, Nat.reduceAdd, Nat.reduceMul, Nat.reduceLeDiff, Nat.reduceSub, Nat.reduceLT, Int.reduceEq, Int.reduceLT, Int.reduceLE, Int.reduceGT, Int.reduceGE, Int.reduceAdd, Int.reduceSub, Int.reduceMul, Int.reduceNeg, Int.reduceToNat, reduceCtorEq, reduceIte, lenV_sl H.p, lenV_sl H.b, elem_sp H.p, elem_bt H.b, view_sl H.p, view_sl H.b, scalar_sl H.p, scalar_sl H.b, cells_sl H.p, cells_sl H.b, pure_sl H.p, pure_sl H.b, Int.toNat_natCast, lenV_sl U, elem_in U, view_sl U, scalar_sl U, cells_sl U, pure_sl U, Int.toNat_natCast, lenV_sl NV, elem_in NV, view_sl NV, scalar_sl NV, cells_sl NV, pure_sl NV, Int.toNat_natCast, LS, lenV_sl SV, elem_in SV, view_sl SV, scalar_sl SV, cells_sl SV, pure_sl SV, Int.toNat_natCast, g0, hv, hl, a1, a2, s35, k2, k3, d3, d4, d5, q0, b3, hr, k4, k5, hl3, g0', gg, d6, k6, s19, gUn, decide_true, decide_false, Bool.or_true, Bool.true_or, Bool.or_false, Bool.not_true, Bool.not_false, bne_self_eq_false]
      have k1 : (c : Int) ≥ g := by
        by_cases k : c < q.length
        · obtain ⟨T, h1, h2⟩ := sl R (by omega) k
          rw [hs] at h1; cases h1
          rcases h2 with h2 | ⟨h2, h3⟩
          · omega
          · rw [k6] at h3; cases h3
        · omega
      simp (disch := first | assumption | omega | (simp only [az]; done)) only [ru, eq_self, if_true, if_false, BEq.rfl, binI, AO.row?, splice, fillL, mmAll, loadV, storeV, zeros, Am.rowAt, Am.part, addOff, Nat.reduceAdd, Nat.reduceMul, Nat.reduceLeDiff, Nat.reduceSub, Nat.reduceLT, Int.reduceEq, Int.reduceLT, Int.reduceLE, Int.reduceGT, Int.reduceGE, Int.reduceAdd, Int.reduceSub, Int.reduceMul, Int.reduceNeg, Int.reduceToNat, reduceCtorEq, reduceIte, lenV_sl H.p, lenV_sl H.b, elem_sp H.p, elem_bt H.b, view_sl H.p, view_sl H.b, scalar_sl H.p, scalar_sl H.b, cells_sl H.p, cells_sl H.b, pure_sl H.p, pure_sl H.b, Int.toNat_natCast, lenV_sl U, elem_in U, view_sl U, scalar_sl U, cells_sl U, pure_sl U, Int.toNat_natCast, lenV_sl NV, elem_in NV, view_sl NV, scalar_sl NV, cells_sl NV, pure_sl NV, Int.toNat_natCast, LS, lenV_sl SV, elem_in SV, view_sl SV, scalar_sl SV, cells_sl SV, pure_sl SV, Int.toNat_natCast, g0, hv, hl, a1, a2, s35, k2, k3, d3, d4, d5, q0, b3, hr, k4, k5, hl3, g0', gg, d6, k6, b4', b5, k1, s19, gUn, decide_true, decide_false, Bool.or_true, Bool.true_or, Bool.or_false, Bool.not_true, Bool.not_false, bne_self_eq_false]
    have k1 : (c : Int) ≥ q.length := by
      by_cases k : c < q.length
      · obtain ⟨T, h1, h2⟩ := sl R (by omega) k
        rw [hs] at h1; cases h1
        rcases h2 with h2 | ⟨h2, h3⟩ <;> omega
      · omega
    simp (disch := first | assumption | omega | (simp only [az]; done)) only [ru, eq_self, if_true, if_false, BEq.rfl, binI, AO.row?, splice, fillL, mmAll, loadV, storeV, zeros, Am.rowAt, Am.part, addOff, Nat.reduceAdd, Nat.reduceMul, Nat.reduceLeDiff, Nat.reduceSub, Nat.reduceLT, Int.reduceEq, Int.reduceLT, Int.reduceLE, Int.reduceGT, Int.reduceGE, Int.reduceAdd, Int.reduceSub, Int.reduceMul, Int.reduceNeg, Int.reduceToNat, reduceCtorEq, reduceIte, lenV_sl H.p, lenV_sl H.b, elem_sp H.p, elem_bt H.b, view_sl H.p, view_sl H.b, scalar_sl H.p, scalar_sl H.b, cells_sl H.p, cells_sl H.b, pure_sl H.p, pure_sl H.b, Int.toNat_natCast, lenV_sl U, elem_in U, view_sl U, scalar_sl U, cells_sl U, pure_sl U, Int.toNat_natCast, lenV_sl NV, elem_in NV, view_sl NV, scalar_sl NV, cells_sl NV, pure_sl NV, Int.toNat_natCast, LS, lenV_sl SV, elem_in SV, view_sl SV, scalar_sl SV, cells_sl SV, pure_sl SV, Int.toNat_natCast, g0, hv, hl, a1, a2, s35, k2, k3, d3, d4, d5, q0, b3, hr, k4, k5, b4', b5, k1, s19, gUn, decide_true, decide_false, Bool.or_true, Bool.true_or, Bool.or_false, Bool.not_true, Bool.not_false, bne_self_eq_false]
end
end Go.Proofs.Ytdmhbefdidmliaa.S

