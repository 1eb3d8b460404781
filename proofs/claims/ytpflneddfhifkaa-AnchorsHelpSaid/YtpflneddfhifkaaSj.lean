/-
What is pulled, and the key: the law of stage 2 on them.
-/
import Derived.Test.YtpflneddfhifkaaSi
namespace Go.Proofs.Ytpflneddfhifkaa.S
open Go Go.Am Go.Proofs.Ytpflneddfhifkaa.T
set_option maxRecDepth 100000
set_option linter.unusedSimpArgs false
set_option linter.unusedVariables false



theorem gUn {X : Cx} {base : Nat} {k : List KF} {ts : List AV} {h : List AO} {mk : List Nat} {r : List AOper} {d : Option Nat} {w : Bool} {op : AOp} {sl : Option Nat} {m : List Nat} {x : Option (Nat × Bool)} : GG X base .undef w ⟨d, op, x, sl, m⟩ r k ts h mk = GO X base r k (putT ts d .undef) h mk := id rfl

theorem topOf_max {c : Nat → Nat} : ∀ {k : Nat} j, j < k → c j ≤ c (topOf c k) ∧ (c j = c (topOf c k) → topOf c k ≤ j)
  | 0, j, h => by omega
  | k + 1, j, h => by
    rw [topOf]
    by_cases hk : c k > c (topOf c k)
    · rw [if_pos hk]
      by_cases e : j = k
      · subst e; exact ⟨Nat.le_refl _, fun _ => Nat.le_refl _⟩
      · have := (topOf_max (c := c) (k := k) j (by omega)).1
        exact ⟨by omega, fun _ => by omega⟩
    · rw [if_neg hk]
      by_cases e : j = k
      · subst e
        refine ⟨by omega, fun _ => ?_⟩
        cases j with
        | zero => simp [topOf]
        | succ j => have := topOf_lt (c := c) (k := j + 1) (by omega); omega
      · exact topOf_max (c := c) (k := k) j (by omega)

theorem none_lfp {n : Net} {t : Tru} (G : Fair n t) : IsLfp n t none6 (lfp n t none6) := by
  have B := netB G.v
  have h := rd_lfp (good_pos G) B.lw (b := zeros6) (by have := B.la; simp [zeros6]; omega)
  rw [show gb zeros6 = none6 from funext fun i => by rw [gb_zeros]] at h
  exact lfp_is h
theorem one_lfp {n : Net} {t : Tru} (G : Fair n t) {x : Nat} (hx : x < n.ancs.length) : IsLfp n t (one6 x) (lfp n t (one6 x)) := by
  have B := netB G.v
  have h := rd_lfp (good_pos G) B.lw (b := zeros6.set x true) (by have := B.la; simp [zeros6]; omega)
  have e : gb (zeros6.set x true) = one6 x := funext fun i => gb_one (by have := B.la; omega)
  rw [e] at h
  exact lfp_is h
theorem none_part {n : Net} {t : Tru} (G : Fair n t) {x : Nat} (hx : x < n.ancs.length) : Le n (lfp n t none6) (lfp n t (one6 x)) :=
  (none_lfp G).least _ (one_lfp G hx).cl (fun i _ h => by simp [none6] at h)
theorem pulled_same {n : Net} {t : Tru} (G : Fair n t) {x : Nat} (hx : x < n.ancs.length) (h : lfp n t none6 x = true) : lst n (lfp n t none6) = lst n (lfp n t (one6 x)) := by
  have N := none_lfp G
  have a : IsLfp n t (one6 x) (lfp n t none6) := ⟨N.cl, fun i hi e => by
    have : i = x := by simpa [one6] using e
    subst this; exact h, fun D hc hs => N.least D hc (fun i _ h => by simp [none6] at h)⟩
  exact lst_congr (lfp_unique a (one_lfp G hx))
theorem lst_part {n : Net} {A B : Nat → Bool} (h : Le n A B) : ∀ i, i < (lst n A).length → anyIs (lst n B) ((lst n A).getD i default) = true := by
  intro i hi
  have hm : (lst n A).getD i default ∈ lst n A := getD_mem hi
  rw [anyIs_iff]
  obtain ⟨y, hy⟩ : ∃ y, y = (lst n A).getD i default := ⟨_, rfl⟩
  rw [← hy] at hm ⊢
  have hm' := hm
  unfold lst at hm'
  simp only [List.mem_map, List.mem_filter, List.mem_range] at hm'
  obtain ⟨k, ⟨hk, _⟩, rfl⟩ := hm'
  exact (mem_lst hk).2 (h k hk ((mem_lst hk).1 hm))

theorem s11 {n : Net} {g a w : AV} (H0 : NetIn n g a w) {t : Tru} {v : AV} (V0 : TruIn t v) (x : Int) (st : Bool) : Iso E 11 [netV n g a w, .agg [I t.wind, I t.cur, v], I x] st = some (Bo true) := by
  refine Iso_of (es _ _ _ _) e11 ?_
  simp only [f11, netV]
  by_cases hs : smallN n
  case neg =>
    simp (disch := first | assumption | omega | (simp only [az]; done)) only [ru, eq_self, if_true, if_false, BEq.rfl, binI, AO.row?, splice, fillL, mmAll, loadV, storeV, zeros, Am.rowAt, Am.part, addOff, Nat.reduceAdd, Nat.reduceMul, Nat.reduceLeDiff, Nat.reduceSub, Nat.reduceLT, Int.reduceEq, Int.reduceLT, Int.reduceLE, Int.reduceGT, Int.reduceGE, Int.reduceAdd, Int.reduceSub, Int.reduceMul, Int.reduceNeg, Int.reduceToNat, reduceCtorEq, reduceIte, s51h H0 hs V0, view_sl H0.g, view_sl H0.a, view_sl H0.w, view_sl V0.s, s16]
  have H : NetOk n g a w := ⟨H0.g, H0.a, H0.w, hs.1, hs.2.1, hs.2.2⟩
  have sa := H.sa
  cases hg : gvn n t
  · simp (disch := first | assumption | omega | (simp only [az]; done)) only [ru, eq_self, if_true, if_false, BEq.rfl, binI, AO.row?, splice, fillL, mmAll, loadV, storeV, zeros, Am.rowAt, Am.part, addOff, Nat.reduceAdd, Nat.reduceMul, Nat.reduceLeDiff, Nat.reduceSub, Nat.reduceLT, Int.reduceEq, Int.reduceLT, Int.reduceLE, Int.reduceGT, Int.reduceGE, Int.reduceAdd, Int.reduceSub, Int.reduceMul, Int.reduceNeg, Int.reduceToNat, reduceCtorEq, reduceIte, lenV_sl H.g, lenV_sl H.a, lenV_sl H.w, elem_sl Spn.el H.g, elem_sl Anc.el H.a, elem_sl Wal.el H.w, view_sl H.g, view_sl H.a, view_sl H.w, scalar_sl H.g, scalar_sl H.a, scalar_sl H.w, cells_sl H.g, cells_sl H.a, cells_sl H.w, pure_sl H.g, pure_sl H.a, pure_sl H.w, Spn.e, Anc.e, Wal.e, Spn.eta, Anc.eta, Wal.eta, Int.toNat_natCast, s51 H V0, view_sl V0.s, hg, s16]
  have G := gvn_good hg
  have V : TruOk t v := ⟨V0.s, gvn_l hg⟩
  simp (disch := first | assumption | omega | (simp only [az]; done)) only [ru, eq_self, if_true, if_false, BEq.rfl, binI, AO.row?, splice, fillL, mmAll, loadV, storeV, zeros, Am.rowAt, Am.part, addOff, Nat.reduceAdd, Nat.reduceMul, Nat.reduceLeDiff, Nat.reduceSub, Nat.reduceLT, Int.reduceEq, Int.reduceLT, Int.reduceLE, Int.reduceGT, Int.reduceGE, Int.reduceAdd, Int.reduceSub, Int.reduceMul, Int.reduceNeg, Int.reduceToNat, reduceCtorEq, reduceIte, lenV_sl H.g, lenV_sl H.a, lenV_sl H.w, elem_sl Spn.el H.g, elem_sl Anc.el H.a, elem_sl Wal.el H.w, view_sl H.g, view_sl H.a, view_sl H.w, scalar_sl H.g, scalar_sl H.a, scalar_sl H.w, cells_sl H.g, cells_sl H.a, cells_sl H.w, pure_sl H.g, pure_sl H.a, pure_sl H.w, Spn.e, Anc.e, Wal.e, Spn.eta, Anc.eta, Wal.eta, Int.toNat_natCast, lenV_sl V.s, elem_sl intE V.s, view_sl V.s, scalar_sl V.s, cells_sl V.s, pure_sl V.s, s51 H V0, hg, s57 H]
  cases hx : inR x 0 ((n.ancs.length : Int) - 1)
  · simp (disch := first | assumption | omega | (simp only [az]; done)) only [ru, eq_self, if_true, if_false, BEq.rfl, binI, AO.row?, splice, fillL, mmAll, loadV, storeV, zeros, Am.rowAt, Am.part, addOff, Nat.reduceAdd, Nat.reduceMul, Nat.reduceLeDiff, Nat.reduceSub, Nat.reduceLT, Int.reduceEq, Int.reduceLT, Int.reduceLE, Int.reduceGT, Int.reduceGE, Int.reduceAdd, Int.reduceSub, Int.reduceMul, Int.reduceNeg, Int.reduceToNat, reduceCtorEq, reduceIte, s16]
  have hx' := inR_iff.1 hx
  obtain ⟨k, rfl⟩ : ∃ k : Nat, x = k := ⟨x.toNat, by omega⟩
  have hk : k < n.ancs.length := by omega
  have hz : ¬ n.ancs.length = 0 := by omega
  have g0 := good_e G
  obtain ⟨y, hy⟩ : ∃ y, y = topOf (pullC n t) n.ancs.length := ⟨_, rfl⟩
  have hyl : y < n.ancs.length := by rw [hy]; exact topOf_lt (by omega)
  have hyr : inR (y : Int) 0 ((n.ancs.length : Int) - 1) = true := inR_iff.2 (by omega)
  have top := topOf_max (c := pullC n t) (k := n.ancs.length) k hk
  rw [← hy] at top
  have a1 := s52 H V G
  have a2 := s31 H V.c (k : Int)
  have a3 := s33 H V.c
  have a4 := s31 H V.c (y : Int)
  have ky : keyV n t = (y : Int) := by rw [hy]; simp [keyV, keyE, g0, hz]
  have ke : keyE n t = 0 := by simp [keyE, g0, hz]
  have p1 : pulledE n t (k : Int) = 0 := by simp [pulledE, g0, hx]
  have p2 : pulledE n t (y : Int) = 0 := by simp [pulledE, g0, hyr]
  simp only [ansP, errL, p1, p2, ky, ke, if_true, Int.toNat_natCast] at a2 a3 a4
  have part := lst_part (none_part G.toFair hk)
  have same := pulled_same G.toFair hk
  have mem := mem_lst (n := n) (D := lfp n t (one6 k)) hk
  have memN := mem_lst (n := n) (D := lfp n t none6) hk
  have inK : anyIs (lst n (lfp n t (one6 k))) (k : Int) = true := anyIs_iff.2 (mem.2 ((one_lfp G.toFair hk).le k hk (by simp [one6])))
  obtain ⟨K, hK⟩ : ∃ K, K = lst n (lfp n t none6) := ⟨_, rfl⟩
  obtain ⟨L, hL⟩ : ∃ L, L = lst n (lfp n t (one6 k)) := ⟨_, rfl⟩
  obtain ⟨M, hM⟩ : ∃ M, M = lst n (lfp n t (one6 y)) := ⟨_, rfl⟩
  have lK : K.length ≤ n.ancs.length := by rw [hK]; exact lst_le
  have lL : L.length ≤ n.ancs.length := by rw [hL]; exact lst_le
  have lM : M.length ≤ n.ancs.length := by rw [hM]; exact lst_le
  have rL : Rises L 0 ((n.ancs.length : Int) - 1) := by rw [hL]; exact lst_rises n _
  simp only [pullC, ← hL, ← hM] at top
  rw [← hK, ← hL] at part
  rw [← hK, ← hL] at same
  rw [← hK] at memN a1
  rw [← hL] at inK a2
  rw [← hM] at a4
  have b1 := fun st => s53 (resL_is L) (by omega) rL st
  have b2 := fun x st => s56 (resL_is L) (by omega) x st
  have b3 := fun st => s54 (resL_is K) (resL_is L) (by omega) (by omega) part st
  have b4 := fun x st => s56 (resL_is K) (by omega) x st
  have lM' : (M.length : Int) ≤ n.ancs.length := by omega
  simp (disch := first | assumption | omega | (simp only [az]; done)) only [ru, eq_self, if_true, if_false, BEq.rfl, binI, AO.row?, splice, fillL, mmAll, loadV, storeV, zeros, Am.rowAt, Am.part, addOff, Nat.reduceAdd, Nat.reduceMul, Nat.reduceLeDiff, Nat.reduceSub, Nat.reduceLT, Int.reduceEq, Int.reduceLT, Int.reduceLE, Int.reduceGT, Int.reduceGE, Int.reduceAdd, Int.reduceSub, Int.reduceMul, Int.reduceNeg, Int.reduceToNat, reduceCtorEq, reduceIte, lenV_sl H.g, lenV_sl H.a, lenV_sl H.w, elem_sl Spn.el H.g, elem_sl Anc.el H.a, elem_sl Wal.el H.w, view_sl H.g, view_sl H.a, view_sl H.w, scalar_sl H.g, scalar_sl H.a, scalar_sl H.w, cells_sl H.g, cells_sl H.a, cells_sl H.w, pure_sl H.g, pure_sl H.a, pure_sl H.w, Spn.e, Anc.e, Wal.e, Spn.eta, Anc.eta, Wal.eta, Int.toNat_natCast, lenV_sl V.s, elem_sl intE V.s, view_sl V.s, scalar_sl V.s, cells_sl V.s, pure_sl V.s, a1, a2, a3, s25 V, slV_sc, slV_ce, slV_vi, slV_pu, view_sl (resL_is K), view_sl (resL_is L)]
  simp (disch := first | assumption | omega | (simp only [az]; done)) only [ru, eq_self, if_true, if_false, BEq.rfl, binI, AO.row?, splice, fillL, mmAll, loadV, storeV, zeros, Am.rowAt, Am.part, addOff, Nat.reduceAdd, Nat.reduceMul, Nat.reduceLeDiff, Nat.reduceSub, Nat.reduceLT, Int.reduceEq, Int.reduceLT, Int.reduceLE, Int.reduceGT, Int.reduceGE, Int.reduceAdd, Int.reduceSub, Int.reduceMul, Int.reduceNeg, Int.reduceToNat, reduceCtorEq, reduceIte, lenV_sl H.g, lenV_sl H.a, lenV_sl H.w, elem_sl Spn.el H.g, elem_sl Anc.el H.a, elem_sl Wal.el H.w, view_sl H.g, view_sl H.a, view_sl H.w, scalar_sl H.g, scalar_sl H.a, scalar_sl H.w, cells_sl H.g, cells_sl H.a, cells_sl H.w, pure_sl H.g, pure_sl H.a, pure_sl H.w, Spn.e, Anc.e, Wal.e, Spn.eta, Anc.eta, Wal.eta, Int.toNat_natCast, lenV_sl V.s, elem_sl intE V.s, view_sl V.s, scalar_sl V.s, cells_sl V.s, pure_sl V.s, s57 H, hyr, b1, b2, b3, b4, inK, view_sl (resL_is K), view_sl (resL_is L), lenV_sl (resL_is K), lenV_sl (resL_is L)]
  have lL' : (L.length : Int) ≤ n.ancs.length := by omega
  have fin : (M.length : Int) > L.length ∨ (¬ (L.length : Int) > L.length ∧ (M.length : Int) = L.length ∧ (y : Int) ≤ k) := by
    by_cases h : M.length > L.length
    · left; omega
    · have := top.2 (by omega)
      right; omega
  cases hin : anyIs K (k : Int)
  · simp (disch := first | assumption | omega | (simp only [az]; done)) only [ru, eq_self, if_true, if_false, BEq.rfl, binI, AO.row?, splice, fillL, mmAll, loadV, storeV, zeros, Am.rowAt, Am.part, addOff, Nat.reduceAdd, Nat.reduceMul, Nat.reduceLeDiff, Nat.reduceSub, Nat.reduceLT, Int.reduceEq, Int.reduceLT, Int.reduceLE, Int.reduceGT, Int.reduceGE, Int.reduceAdd, Int.reduceSub, Int.reduceMul, Int.reduceNeg, Int.reduceToNat, reduceCtorEq, reduceIte]
    rcases fin with f1 | ⟨f1, f2, f3⟩
    · simp (disch := first | assumption | omega | (simp only [az]; done)) only [ru, eq_self, if_true, if_false, BEq.rfl, binI, AO.row?, splice, fillL, mmAll, loadV, storeV, zeros, Am.rowAt, Am.part, addOff, Nat.reduceAdd, Nat.reduceMul, Nat.reduceLeDiff, Nat.reduceSub, Nat.reduceLT, Int.reduceEq, Int.reduceLT, Int.reduceLE, Int.reduceGT, Int.reduceGE, Int.reduceAdd, Int.reduceSub, Int.reduceMul, Int.reduceNeg, Int.reduceToNat, reduceCtorEq, reduceIte, lenV_sl H.g, lenV_sl H.a, lenV_sl H.w, elem_sl Spn.el H.g, elem_sl Anc.el H.a, elem_sl Wal.el H.w, view_sl H.g, view_sl H.a, view_sl H.w, scalar_sl H.g, scalar_sl H.a, scalar_sl H.w, cells_sl H.g, cells_sl H.a, cells_sl H.w, pure_sl H.g, pure_sl H.a, pure_sl H.w, Spn.e, Anc.e, Wal.e, Spn.eta, Anc.eta, Wal.eta, Int.toNat_natCast, lenV_sl V.s, elem_sl intE V.s, view_sl V.s, scalar_sl V.s, cells_sl V.s, pure_sl V.s, s25 V, slV_sc, slV_ce, slV_vi, slV_pu, a4, view_sl (resL_is M), lenV_sl (resL_is L), lenV_sl (resL_is M), lM', lL', gUn, f1, s16]
    · simp (disch := first | assumption | omega | (simp only [az]; done)) only [ru, eq_self, if_true, if_false, BEq.rfl, binI, AO.row?, splice, fillL, mmAll, loadV, storeV, zeros, Am.rowAt, Am.part, addOff, Nat.reduceAdd, Nat.reduceMul, Nat.reduceLeDiff, Nat.reduceSub, Nat.reduceLT, Int.reduceEq, Int.reduceLT, Int.reduceLE, Int.reduceGT, Int.reduceGE, Int.reduceAdd, Int.reduceSub, Int.reduceMul, Int.reduceNeg, Int.reduceToNat, reduceCtorEq, reduceIte, lenV_sl H.g, lenV_sl H.a, lenV_sl H.w, elem_sl Spn.el H.g, elem_sl Anc.el H.a, elem_sl Wal.el H.w, view_sl H.g, view_sl H.a, view_sl H.w, scalar_sl H.g, scalar_sl H.a, scalar_sl H.w, cells_sl H.g, cells_sl H.a, cells_sl H.w, pure_sl H.g, pure_sl H.a, pure_sl H.w, Spn.e, Anc.e, Wal.e, Spn.eta, Anc.eta, Wal.eta, Int.toNat_natCast, lenV_sl V.s, elem_sl intE V.s, view_sl V.s, scalar_sl V.s, cells_sl V.s, pure_sl V.s, s25 V, slV_sc, slV_ce, slV_vi, slV_pu, a4, view_sl (resL_is M), lenV_sl (resL_is L), lenV_sl (resL_is M), lM', lL', gUn, f1, f2, f3, s16]
  · obtain rfl : K = L := same (memN.1 (anyIs_iff.1 hin))
    simp (disch := first | assumption | omega | (simp only [az]; done)) only [ru, eq_self, if_true, if_false, BEq.rfl, binI, AO.row?, splice, fillL, mmAll, loadV, storeV, zeros, Am.rowAt, Am.part, addOff, Nat.reduceAdd, Nat.reduceMul, Nat.reduceLeDiff, Nat.reduceSub, Nat.reduceLT, Int.reduceEq, Int.reduceLT, Int.reduceLE, Int.reduceGT, Int.reduceGE, Int.reduceAdd, Int.reduceSub, Int.reduceMul, Int.reduceNeg, Int.reduceToNat, reduceCtorEq, reduceIte, lenV_sl (resL_is K), ne_eq, not_true_eq_false]
    rcases fin with f1 | ⟨f1, f2, f3⟩
    · simp (disch := first | assumption | omega | (simp only [az]; done)) only [ru, eq_self, if_true, if_false, BEq.rfl, binI, AO.row?, splice, fillL, mmAll, loadV, storeV, zeros, Am.rowAt, Am.part, addOff, Nat.reduceAdd, Nat.reduceMul, Nat.reduceLeDiff, Nat.reduceSub, Nat.reduceLT, Int.reduceEq, Int.reduceLT, Int.reduceLE, Int.reduceGT, Int.reduceGE, Int.reduceAdd, Int.reduceSub, Int.reduceMul, Int.reduceNeg, Int.reduceToNat, reduceCtorEq, reduceIte, lenV_sl H.g, lenV_sl H.a, lenV_sl H.w, elem_sl Spn.el H.g, elem_sl Anc.el H.a, elem_sl Wal.el H.w, view_sl H.g, view_sl H.a, view_sl H.w, scalar_sl H.g, scalar_sl H.a, scalar_sl H.w, cells_sl H.g, cells_sl H.a, cells_sl H.w, pure_sl H.g, pure_sl H.a, pure_sl H.w, Spn.e, Anc.e, Wal.e, Spn.eta, Anc.eta, Wal.eta, Int.toNat_natCast, lenV_sl V.s, elem_sl intE V.s, view_sl V.s, scalar_sl V.s, cells_sl V.s, pure_sl V.s, s25 V, slV_sc, slV_ce, slV_vi, slV_pu, a4, view_sl (resL_is M), lenV_sl (resL_is K), lenV_sl (resL_is M), lM', lL', gUn, f1, s16]
    · simp (disch := first | assumption | omega | (simp only [az]; done)) only [ru, eq_self, if_true, if_false, BEq.rfl, binI, AO.row?, splice, fillL, mmAll, loadV, storeV, zeros, Am.rowAt, Am.part, addOff, Nat.reduceAdd, Nat.reduceMul, Nat.reduceLeDiff, Nat.reduceSub, Nat.reduceLT, Int.reduceEq, Int.reduceLT, Int.reduceLE, Int.reduceGT, Int.reduceGE, Int.reduceAdd, Int.reduceSub, Int.reduceMul, Int.reduceNeg, Int.reduceToNat, reduceCtorEq, reduceIte, lenV_sl H.g, lenV_sl H.a, lenV_sl H.w, elem_sl Spn.el H.g, elem_sl Anc.el H.a, elem_sl Wal.el H.w, view_sl H.g, view_sl H.a, view_sl H.w, scalar_sl H.g, scalar_sl H.a, scalar_sl H.w, cells_sl H.g, cells_sl H.a, cells_sl H.w, pure_sl H.g, pure_sl H.a, pure_sl H.w, Spn.e, Anc.e, Wal.e, Spn.eta, Anc.eta, Wal.eta, Int.toNat_natCast, lenV_sl V.s, elem_sl intE V.s, view_sl V.s, scalar_sl V.s, cells_sl V.s, pure_sl V.s, s25 V, slV_sc, slV_ce, slV_vi, slV_pu, a4, view_sl (resL_is M), lenV_sl (resL_is K), lenV_sl (resL_is M), lM', lL', gUn, f1, f2, f3, s16]
end Go.Proofs.Ytpflneddfhifkaa.S
