/-
SaltLess: a part less.
-/
import Derived.Test.YtcdedbpmjhjehaaSw
namespace Go.Proofs.Ytcdedbpmjhjehaa.S
open Go Go.Am Go.Proofs.Ytcdedbpmjhjehaa.T
set_option maxRecDepth 100000
set_option linter.unusedSimpArgs false
set_option linter.unusedVariables false

theorem flat2 (l : List Pr) : (l.flatMap Pr.e).length = l.length * 2 := flat_len Pr.el l
theorem flat_tk {l : List Pr} {i : Nat} : (l.flatMap Pr.e).take (i * 2) = (l.take i).flatMap Pr.e := by
  induction l generalizing i with
  | nil => simp
  | cons a l ih =>
    cases i with
    | zero => simp
    | succ i =>
      rw [List.flatMap_cons, List.take_succ_cons, List.flatMap_cons, show (i + 1) * 2 = (Pr.e a).length + i * 2 by rw [Pr.el]; omega, List.take_length_add_append, ih]
theorem flat_dp {l : List Pr} {i : Nat} : (l.flatMap Pr.e).drop (i * 2) = (l.drop i).flatMap Pr.e := by
  induction l generalizing i with
  | nil => simp
  | cons a l ih =>
    cases i with
    | zero => simp
    | succ i =>
      rw [List.flatMap_cons, List.drop_succ_cons, show (i + 1) * 2 = (Pr.e a).length + i * 2 by rw [Pr.el]; omega, List.drop_length_add_append, ih]
section
variable {h : Hs} {k p b : AV}
set_option maxHeartbeats 8000000 in
theorem s62 (H : HsOk h k p b) {i : Nat} (hi : i < h.ps.length) : Iso E 62 [hsV h.fl k p b, I i] false = some (hsV h.fl (slV 2 Kd.e h.ks) (slV 2 Pr.e (h.ps.eraseIdx i)) (slV 1 intL h.bs)) := by
  have np := H.np
  obtain ⟨kv, hkv⟩ : ∃ v, v = slV 2 Kd.e h.ks := ⟨_, rfl⟩
  obtain ⟨pv, hpv⟩ : ∃ v, v = slV 2 Pr.e h.ps := ⟨_, rfl⟩
  obtain ⟨bv, hbv⟩ : ∃ v, v = slV 1 intL h.bs := ⟨_, rfl⟩
  have KV : IsSl 2 Kd.e h.ks kv := by rw [hkv]; exact slV_is
  have PV : IsSl 2 Pr.e h.ps pv := by rw [hpv]; exact slV_is
  have BV : IsSl 1 intL h.bs bv := by rw [hbv]; exact slV_is
  have a17 := fun st => s17 H st
  simp only [hsV, cpV, ← hkv, ← hpv, ← hbv] at a17
  rw [← hkv, ← hbv]
  have hp : p = .cs 2 h.ps.length (h.ps.flatMap Pr.e) := by
    rcases H.p with h1 | ⟨_, h2⟩
    · exact h1
    · rw [h2] at hi; simp at hi
  obtain ⟨r1, hr1⟩ : ∃ r, r = (h.ps.take i).flatMap Pr.e := ⟨_, rfl⟩
  obtain ⟨r2, hr2⟩ : ∃ r, r = (h.ps.drop (i + 1)).flatMap Pr.e := ⟨_, rfl⟩
  have l1 : r1.length = i * 2 := by rw [hr1, flat2, List.length_take]; congr 1; omega
  have l2 : r2.length = (h.ps.length - (i + 1)) * 2 := by rw [hr2, flat2, List.length_drop]
  have s1 : r1.all AV.scalar = true := by rw [hr1]; exact scal_sl Pr.sc _
  have s2 : r2.all AV.scalar = true := by rw [hr2]; exact scal_sl Pr.sc _
  have sl1 : sliceV 2 p none (some (I i)) = some (.cs 2 i r1) := by
    rw [hp]
    simp only [sliceV, if_true, sliceB]
    rw [if_pos (by omega)]
    simp only [Nat.zero_mul, List.drop_zero, Nat.sub_zero, Int.toNat_natCast]
    rw [flat_tk, ← hr1]
  have sl2 : sliceV 2 p (some (I ((i : Int) + 1))) none = some (.cs 2 (h.ps.length - (i + 1)) r2) := by
    rw [hp]
    simp only [sliceV, if_true, sliceB]
    rw [if_pos (by omega)]
    have e : ((i : Int) + 1).toNat = i + 1 := by omega
    simp only [e]
    rw [flat_dp, ← hr2, List.take_of_length_le (by omega)]
  have er : r1 ++ r2 = (h.ps.eraseIdx i).flatMap Pr.e := by rw [hr1, hr2, List.eraseIdx_eq_take_drop_succ, List.flatMap_append]
  have ln : i + (h.ps.length - (i + 1)) = (h.ps.eraseIdx i).length := by rw [List.length_eraseIdx_of_lt hi]; omega
  clear hr1 hr2 hp
  obtain ⟨A, hA⟩ : ∃ A : AO, A = .cells [k, I h.fl, p, b] false := ⟨_, rfl⟩
  obtain ⟨B, hB⟩ : ∃ B : AO, B = .cells [.nils, I 0, .nils, .nils] false := ⟨_, rfl⟩
  obtain ⟨O, hO⟩ : ∃ O : AO, O = .cells [kv, I h.fl, pv, bv] false := ⟨_, rfl⟩
  obtain ⟨q1, x3, x4, A1, hq1, hx⟩ : ∃ (q1 : Nat) (x3 x4 : AO), appG true 0 4 2 16 [A, B, O, .cells [] false, .tomb, .tomb] (.ms 2 3 0 0) (.cs 2 i r1) = some (.ms 2 q1 0 i, [A, B, O, x3, x4, .tomb]) ∧ (q1 = 3 ∨ q1 = 4) ∧ [A, B, O, x3, x4, .tomb][q1]? = some (.cells r1 false) := by
    by_cases h0 : i = 0
    · subst h0
      have hr : r1 = [] := List.eq_nil_of_length_eq_zero (by omega)
      subst hr
      exact ⟨3, .cells [] false, .tomb, appG_zero (sl := 0) rfl rfl rfl, .inl rfl, rfl⟩
    · refine ⟨4, .ro [], .cells r1 false, (appG_ms (n := i) (c := []) (o := 3) (len := 0) h0 rfl rfl rfl rfl l1 s1 (by omega) (by omega) (Nat.zero_le _)).trans ?_, .inr rfl, rfl⟩
      simp
  obtain ⟨q2, y3, y4, y5, A2, hq2, hy⟩ : ∃ (q2 : Nat) (y3 y4 y5 : AO), appG false 0 5 2 16 [A, B, O, x3, x4, .tomb] (.ms 2 q1 0 i) (.cs 2 (h.ps.length - (i + 1)) r2) = some (.ms 2 q2 0 (h.ps.eraseIdx i).length, [A, B, O, y3, y4, y5]) ∧ (3 ≤ q2 ∧ q2 ≤ 5) ∧ [A, B, O, y3, y4, y5][q2]? = some (.cells ((h.ps.eraseIdx i).flatMap Pr.e) false) := by
    rw [← er, ← ln]
    by_cases h0 : h.ps.length - (i + 1) = 0
    · have hr : r2 = [] := List.eq_nil_of_length_eq_zero (by omega)
      subst hr
      rw [h0, List.append_nil]
      exact ⟨q1, x3, x4, .tomb, appG_zero (sl := i) rfl rfl rfl, by omega, hx⟩
    · have key := appG_ms (keep := false) (lim := 0) (p := 5) (eb := 16) (x := .cs 2 (h.ps.length - (i + 1)) r2) (len := i) h0 hx (by omega) rfl rfl l2 s2 (by omega) (by omega) (Nat.zero_le _)
      rcases hq1 with rfl | rfl
      · exact ⟨5, .tomb, x4, .cells (r1 ++ r2) false, key.trans (by simp), by omega, rfl⟩
      · exact ⟨5, x3, .tomb, .cells (r1 ++ r2) false, key.trans (by simp), by omega, rfl⟩
  obtain ⟨H5, e5⟩ : ∃ H5, H5 = [A, B, O, y3, y4, y5] := ⟨_, rfl⟩
  have b0 : H5[0]? = some (.cells [k, I h.fl, p, b] false) := by rw [e5, hA]; rfl
  have b1 : H5[1]? = some (.cells [.nils, I 0, .nils, .nils] false) := by rw [e5, hB]; rfl
  have b2 : H5[2]? = some (.cells [kv, I h.fl, pv, bv] false) := by rw [e5, hO]; rfl
  rw [← e5] at hy A2
  clear e5 hx
  subst hA; subst hB; subst hO
  obtain ⟨L, hL⟩ : ∃ L, L = h.ps.eraseIdx i := ⟨_, rfl⟩
  rw [← hL] at hy A2
  obtain ⟨H6, e6⟩ : ∃ H6, H6 = H5.set 2 (.cells [kv, I h.fl, .ms 2 q2 0 L.length, bv] false) := ⟨_, rfl⟩
  have c1 : H6[1]? = some (.cells [.nils, I 0, .nils, .nils] false) := by rw [e6]; exact set_of b1 (by omega)
  have c2 : H6[2]? = some (.cells [kv, I h.fl, .ms 2 q2 0 L.length, bv] false) := by rw [e6]; exact set_at b2
  have cq : H6[q2]? = some (.cells (L.flatMap Pr.e) false) := by rw [e6]; exact set_of hy (by omega)
  obtain ⟨H7, e7⟩ : ∃ H7, H7 = H6.set 1 (.cells [kv, I h.fl, .ms 2 q2 0 L.length, bv] false) := ⟨_, rfl⟩
  have d1 : H7[1]? = some (.cells [kv, I h.fl, .ms 2 q2 0 L.length, bv] false) := by rw [e7]; exact set_at c1
  have dq : H7[q2]? = some (.cells (L.flatMap Pr.e) false) := by rw [e7]; exact set_of cq (by omega)
  have vp := fun n => viewP (l := L) dq (st := false) (n := n)
  rw [← hL]
  refine Iso_of (es _ _ _ _) e62 ?_
  simp only [f62, hsV]
  simp (disch := first | assumption | omega | (simp only [az]; done)) only [ru, eq_self, if_true, if_false, BEq.rfl, binI, AO.row?, splice, fillL, mmAll, loadV, storeV, zeros, Am.rowAt, Am.part, addOff, Nat.reduceAdd, Nat.reduceMul, Nat.reduceLeDiff, Nat.reduceSub, Nat.reduceLT, Int.reduceEq, Int.reduceLT, Int.reduceLE, Int.reduceGT, Int.reduceGE, Int.reduceAdd, Int.reduceSub, Int.reduceMul, Int.reduceNeg, Int.reduceToNat, reduceCtorEq, reduceIte, lenV_sl H.k, lenV_sl H.p, lenV_sl H.b, elem_kd H.k, elem_pr H.p, elem_in H.b, view_sl H.k, view_sl H.p, view_sl H.b, scalar_sl H.k, scalar_sl H.p, scalar_sl H.b, cells_sl H.k, cells_sl H.p, cells_sl H.b, pure_sl H.k, pure_sl H.p, pure_sl H.b, Int.toNat_natCast, a17, cells_sl KV, cells_sl PV, cells_sl BV, scalar_sl KV, scalar_sl PV, scalar_sl BV, GO_mapp, unhN, unhC, fin1, sl1, A1, Option.map_some, sl2, A2, b0, b1, b2, ← e6, c1, c2, ← e7, d1, finC, getRes, Option.some.injEq, exists_eq_left', vp, view_sl KV, view_sl BV]

def Hs.er (h : Hs) (i : Nat) : Hs := { h with ps := h.ps.eraseIdx i }
theorem zip_er : ∀ (ps : List Pr) (x : List Int) (i : Nat), ((ps.eraseIdx i).zip (x.eraseIdx i)).Sublist (ps.zip x)
  | [], x, i => by simp
  | q :: ps, [], i => by simp
  | q :: ps, a :: x, 0 => by simp
  | q :: ps, a :: x, i + 1 => by
    simp only [List.eraseIdx_cons_succ, List.zip_cons_cons]
    exact (zip_er ps x i).cons_cons _
theorem er_prs {i : Nat} {x : List Int} {c : Int} : (prs (h.ps.eraseIdx i) (x.eraseIdx i) c).Sublist (prs h.ps x c) := ((zip_er _ _ _).filter _).map _
theorem er_G (G : HG h) (i : Nat) : HG (h.er i) where
  nk := G.nk
  np := Nat.le_trans (List.eraseIdx_sublist _ _).length_le G.np
  nb := G.nb
  g := G.g
  b := G.b
  q := by
    have key : ∀ q ∈ h.ps, (0 ≤ q.k ∧ q.k < h.ks.length) ∧ 0 ≤ q.p ∧ q.p ≤ 40 := fun q hq => by
      obtain ⟨i, hi, rfl⟩ := mem_getD (d := default) hq
      exact G.q i hi
    intro j hj
    have hs : (h.er i).ps.Sublist h.ps := List.eraseIdx_sublist _ _
    have hm : (h.er i).ps.getD j default ∈ (h.er i).ps := by
      rw [List.getD_eq_getElem?_getD, List.getElem?_eq_getElem hj]; exact List.getElem_mem hj
    exact key _ (hs.subset hm)
theorem er_pk (G : HG h) {i : Nat} (hi : i < h.ps.length) {x : List Int} (P : Pkg h x) : Pkg (h.er i) (x.eraseIdx i) := by
  refine ⟨?_, fun c hc => P.c c ((List.eraseIdx_sublist _ _).subset hc), ?_⟩
  · show (x.eraseIdx i).length = (h.ps.eraseIdx i).length
    rw [List.length_eraseIdx_of_lt hi, List.length_eraseIdx_of_lt (by rw [P.l]; exact hi), P.l]
  · rw [Hs.ft_iff]
    intro c hc
    exact Int.le_trans (nd_sub G.g er_prs (G.pp x c)) (Hs.ft_iff.1 P.f c hc)
theorem er_sa (G : HG h) {i : Nat} {x : List Int} : (h.er i).sa (x.eraseIdx i) ≤ h.sa x := sums_le fun c _ => sl_sub G.g er_prs (G.pp x c)
theorem er_us {i : Nat} {x : List Int} : (h.er i).us (x.eraseIdx i) ≤ h.us x := sums_le fun c _ => by
  have := (er_prs (h := h) (i := i) (x := x) (c := c)).length_le
  show (if (prs (h.ps.eraseIdx i) (x.eraseIdx i) c).length = 0 then (0 : Int) else 1) ≤ _
  split
  · split <;> omega
  · rw [if_neg (by omega)]; exact Int.le_refl _
theorem er_ne (G : HG h) {i : Nat} (hi : i < h.ps.length) (hn : h.pk ≠ []) : (h.er i).pk ≠ [] := by
  obtain ⟨x, hx⟩ := ex_list hn
  have := (er_G G i).mem_pk.2 (er_pk G hi (G.mem_pk.1 hx))
  intro e; rw [e] at this; cases this
theorem er_lsf (G : HG h) {i : Nat} (hi : i < h.ps.length) (hn : h.pk ≠ []) : lsf (h.er i).sa (h.er i).pk ≤ lsf h.sa h.pk ∧ lsf (h.er i).us (h.er i).pk ≤ lsf h.us h.pk := by
  have hn' := er_ne G hi hn
  obtain ⟨⟨x, hx, ex⟩, _⟩ := lsf_spec (f := h.sa) hn
  obtain ⟨⟨y, hy, ey⟩, _⟩ := lsf_spec (f := h.us) hn
  have h1 := (lsf_spec (f := (h.er i).sa) hn').2 _ ((er_G G i).mem_pk.2 (er_pk G hi (G.mem_pk.1 hx)))
  have h2 := (lsf_spec (f := (h.er i).us) hn').2 _ ((er_G G i).mem_pk.2 (er_pk G hi (G.mem_pk.1 hy)))
  have h3 := er_sa G (i := i) (x := x)
  have h4 := er_us (h := h) (i := i) (x := y)
  omega
def buyA (h : Hs) : Int := if h.valid && decide (h.pk = []) && decide (h.bs.length ≠ 4) then buyN h else 0
theorem buyA_no (hp : h.pk ≠ []) : buyA h = 0 := by unfold buyA; rw [decide_eq_false hp]; simp
theorem er_buy (G : HG h) {i : Nat} (hi : i < h.ps.length) (he : buyE h = 0) : buyE (h.er i) = 0 ∧ buyA (h.er i) ≤ buyA h ∧ buyA h ≤ 99 := by
  have hv := valid_iff.2 G
  have Go := er_G G i
  have hvo := valid_iff.2 Go
  have bo := buyN_bd (h := h.er i)
  have bh := buyN_bd (h := h)
  have A0 : 0 ≤ buyA h ∧ buyA h ≤ 99 := by unfold buyA; split <;> omega
  by_cases hpo : (h.er i).pk ≠ []
  · refine ⟨by unfold buyE; rw [hvo, if_pos rfl, if_pos hpo], ?_, A0.2⟩
    rw [buyA_no hpo]; exact A0.1
  have hpo' : (h.er i).pk = [] := Decidable.not_not.1 hpo
  have hp : ¬ h.pk ≠ [] := fun hn => hpo (er_ne G hi hn)
  have hp' : h.pk = [] := Decidable.not_not.1 hp
  unfold buyE at he
  rw [hv, if_pos rfl, if_neg hp] at he
  by_cases h4 : h.bs.length = 4
  · rw [if_pos h4] at he; cases he
  rw [if_neg h4] at he
  have nb := G.nb
  have hb : h.bs.length < 4 := by omega
  cases hs : (buyF h 100).isSome
  · rw [hs] at he; cases he
  have hm := (buy_iff G hb (s := buyN h) bh).2 (.inr ⟨hs, Int.le_refl _⟩)
  have hm2 := er_ne (more_G G hb bh) (i := i) hi hm
  have hm3 : ((h.er i).more (buyN h)).pk ≠ [] := hm2
  rcases (buy_iff Go hb (s := buyN h) bh).1 hm3 with h1 | ⟨h1, h2⟩
  · exact absurd h1 hpo
  · have e4 : (h.er i).bs.length = h.bs.length := rfl
    refine ⟨by unfold buyE; rw [hvo, if_pos rfl, if_neg hpo, if_neg (by rw [e4]; exact h4), h1, if_pos rfl], ?_, A0.2⟩
    unfold buyA
    rw [hv, hvo, hp', hpo', e4]
    simp only [decide_true, Bool.true_and]
    rw [decide_eq_true h4, if_pos rfl, if_pos rfl]; exact h2
set_option maxHeartbeats 16000000 in
theorem s9 (H0 : HsIn h k p b) (u : Int) : Iso E 9 [hsV h.fl k p b, I u] false = some (Bo true) := by
  have a0 := fun st => s46 H0 st
  simp only [hsV] at a0
  refine Iso_of (es _ _ _ _) e9 ?_
  simp only [f9, hsV]
  cases hr : h.rdy
  · simp (disch := first | assumption | omega | (simp only [az]; done)) only [ru, eq_self, if_true, if_false, BEq.rfl, binI, AO.row?, splice, fillL, mmAll, loadV, storeV, zeros, Am.rowAt, Am.part, addOff, Nat.reduceAdd, Nat.reduceMul, Nat.reduceLeDiff, Nat.reduceSub, Nat.reduceLT, Int.reduceEq, Int.reduceLT, Int.reduceLE, Int.reduceGT, Int.reduceGE, Int.reduceAdd, Int.reduceSub, Int.reduceMul, Int.reduceNeg, Int.reduceToNat, reduceCtorEq, reduceIte, lenV_sl H0.k, lenV_sl H0.p, lenV_sl H0.b, elem_kd H0.k, elem_pr H0.p, elem_in H0.b, view_sl H0.k, view_sl H0.p, view_sl H0.b, scalar_sl H0.k, scalar_sl H0.p, scalar_sl H0.b, cells_sl H0.k, cells_sl H0.p, cells_sl H0.b, pure_sl H0.k, pure_sl H0.p, pure_sl H0.b, Int.toNat_natCast, a0, hr, s16, gUn, Bool.not_false]
  have H := rdy_ok H0 hr
  have G := (rdy_iff.1 hr).1
  have a61 := fun st => s61 H u st
  simp only [hsV] at a61
  cases hu : inR u 0 (h.ps.length - 1)
  · simp (disch := first | assumption | omega | (simp only [az]; done)) only [ru, eq_self, if_true, if_false, BEq.rfl, binI, AO.row?, splice, fillL, mmAll, loadV, storeV, zeros, Am.rowAt, Am.part, addOff, Nat.reduceAdd, Nat.reduceMul, Nat.reduceLeDiff, Nat.reduceSub, Nat.reduceLT, Int.reduceEq, Int.reduceLT, Int.reduceLE, Int.reduceGT, Int.reduceGE, Int.reduceAdd, Int.reduceSub, Int.reduceMul, Int.reduceNeg, Int.reduceToNat, reduceCtorEq, reduceIte, lenV_sl H.k, lenV_sl H.p, lenV_sl H.b, elem_kd H.k, elem_pr H.p, elem_in H.b, view_sl H.k, view_sl H.p, view_sl H.b, scalar_sl H.k, scalar_sl H.p, scalar_sl H.b, cells_sl H.k, cells_sl H.p, cells_sl H.b, pure_sl H.k, pure_sl H.p, pure_sl H.b, Int.toNat_natCast, a0, hr, a61, hu, s16, gUn, Bool.not_true, Bool.not_false]
  have hur := inR_iff.1 hu
  obtain ⟨i, rfl⟩ : ∃ i : Nat, u = i := ⟨u.toNat, by omega⟩
  have hi : i < h.ps.length := by omega
  have a62 := s62 H hi
  obtain ⟨kv, hkv⟩ : ∃ v, v = slV 2 Kd.e h.ks := ⟨_, rfl⟩
  obtain ⟨pv, hpv⟩ : ∃ v, v = slV 2 Pr.e (h.ps.eraseIdx i) := ⟨_, rfl⟩
  obtain ⟨bv, hbv⟩ : ∃ v, v = slV 1 intL h.bs := ⟨_, rfl⟩
  have HO : HsOk (h.er i) kv pv bv := { k := by rw [hkv]; exact slV_is, p := by rw [hpv]; exact slV_is, b := by rw [hbv]; exact slV_is, nk := H.nk, np := Nat.le_trans (List.eraseIdx_sublist _ _).length_le H.np, nb := H.nb }
  have Go := er_G G i
  have a49 := fun st => s49 H G st
  have o49 := fun st => s49 HO Go st
  have a44 := fun st => s44 H st
  have o44 := fun st => s44 HO st
  have fls : (h.er i).fl = h.fl := rfl
  have eb := er_buy G hi
  simp only [hsV, fls, ← hkv, ← hpv, ← hbv] at a62 a49 o49 a44 o44
  rw [show buyV h = .tup [I (buyA h), I (buyE h)] from rfl] at a44
  rw [show buyV (h.er i) = .tup [I (buyA (h.er i)), I (buyE (h.er i))] from rfl] at o44
  obtain ⟨A, hA⟩ : ∃ A, A = buyA h := ⟨_, rfl⟩
  obtain ⟨A', hA'⟩ : ∃ A, A = buyA (h.er i) := ⟨_, rfl⟩
  obtain ⟨X, hX⟩ : ∃ A, A = buyE h := ⟨_, rfl⟩
  obtain ⟨X', hX'⟩ : ∃ A, A = buyE (h.er i) := ⟨_, rfl⟩
  rw [← hA, ← hX] at a44
  rw [← hA', ← hX'] at o44
  rw [← hA, ← hA', ← hX, ← hX'] at eb
  have km := er_lsf G hi
  have kn := er_ne G hi
  obtain ⟨M, hM⟩ : ∃ M, M = lsf h.sa h.pk := ⟨_, rfl⟩
  obtain ⟨M', hM'⟩ : ∃ M, M = lsf (h.er i).sa (h.er i).pk := ⟨_, rfl⟩
  obtain ⟨N, hN⟩ : ∃ M, M = lsf h.us h.pk := ⟨_, rfl⟩
  obtain ⟨N', hN'⟩ : ∃ M, M = lsf (h.er i).us (h.er i).pk := ⟨_, rfl⟩
  rw [← hM, ← hM', ← hN, ← hN'] at km
  rw [← hM, ← hN] at a49
  rw [← hM', ← hN'] at o49
  by_cases hp : h.pk ≠ []
  · obtain ⟨k1, k2⟩ := km hp
    have z1 : decide (h.pk ≠ []) = true := decide_eq_true hp
    have z2 : decide ((h.er i).pk ≠ []) = true := decide_eq_true (kn hp)
    rw [z1] at a49
    rw [z2] at o49
    by_cases hX0 : X = 0
    · obtain ⟨e1, e2, e3⟩ := eb hX0
      simp (disch := first | assumption | omega | (simp only [az]; done)) only [ru, eq_self, if_true, if_false, BEq.rfl, binI, AO.row?, splice, fillL, mmAll, loadV, storeV, zeros, Am.rowAt, Am.part, addOff, Nat.reduceAdd, Nat.reduceMul, Nat.reduceLeDiff, Nat.reduceSub, Nat.reduceLT, Int.reduceEq, Int.reduceLT, Int.reduceLE, Int.reduceGT, Int.reduceGE, Int.reduceAdd, Int.reduceSub, Int.reduceMul, Int.reduceNeg, Int.reduceToNat, reduceCtorEq, reduceIte, lenV_sl H.k, lenV_sl H.p, lenV_sl H.b, elem_kd H.k, elem_pr H.p, elem_in H.b, view_sl H.k, view_sl H.p, view_sl H.b, scalar_sl H.k, scalar_sl H.p, scalar_sl H.b, cells_sl H.k, cells_sl H.p, cells_sl H.b, pure_sl H.k, pure_sl H.p, pure_sl H.b, Int.toNat_natCast, lenV_sl HO.k, lenV_sl HO.p, lenV_sl HO.b, elem_kd HO.k, elem_pr HO.p, elem_in HO.b, view_sl HO.k, view_sl HO.p, view_sl HO.b, scalar_sl HO.k, scalar_sl HO.p, scalar_sl HO.b, cells_sl HO.k, cells_sl HO.p, cells_sl HO.b, pure_sl HO.k, pure_sl HO.p, pure_sl HO.b, Int.toNat_natCast, a0, hr, a61, hu, a62, a49, o49, a44, o44, k1, k2, hX0, e1, e2, e3, s16, gUn, Bool.not_true, Bool.not_false, decide_true, decide_false]
      done
    · simp (disch := first | assumption | omega | (simp only [az]; done)) only [ru, eq_self, if_true, if_false, BEq.rfl, binI, AO.row?, splice, fillL, mmAll, loadV, storeV, zeros, Am.rowAt, Am.part, addOff, Nat.reduceAdd, Nat.reduceMul, Nat.reduceLeDiff, Nat.reduceSub, Nat.reduceLT, Int.reduceEq, Int.reduceLT, Int.reduceLE, Int.reduceGT, Int.reduceGE, Int.reduceAdd, Int.reduceSub, Int.reduceMul, Int.reduceNeg, Int.reduceToNat, reduceCtorEq, reduceIte, lenV_sl H.k, lenV_sl H.p, lenV_sl H.b, elem_kd H.k, elem_pr H.p, elem_in H.b, view_sl H.k, view_sl H.p, view_sl H.b, scalar_sl H.k, scalar_sl H.p, scalar_sl H.b, cells_sl H.k, cells_sl H.p, cells_sl H.b, pure_sl H.k, pure_sl H.p, pure_sl H.b, Int.toNat_natCast, lenV_sl HO.k, lenV_sl HO.p, lenV_sl HO.b, elem_kd HO.k, elem_pr HO.p, elem_in HO.b, view_sl HO.k, view_sl HO.p, view_sl HO.b, scalar_sl HO.k, scalar_sl HO.p, scalar_sl HO.b, cells_sl HO.k, cells_sl HO.p, cells_sl HO.b, pure_sl HO.k, pure_sl HO.p, pure_sl HO.b, Int.toNat_natCast, a0, hr, a61, hu, a62, a49, o49, a44, o44, k1, k2, hX0, s16, gUn, Bool.not_true, Bool.not_false, decide_true, decide_false]
      done
  · have z1 : decide (h.pk ≠ []) = false := decide_eq_false hp
    rw [z1] at a49
    by_cases hX0 : X = 0
    · obtain ⟨e1, e2, e3⟩ := eb hX0
      simp (disch := first | assumption | omega | (simp only [az]; done)) only [ru, eq_self, if_true, if_false, BEq.rfl, binI, AO.row?, splice, fillL, mmAll, loadV, storeV, zeros, Am.rowAt, Am.part, addOff, Nat.reduceAdd, Nat.reduceMul, Nat.reduceLeDiff, Nat.reduceSub, Nat.reduceLT, Int.reduceEq, Int.reduceLT, Int.reduceLE, Int.reduceGT, Int.reduceGE, Int.reduceAdd, Int.reduceSub, Int.reduceMul, Int.reduceNeg, Int.reduceToNat, reduceCtorEq, reduceIte, lenV_sl H.k, lenV_sl H.p, lenV_sl H.b, elem_kd H.k, elem_pr H.p, elem_in H.b, view_sl H.k, view_sl H.p, view_sl H.b, scalar_sl H.k, scalar_sl H.p, scalar_sl H.b, cells_sl H.k, cells_sl H.p, cells_sl H.b, pure_sl H.k, pure_sl H.p, pure_sl H.b, Int.toNat_natCast, lenV_sl HO.k, lenV_sl HO.p, lenV_sl HO.b, elem_kd HO.k, elem_pr HO.p, elem_in HO.b, view_sl HO.k, view_sl HO.p, view_sl HO.b, scalar_sl HO.k, scalar_sl HO.p, scalar_sl HO.b, cells_sl HO.k, cells_sl HO.p, cells_sl HO.b, pure_sl HO.k, pure_sl HO.p, pure_sl HO.b, Int.toNat_natCast, a0, hr, a61, hu, a62, a49, o49, a44, o44, hX0, e1, e2, e3, s16, gUn, Bool.not_true, Bool.not_false, decide_true, decide_false]
      done
    · simp (disch := first | assumption | omega | (simp only [az]; done)) only [ru, eq_self, if_true, if_false, BEq.rfl, binI, AO.row?, splice, fillL, mmAll, loadV, storeV, zeros, Am.rowAt, Am.part, addOff, Nat.reduceAdd, Nat.reduceMul, Nat.reduceLeDiff, Nat.reduceSub, Nat.reduceLT, Int.reduceEq, Int.reduceLT, Int.reduceLE, Int.reduceGT, Int.reduceGE, Int.reduceAdd, Int.reduceSub, Int.reduceMul, Int.reduceNeg, Int.reduceToNat, reduceCtorEq, reduceIte, lenV_sl H.k, lenV_sl H.p, lenV_sl H.b, elem_kd H.k, elem_pr H.p, elem_in H.b, view_sl H.k, view_sl H.p, view_sl H.b, scalar_sl H.k, scalar_sl H.p, scalar_sl H.b, cells_sl H.k, cells_sl H.p, cells_sl H.b, pure_sl H.k, pure_sl H.p, pure_sl H.b, Int.toNat_natCast, lenV_sl HO.k, lenV_sl HO.p, lenV_sl HO.b, elem_kd HO.k, elem_pr HO.p, elem_in HO.b, view_sl HO.k, view_sl HO.p, view_sl HO.b, scalar_sl HO.k, scalar_sl HO.p, scalar_sl HO.b, cells_sl HO.k, cells_sl HO.p, cells_sl HO.b, pure_sl HO.k, pure_sl HO.p, pure_sl HO.b, Int.toNat_natCast, a0, hr, a61, hu, a62, a49, o49, a44, o44, hX0, s16, gUn, Bool.not_true, Bool.not_false, decide_true, decide_false]
      done
end
end Go.Proofs.Ytcdedbpmjhjehaa.S

