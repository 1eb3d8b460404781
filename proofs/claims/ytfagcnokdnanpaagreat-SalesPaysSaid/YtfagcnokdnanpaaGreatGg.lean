/-
SalesPays: the specification's Pays, Paid, On and When, and the law.
-/
import Derived.Test.YtfagcnokdnanpaaGreatGf
import Derived.Test.YtfagcnokdnanpaaGreatFz
namespace Go.Proofs.YtfagcnokdnanpaaGreat.S
open Go Go.Am Go.Proofs.YtfagcnokdnanpaaGreat.T
set_option maxRecDepth 100000
set_option linter.unusedSimpArgs false
set_option linter.unusedVariables false
theorem rdF_mono {h : Hs} {x : List Int} {d e : Int} (hd : d ≤ e) {i : Int} (hi : rdF h x d i = true) : rdF h x e i = true := by
  simp only [rdF, Bool.and_eq_true, decide_eq_true_eq] at hi ⊢
  exact ⟨hi.1, Int.le_trans hi.2.1 hd, hi.2.2⟩
theorem fsB_spec {v : Nat → Int} (h0 : ∀ i, 0 ≤ v i) : ∀ n : Nat, ∃ j : Nat, (fsB v (n + 1)).1 = j ∧ j < n + 1 ∧ (fsB v (n + 1)).2 = v j ∧ (∀ i, i < n + 1 → v i ≤ v j) ∧ ∀ i, i < j → v i < v j
  | 0 => by
    have := h0 0
    have e : fsB v 1 = if (-1 : Int) < v 0 then (((0 : Nat) : Int), v 0) else (0, -1) := rfl
    rw [if_pos (by omega)] at e
    rw [Nat.zero_add, e]
    exact ⟨0, rfl, by omega, rfl, fun i hi => by rw [show i = 0 by omega]; exact Int.le_refl _, fun i hi => by omega⟩
  | n + 1 => by
    obtain ⟨j, h1, h2, h3, h4, h5⟩ := fsB_spec h0 n
    have e : fsB v (n + 1 + 1) = if (fsB v (n + 1)).2 < v (n + 1) then (((n + 1 : Nat) : Int), v (n + 1)) else fsB v (n + 1) := rfl
    by_cases hc : (fsB v (n + 1)).2 < v (n + 1)
    · rw [e, if_pos hc]
      rw [h3] at hc
      refine ⟨n + 1, rfl, by omega, rfl, fun i hi => ?_, fun i hi => ?_⟩
      · rcases Nat.lt_or_ge i (n + 1) with h | h
        · have := h4 i h; omega
        · rw [show i = n + 1 by omega]; exact Int.le_refl _
      · have := h4 i hi; omega
    · rw [e, if_neg hc]
      rw [h3] at hc
      refine ⟨j, h1, by omega, h3, fun i hi => ?_, h5⟩
      rcases Nat.lt_or_ge i (n + 1) with h | h
      · exact h4 i h
      · rw [show i = n + 1 by omega]; omega
theorem prc_oth {L : List Bi} {u x : Int} : ∀ {s : List Int}, s.Pairwise (fun a b => (bAt L a).u ≠ (bAt L b).u) → s.find? (byU L u) = some x → prc L (s.filter fun y => !byU L u y) = prc L s - (bAt L x).c
  | [], _, h => by simp at h
  | a :: s, hp, h => by
    obtain ⟨p1, p2⟩ := List.pairwise_cons.1 hp
    cases ha : byU L u a
    · rw [List.find?_cons, ha] at h
      have ih := prc_oth p2 h
      rw [List.filter_cons_of_pos (by simp [ha])]
      simp only [prc, List.map_cons, sm] at ih ⊢
      omega
    · rw [List.find?_cons, ha] at h
      simp only [Option.some.injEq] at h
      subst h
      rw [List.filter_cons_of_neg (by simp [ha])]
      have e : (s.filter fun y => !byU L u y) = s := List.filter_eq_self.2 fun y hy => by
        have := p1 y hy
        simp only [byU, decide_eq_true_eq] at ha
        simp only [byU, Bool.not_eq_true', decide_eq_false_iff_not]
        rw [ha] at this; exact fun h => this h.symm
      rw [e]
      simp only [prc, List.map_cons, sm]; omega
theorem any_find {p : Int → Bool} {s : List Int} : s.any p = (s.find? p).isSome := by
  induction s with
  | nil => rfl
  | cons a s ih => rw [List.any_cons, List.find?_cons, ih]; cases p a <;> rfl
section
variable {f : Fs} {k p b pv bv : AV} {w : Nat → AV}
theorem tops_mono (G : FG f) {r r' : Int → Bool} (hr : ∀ x, r x = true → r' x = true) : tops f.bids r ≤ tops f.bids r' := by
  have w1 := wins_is G.bg (r := r)
  have := tops_ge G.bg (isS_mono hr w1.1)
  omega
theorem ok_on (H : FsOk f k p b pv bv w) (d : Int) : ∃ w', FsOk (f.on f.pk d) (hsK f) (hsP f) (hsB f) (slV 1 intL f.pk) (resB f.bids) w' := cpF_ok (FsOk.on H H.pk H.np d)
theorem ok_wo (K : FsOk f k p b pv bv w) (u : Int) : ∃ bw ww', Iso E 36 [frV f k p b pv bv, I u] false = some (.agg [hsK f, I f.h.fl, hsP f, hsB f, slV 1 intL f.pk, I f.d, I f.n, bw]) ∧ FsOk (f.wo u) (hsK f) (hsP f) (hsB f) (slV 1 intL f.pk) bw ww' ∧ bw.scalar = true ∧ bw.cells = [bw] ∧ (∀ (g : List AO) (n : Nat), view false g n bw = some bw) ∧ bw.pureV = true := by
  obtain ⟨bw, ww', a36, hB⟩ := t36 K u
  have ll : (f.wo u).bids.length ≤ f.bids.length := List.length_filter_le _ _
  have nb := K.nb
  refine ⟨bw, ww', a36, ?_, hB.sc, hB.ce, fun g n => hB.vw g _, hB.pu⟩
  refine ⟨⟨⟨slV_is, slV_is, slV_is⟩, slV_is, hB⟩, ⟨⟨slV_is, slV_is, slV_is⟩, K.ho.nk, K.ho.np, K.ho.nb⟩, K.np, by omega, fun i hi => ?_⟩
  have hm : (f.wo u).bids.getD i default ∈ (f.wo u).bids := getD_mem hi
  obtain ⟨j, hj, e⟩ := mem_getD (d := default) (List.mem_filter.1 hm).1
  rw [← e]; exact K.nw j hj
theorem wo_fg (G : FG f) (u : Int) : FG (f.wo u) := ⟨G.h, G.pk, G.d, wo_bg G u⟩
set_option maxHeartbeats 4000000 in
theorem t89 (H : FsOk f k p b pv bv w) (G : FG f) (u : Int) : Iso E 89 [frV f k p b pv bv, I u] false = some (I (payF f.bids f.r u)) := by
  have nb := H.nb
  have a83 := t83 H G
  have w1 := wins_is G.bg (r := f.r)
  have wl := isS_lenL w1.1
  have wm := isS_mem w1.1
  obtain ⟨bw, ww', a36, K2, B1, B2, B3, B4⟩ := ok_wo H u
  have a80 := t80 K2 (wo_fg G u)
  have er : (f.wo u).r = f.r := rfl
  rw [er, wo_tops G u] at a80
  have a80' : Iso E 80 [.agg [hsK f, I f.h.fl, hsP f, hsB f, slV 1 intL f.pk, I f.d, I f.n, bw]] false = some (I (noU f.bids f.r u)) := a80
  have nt := noU_is G.bg (r := f.r) (u := u)
  have tb := tops_bd G (r := f.r)
  have pw : (wins f.bids f.r).Pairwise (fun a b => (bAt f.bids a).u ≠ (bAt f.bids b).u) := (isS_iff.1 w1.1).2.imp fun h => h.2.1
  have fin : (if (wins f.bids f.r).any (byU f.bids u) then noU f.bids f.r u - prc f.bids ((wins f.bids f.r).filter fun y => !byU f.bids u y) else 0) = payF f.bids f.r u := by
    rw [any_find]
    unfold payF noU
    cases hf : (wins f.bids f.r).find? (byU f.bids u) with
    | none => rfl
    | some x =>
      have := prc_oth pw hf
      rw [this, w1.2.1]; rfl
  have pb : ∀ i, 0 ≤ prc f.bids (((wins f.bids f.r).take i).filter fun y => !byU f.bids u y) ∧ prc f.bids (((wins f.bids f.r).take i).filter fun y => !byU f.bids u y) ≤ 99 * 41 := fun i => by
    have := prc_bd G.bg (s := ((wins f.bids f.r).take i).filter fun y => !byU f.bids u y) fun y hy => wm y (List.mem_of_mem_take (List.mem_filter.1 hy).1)
    have l1 := List.length_filter_le (fun y => !byU f.bids u y) ((wins f.bids f.r).take i)
    have l2 : ((wins f.bids f.r).take i).length ≤ 41 := by rw [List.length_take]; omega
    omega
  obtain ⟨s, hs⟩ : ∃ s, s = wins f.bids f.r := ⟨_, rfl⟩
  rw [← hs] at a83 wl wm fin
  simp only [← hs] at pb
  obtain ⟨v, hv⟩ : ∃ u, u = resL s := ⟨_, rfl⟩
  have V : IsSl 1 intL s v := by rw [hv]; exact resL_is _
  rw [← hv] at a83
  have ep := elem_in V
  simp only [frV] at a83 a36
  have sk : IsSl 2 Kd.e f.h.ks (slV 2 Kd.e f.h.ks) := slV_is
  have sp : IsSl 2 Pr.e f.h.ps (slV 2 Pr.e f.h.ps) := slV_is
  have sb : IsSl 1 intL f.h.bs (slV 1 intL f.h.bs) := slV_is
  have sq : IsSl 1 intL f.pk (slV 1 intL f.pk) := slV_is
  refine Iso_of (es _ _ _ _) e89 ?_
  simp only [f89, frV]
  simp (disch := first | assumption | omega | (simp only [az]; done)) only [ru, eq_self, if_true, if_false, BEq.rfl, binI, AO.row?, splice, fillL, mmAll, loadV, storeV, zeros, Am.rowAt, Am.part, addOff, Nat.reduceAdd, Nat.reduceMul, Nat.reduceLeDiff, Nat.reduceSub, Nat.reduceLT, Int.reduceEq, Int.reduceLT, Int.reduceLE, Int.reduceGT, Int.reduceGE, Int.reduceAdd, Int.reduceSub, Int.reduceMul, Int.reduceNeg, Int.reduceToNat, reduceCtorEq, reduceIte, lenV_sl H.h.k, lenV_sl H.h.p, lenV_sl H.h.b, elem_kd H.h.k, elem_pr H.h.p, elem_in H.h.b, view_sl H.h.k, view_sl H.h.p, view_sl H.h.b, scalar_sl H.h.k, scalar_sl H.h.p, scalar_sl H.h.b, cells_sl H.h.k, cells_sl H.h.p, cells_sl H.h.b, pure_sl H.h.k, pure_sl H.h.p, pure_sl H.h.b, Int.toNat_natCast, lenV_sl H.pk, view_sl H.pk, scalar_sl H.pk, cells_sl H.pk, pure_sl H.pk, H.bi.len, H.bi.sc, H.bi.ce, H.bi.pu, H.bi.vw, lenV_sl V, view_sl V, scalar_sl V, cells_sl V, pure_sl V, a83]
  refine G_loop_ind (fun m ts hh mk => ∃ i : Nat, i ≤ s.length ∧ m = s.length - i ∧ hh = [.cells [k, I f.h.fl, p, b, pv, I f.d, I f.n, bv] false] ∧ ts.length = 47 ∧ ts.getD 1 .undef = I u ∧ ts.getD 2 .undef = .ptr 0 0 ∧ ts.getD 5 .undef = v ∧ ts.getD 6 .undef = I (prc f.bids ((s.take i).filter fun y => !byU f.bids u y)) ∧ ts.getD 7 .undef = Bo ((s.take i).any (byU f.bids u)) ∧ ts.getD 8 .undef = I i ∧ mk = []) ?_ s.length _ _ _
    ⟨0, Nat.zero_le _, rfl, rfl, rfl, rfl, rfl, rfl, rfl, rfl, rfl, rfl⟩
  rintro m ts hh mk ih ⟨i, hi, rfl, rfl, hl', q1, q2, q5, q6, q7, q8, rfl⟩
  rw [lit_all hl']
  simp only [lit0, litS, Nat.reduceAdd, q1, q2, q5, q6, q7, q8]
  simp (disch := first | assumption | omega | (simp only [az]; done)) only [ru, eq_self, if_true, if_false, BEq.rfl, binI, AO.row?, splice, fillL, mmAll, loadV, storeV, zeros, Am.rowAt, Am.part, addOff, Nat.reduceAdd, Nat.reduceMul, Nat.reduceLeDiff, Nat.reduceSub, Nat.reduceLT, Int.reduceEq, Int.reduceLT, Int.reduceLE, Int.reduceGT, Int.reduceGE, Int.reduceAdd, Int.reduceSub, Int.reduceMul, Int.reduceNeg, Int.reduceToNat, reduceCtorEq, reduceIte, lenV_sl V, view_sl V, scalar_sl V, cells_sl V, pure_sl V]
  by_cases hlt : (i : Int) < s.length
  case neg =>
    obtain rfl : i = s.length := by omega
    have pbi := pb s.length
    rw [List.take_length] at pbi ⊢
    obtain ⟨O, hO⟩ : ∃ O, O = prc f.bids (s.filter fun y => !byU f.bids u y) := ⟨_, rfl⟩
    rw [← hO] at fin pbi ⊢
    obtain ⟨M, hM⟩ : ∃ O, O = noU f.bids f.r u := ⟨_, rfl⟩
    rw [← hM] at fin nt a80'
    cases ha : s.any (byU f.bids u)
    · rw [ha] at fin
      simp only [Bool.false_eq_true, if_false] at fin
      rw [← fin]
      simp (disch := first | assumption | omega | (simp only [az]; done)) only [ru, eq_self, if_true, if_false, BEq.rfl, binI, AO.row?, splice, fillL, mmAll, loadV, storeV, zeros, Am.rowAt, Am.part, addOff, Nat.reduceAdd, Nat.reduceMul, Nat.reduceLeDiff, Nat.reduceSub, Nat.reduceLT, Int.reduceEq, Int.reduceLT, Int.reduceLE, Int.reduceGT, Int.reduceGE, Int.reduceAdd, Int.reduceSub, Int.reduceMul, Int.reduceNeg, Int.reduceToNat, reduceCtorEq, reduceIte, hlt, Bool.not_false]
    · rw [ha] at fin
      simp only [if_true] at fin
      rw [← fin]
      simp (disch := first | assumption | omega | (simp only [az]; done)) only [ru, eq_self, if_true, if_false, BEq.rfl, binI, AO.row?, splice, fillL, mmAll, loadV, storeV, zeros, Am.rowAt, Am.part, addOff, Nat.reduceAdd, Nat.reduceMul, Nat.reduceLeDiff, Nat.reduceSub, Nat.reduceLT, Int.reduceEq, Int.reduceLT, Int.reduceLE, Int.reduceGT, Int.reduceGE, Int.reduceAdd, Int.reduceSub, Int.reduceMul, Int.reduceNeg, Int.reduceToNat, reduceCtorEq, reduceIte, lenV_sl H.h.k, lenV_sl H.h.p, lenV_sl H.h.b, elem_kd H.h.k, elem_pr H.h.p, elem_in H.h.b, view_sl H.h.k, view_sl H.h.p, view_sl H.h.b, scalar_sl H.h.k, scalar_sl H.h.p, scalar_sl H.h.b, cells_sl H.h.k, cells_sl H.h.p, cells_sl H.h.b, pure_sl H.h.k, pure_sl H.h.p, pure_sl H.h.b, Int.toNat_natCast, lenV_sl H.pk, view_sl H.pk, scalar_sl H.pk, cells_sl H.pk, pure_sl H.pk, H.bi.len, H.bi.sc, H.bi.ce, H.bi.pu, H.bi.vw, hlt, Bool.not_true, a36, a80', lenV_sl sk, view_sl sk, scalar_sl sk, cells_sl sk, pure_sl sk, lenV_sl sp, view_sl sp, scalar_sl sp, cells_sl sp, pure_sl sp, lenV_sl sb, view_sl sb, scalar_sl sb, cells_sl sb, pure_sl sb, lenV_sl sq, view_sl sq, scalar_sl sq, cells_sl sq, pure_sl sq, B1, B2, B3, B4, GO_mcall1, hide]
  have hi' : i < s.length := by omega
  have hmem : s.getD i 0 ∈ s := getD_memI hi'
  have hx := wm _ hmem
  have tk := take_snoc (d := 0) hi'
  have pbi := pb i
  obtain ⟨x, ex⟩ : ∃ x, x = s.getD i 0 := ⟨_, rfl⟩
  rw [← ex] at hx tk
  have eb := H.bi.el x hx.1 hx.2
  have gx := G.bg.at hx.1 hx.2
  have epi := ep i (by omega) hlt
  rw [Int.toNat_natCast, ← ex] at epi
  have hby : ((bAt f.bids x).u == u) = byU f.bids u x := by simp [byU, Bool.beq_eq_decide_eq]
  have nF : prc f.bids ((s.take (i + 1)).filter fun y => !byU f.bids u y) = prc f.bids ((s.take i).filter fun y => !byU f.bids u y) + (if byU f.bids u x then 0 else (bAt f.bids x).c) := by
    rw [tk, List.filter_append]
    cases hb : byU f.bids u x
    · rw [List.filter_cons_of_pos (by simp [hb]), List.filter_nil, prc_snoc]; simp
    · rw [List.filter_cons_of_neg (by simp [hb]), List.filter_nil, List.append_nil]; simp
  have nA : (s.take (i + 1)).any (byU f.bids u) = ((s.take i).any (byU f.bids u) || byU f.bids u x) := by
    rw [tk, List.any_append, List.any_cons, List.any_nil, Bool.or_false]
  obtain ⟨O, hO⟩ : ∃ O, O = prc f.bids ((s.take i).filter fun y => !byU f.bids u y) := ⟨_, rfl⟩
  obtain ⟨A, hA⟩ : ∃ O, O = (s.take i).any (byU f.bids u) := ⟨_, rfl⟩
  rw [← hO] at nF pbi
  rw [← hA] at nA
  simp only [← hO, ← hA]
  cases hb : byU f.bids u x
  · rw [hb] at hby nF nA
    simp (disch := first | assumption | omega | (simp only [az]; done)) only [ru, eq_self, if_true, if_false, BEq.rfl, binI, AO.row?, splice, fillL, mmAll, loadV, storeV, zeros, Am.rowAt, Am.part, addOff, Nat.reduceAdd, Nat.reduceMul, Nat.reduceLeDiff, Nat.reduceSub, Nat.reduceLT, Int.reduceEq, Int.reduceLT, Int.reduceLE, Int.reduceGT, Int.reduceGE, Int.reduceAdd, Int.reduceSub, Int.reduceMul, Int.reduceNeg, Int.reduceToNat, reduceCtorEq, reduceIte, lenV_sl H.h.k, lenV_sl H.h.p, lenV_sl H.h.b, elem_kd H.h.k, elem_pr H.h.p, elem_in H.h.b, view_sl H.h.k, view_sl H.h.p, view_sl H.h.b, scalar_sl H.h.k, scalar_sl H.h.p, scalar_sl H.h.b, cells_sl H.h.k, cells_sl H.h.p, cells_sl H.h.b, pure_sl H.h.k, pure_sl H.h.p, pure_sl H.h.b, Int.toNat_natCast, lenV_sl H.pk, view_sl H.pk, scalar_sl H.pk, cells_sl H.pk, pure_sl H.pk, H.bi.len, H.bi.sc, H.bi.ce, H.bi.pu, H.bi.vw, lenV_sl V, view_sl V, scalar_sl V, cells_sl V, pure_sl V, hlt, epi, eb, hby]
    refine ih (s.length - (i + 1)) _ _ _ (by omega) ⟨i + 1, by omega, rfl, rfl, rfl, rfl, rfl, rfl, ?_, ?_, rfl, rfl⟩
    · rw [nF]; rfl
    · rw [nA, Bool.or_false]; rfl
  · rw [hb] at hby nF nA
    simp (disch := first | assumption | omega | (simp only [az]; done)) only [ru, eq_self, if_true, if_false, BEq.rfl, binI, AO.row?, splice, fillL, mmAll, loadV, storeV, zeros, Am.rowAt, Am.part, addOff, Nat.reduceAdd, Nat.reduceMul, Nat.reduceLeDiff, Nat.reduceSub, Nat.reduceLT, Int.reduceEq, Int.reduceLT, Int.reduceLE, Int.reduceGT, Int.reduceGE, Int.reduceAdd, Int.reduceSub, Int.reduceMul, Int.reduceNeg, Int.reduceToNat, reduceCtorEq, reduceIte, lenV_sl H.h.k, lenV_sl H.h.p, lenV_sl H.h.b, elem_kd H.h.k, elem_pr H.h.p, elem_in H.h.b, view_sl H.h.k, view_sl H.h.p, view_sl H.h.b, scalar_sl H.h.k, scalar_sl H.h.p, scalar_sl H.h.b, cells_sl H.h.k, cells_sl H.h.p, cells_sl H.h.b, pure_sl H.h.k, pure_sl H.h.p, pure_sl H.h.b, Int.toNat_natCast, lenV_sl H.pk, view_sl H.pk, scalar_sl H.pk, cells_sl H.pk, pure_sl H.pk, H.bi.len, H.bi.sc, H.bi.ce, H.bi.pu, H.bi.vw, lenV_sl V, view_sl V, scalar_sl V, cells_sl V, pure_sl V, hlt, epi, eb, hby]
    refine ih (s.length - (i + 1)) _ _ _ (by omega) ⟨i + 1, by omega, rfl, rfl, rfl, rfl, rfl, rfl, ?_, ?_, rfl, rfl⟩
    · rw [nF]; simp
    · rw [nA, Bool.or_true]; rfl
theorem t27g (H : FsIn f k p b pv bv w) (n : Int) (st : Bool) : Iso E 27 [frV f k p b pv bv, I n] st = some (Bo (inR n 0 (wr IntKind.i64 (f.n - 1)))) := by
  refine Iso_of (es _ _ _ _) e27 ?_
  simp only [f27]
  simp (disch := first | assumption | omega | (simp only [az]; done)) only [ru, eq_self, if_true, if_false, BEq.rfl, binI, AO.row?, splice, fillL, mmAll, loadV, storeV, zeros, Am.rowAt, Am.part, addOff, Nat.reduceAdd, Nat.reduceMul, Nat.reduceLeDiff, Nat.reduceSub, Nat.reduceLT, Int.reduceEq, Int.reduceLT, Int.reduceLE, Int.reduceGT, Int.reduceGE, Int.reduceAdd, Int.reduceSub, Int.reduceMul, Int.reduceNeg, Int.reduceToNat, reduceCtorEq, reduceIte, lenV_sl H.h.k, lenV_sl H.h.p, lenV_sl H.h.b, elem_kd H.h.k, elem_pr H.h.p, elem_in H.h.b, view_sl H.h.k, view_sl H.h.p, view_sl H.h.b, scalar_sl H.h.k, scalar_sl H.h.p, scalar_sl H.h.b, cells_sl H.h.k, cells_sl H.h.p, cells_sl H.h.b, pure_sl H.h.k, pure_sl H.h.p, pure_sl H.h.b, Int.toNat_natCast, lenV_sl H.pk, view_sl H.pk, scalar_sl H.pk, cells_sl H.pk, pure_sl H.pk, H.bi.len, H.bi.sc, H.bi.ce, H.bi.pu, H.bi.vw, t68]
theorem t51 (H : FsOk f k p b pv bv w) (u : Int) : Iso E 51 [frV f k p b pv bv, I u] false = some (.tup [I (if askF f.valid (inR u 0 (f.n - 1)) = 0 then payF f.bids f.r u else 0), I (askF f.valid (inR u 0 (f.n - 1)))]) := by
  have a84 := fun q st => t84 H q st
  cases hv : f.valid
  · have a27 := fun st => t27g H.toFsIn u st
    have z : ∀ q, askF false q = 90 := fun q => rfl
    simp only [frV, hv, z] at a27 a84
    refine Iso_of (es _ _ _ _) e51 ?_
    simp only [f51, z]
    simp (disch := first | assumption | omega | (simp only [az]; done)) only [ru, eq_self, if_true, if_false, BEq.rfl, binI, AO.row?, splice, fillL, mmAll, loadV, storeV, zeros, Am.rowAt, Am.part, addOff, Nat.reduceAdd, Nat.reduceMul, Nat.reduceLeDiff, Nat.reduceSub, Nat.reduceLT, Int.reduceEq, Int.reduceLT, Int.reduceLE, Int.reduceGT, Int.reduceGE, Int.reduceAdd, Int.reduceSub, Int.reduceMul, Int.reduceNeg, Int.reduceToNat, reduceCtorEq, reduceIte, lenV_sl H.h.k, lenV_sl H.h.p, lenV_sl H.h.b, elem_kd H.h.k, elem_pr H.h.p, elem_in H.h.b, view_sl H.h.k, view_sl H.h.p, view_sl H.h.b, scalar_sl H.h.k, scalar_sl H.h.p, scalar_sl H.h.b, cells_sl H.h.k, cells_sl H.h.p, cells_sl H.h.b, pure_sl H.h.k, pure_sl H.h.p, pure_sl H.h.b, Int.toNat_natCast, lenV_sl H.pk, view_sl H.pk, scalar_sl H.pk, cells_sl H.pk, pure_sl H.pk, H.bi.len, H.bi.sc, H.bi.ce, H.bi.pu, H.bi.vw, a27, a84, fin2]
    try rfl
  · have G := fvalid_iff hv
    have gn := G.bg.nn
    have a27 := fun st => t27 H.toFsIn u ⟨by omega, by omega⟩ st
    have a89 := t89 H G u
    simp only [frV, hv] at a27 a84 a89
    refine Iso_of (es _ _ _ _) e51 ?_
    simp only [f51]
    cases hq : inR u 0 (f.n - 1)
    · have z : askF true false = 1 := rfl
      rw [hq] at a27
      simp only [z] at a84 ⊢
      have a84' := fun st => a84 false st
      simp only [z] at a84'
      simp (disch := first | assumption | omega | (simp only [az]; done)) only [ru, eq_self, if_true, if_false, BEq.rfl, binI, AO.row?, splice, fillL, mmAll, loadV, storeV, zeros, Am.rowAt, Am.part, addOff, Nat.reduceAdd, Nat.reduceMul, Nat.reduceLeDiff, Nat.reduceSub, Nat.reduceLT, Int.reduceEq, Int.reduceLT, Int.reduceLE, Int.reduceGT, Int.reduceGE, Int.reduceAdd, Int.reduceSub, Int.reduceMul, Int.reduceNeg, Int.reduceToNat, reduceCtorEq, reduceIte, lenV_sl H.h.k, lenV_sl H.h.p, lenV_sl H.h.b, elem_kd H.h.k, elem_pr H.h.p, elem_in H.h.b, view_sl H.h.k, view_sl H.h.p, view_sl H.h.b, scalar_sl H.h.k, scalar_sl H.h.p, scalar_sl H.h.b, cells_sl H.h.k, cells_sl H.h.p, cells_sl H.h.b, pure_sl H.h.k, pure_sl H.h.p, pure_sl H.h.b, Int.toNat_natCast, lenV_sl H.pk, view_sl H.pk, scalar_sl H.pk, cells_sl H.pk, pure_sl H.pk, H.bi.len, H.bi.sc, H.bi.ce, H.bi.pu, H.bi.vw, a27, a84', z, fin2]
      try rfl
    · have z : askF true true = 0 := rfl
      rw [hq] at a27
      have a84' := fun st => a84 true st
      simp only [z] at a84' ⊢
      simp (disch := first | assumption | omega | (simp only [az]; done)) only [ru, eq_self, if_true, if_false, BEq.rfl, binI, AO.row?, splice, fillL, mmAll, loadV, storeV, zeros, Am.rowAt, Am.part, addOff, Nat.reduceAdd, Nat.reduceMul, Nat.reduceLeDiff, Nat.reduceSub, Nat.reduceLT, Int.reduceEq, Int.reduceLT, Int.reduceLE, Int.reduceGT, Int.reduceGE, Int.reduceAdd, Int.reduceSub, Int.reduceMul, Int.reduceNeg, Int.reduceToNat, reduceCtorEq, reduceIte, lenV_sl H.h.k, lenV_sl H.h.p, lenV_sl H.h.b, elem_kd H.h.k, elem_pr H.h.p, elem_in H.h.b, view_sl H.h.k, view_sl H.h.p, view_sl H.h.b, scalar_sl H.h.k, scalar_sl H.h.p, scalar_sl H.h.b, cells_sl H.h.k, cells_sl H.h.p, cells_sl H.h.b, pure_sl H.h.k, pure_sl H.h.p, pure_sl H.h.b, Int.toNat_natCast, lenV_sl H.pk, view_sl H.pk, scalar_sl H.pk, cells_sl H.pk, pure_sl H.pk, H.bi.len, H.bi.sc, H.bi.ce, H.bi.pu, H.bi.vw, a27, a84', a89, fin2]
      try rfl
set_option maxHeartbeats 2000000 in
theorem t52 (H : FsOk f k p b pv bv w) : Iso E 52 [frV f k p b pv bv] false = some (.tup [I (if f.valid then paidF f.bids f.r f.n.toNat else 0), I (fE f.valid)]) := by
  have a39 := fun st => t39 H st
  simp only [frV] at a39
  refine Iso_of (es _ _ _ _) e52 ?_
  simp only [f52, frV]
  cases hv : f.valid
  · rw [hv] at a39
    simp only [fE_f] at a39
    simp (disch := first | assumption | omega | (simp only [az]; done)) only [ru, eq_self, if_true, if_false, BEq.rfl, binI, AO.row?, splice, fillL, mmAll, loadV, storeV, zeros, Am.rowAt, Am.part, addOff, Nat.reduceAdd, Nat.reduceMul, Nat.reduceLeDiff, Nat.reduceSub, Nat.reduceLT, Int.reduceEq, Int.reduceLT, Int.reduceLE, Int.reduceGT, Int.reduceGE, Int.reduceAdd, Int.reduceSub, Int.reduceMul, Int.reduceNeg, Int.reduceToNat, reduceCtorEq, reduceIte, lenV_sl H.h.k, lenV_sl H.h.p, lenV_sl H.h.b, elem_kd H.h.k, elem_pr H.h.p, elem_in H.h.b, view_sl H.h.k, view_sl H.h.p, view_sl H.h.b, scalar_sl H.h.k, scalar_sl H.h.p, scalar_sl H.h.b, cells_sl H.h.k, cells_sl H.h.p, cells_sl H.h.b, pure_sl H.h.k, pure_sl H.h.p, pure_sl H.h.b, Int.toNat_natCast, lenV_sl H.pk, view_sl H.pk, scalar_sl H.pk, cells_sl H.pk, pure_sl H.pk, H.bi.len, H.bi.sc, H.bi.ce, H.bi.pu, H.bi.vw, a39, fin2]
    try rfl
  rw [hv] at a39
  simp only [fE_t] at a39
  have G := fvalid_iff hv
  have gn := G.bg.nn
  have a89 := fun u => t89 H G u
  simp only [frV] at a89
  obtain ⟨N, hN⟩ : ∃ N : Nat, f.n = N := ⟨f.n.toNat, by omega⟩
  rw [show f.n.toNat = N by omega]
  simp (disch := first | assumption | omega | (simp only [az]; done)) only [ru, eq_self, if_true, if_false, BEq.rfl, binI, AO.row?, splice, fillL, mmAll, loadV, storeV, zeros, Am.rowAt, Am.part, addOff, Nat.reduceAdd, Nat.reduceMul, Nat.reduceLeDiff, Nat.reduceSub, Nat.reduceLT, Int.reduceEq, Int.reduceLT, Int.reduceLE, Int.reduceGT, Int.reduceGE, Int.reduceAdd, Int.reduceSub, Int.reduceMul, Int.reduceNeg, Int.reduceToNat, reduceCtorEq, reduceIte, lenV_sl H.h.k, lenV_sl H.h.p, lenV_sl H.h.b, elem_kd H.h.k, elem_pr H.h.p, elem_in H.h.b, view_sl H.h.k, view_sl H.h.p, view_sl H.h.b, scalar_sl H.h.k, scalar_sl H.h.p, scalar_sl H.h.b, cells_sl H.h.k, cells_sl H.h.p, cells_sl H.h.b, pure_sl H.h.k, pure_sl H.h.p, pure_sl H.h.b, Int.toNat_natCast, lenV_sl H.pk, view_sl H.pk, scalar_sl H.pk, cells_sl H.pk, pure_sl H.pk, H.bi.len, H.bi.sc, H.bi.ce, H.bi.pu, H.bi.vw, a39]
  refine G_loop_ind (fun m ts hh mk => ∃ i : Nat, i ≤ N ∧ m = N - i ∧ hh = [.cells [k, I f.h.fl, p, b, pv, I f.d, I f.n, bv] false] ∧ ts.length = 24 ∧ ts.getD 1 .undef = .ptr 0 0 ∧ ts.getD 5 .undef = I (paidF f.bids f.r i) ∧ ts.getD 6 .undef = I i ∧ mk = []) ?_ N _ _ _
    ⟨0, Nat.zero_le _, rfl, rfl, rfl, rfl, rfl, rfl, rfl⟩
  rintro m ts hh mk ih ⟨i, hi, rfl, rfl, hl', q1, q5, q6, rfl⟩
  rw [lit_all hl']
  simp only [lit0, litS, Nat.reduceAdd, q1, q5, q6]
  simp (disch := first | assumption | omega | (simp only [az]; done)) only [ru, eq_self, if_true, if_false, BEq.rfl, binI, AO.row?, splice, fillL, mmAll, loadV, storeV, zeros, Am.rowAt, Am.part, addOff, Nat.reduceAdd, Nat.reduceMul, Nat.reduceLeDiff, Nat.reduceSub, Nat.reduceLT, Int.reduceEq, Int.reduceLT, Int.reduceLE, Int.reduceGT, Int.reduceGE, Int.reduceAdd, Int.reduceSub, Int.reduceMul, Int.reduceNeg, Int.reduceToNat, reduceCtorEq, reduceIte, lenV_sl H.h.k, lenV_sl H.h.p, lenV_sl H.h.b, elem_kd H.h.k, elem_pr H.h.p, elem_in H.h.b, view_sl H.h.k, view_sl H.h.p, view_sl H.h.b, scalar_sl H.h.k, scalar_sl H.h.p, scalar_sl H.h.b, cells_sl H.h.k, cells_sl H.h.p, cells_sl H.h.b, pure_sl H.h.k, pure_sl H.h.p, pure_sl H.h.b, Int.toNat_natCast, lenV_sl H.pk, view_sl H.pk, scalar_sl H.pk, cells_sl H.pk, pure_sl H.pk, H.bi.len, H.bi.sc, H.bi.ce, H.bi.pu, H.bi.vw]
  by_cases hlt : (i : Int) < f.n
  case neg =>
    obtain rfl : i = N := by omega
    simp (disch := first | assumption | omega | (simp only [az]; done)) only [ru, eq_self, if_true, if_false, BEq.rfl, binI, AO.row?, splice, fillL, mmAll, loadV, storeV, zeros, Am.rowAt, Am.part, addOff, Nat.reduceAdd, Nat.reduceMul, Nat.reduceLeDiff, Nat.reduceSub, Nat.reduceLT, Int.reduceEq, Int.reduceLT, Int.reduceLE, Int.reduceGT, Int.reduceGE, Int.reduceAdd, Int.reduceSub, Int.reduceMul, Int.reduceNeg, Int.reduceToNat, reduceCtorEq, reduceIte, hlt, fin2]
    try rfl
  have ai := a89 (i : Int)
  have p1 := pay_bd G.bg (r := f.r) (u := (i : Int))
  have p2 := paid_bd G.bg (r := f.r) i
  have i4 : i ≤ 4 := by omega
  have ps := paidF_succ (L := f.bids) (r := f.r) (n := i)
  obtain ⟨P, hP⟩ : ∃ P, P = payF f.bids f.r i := ⟨_, rfl⟩
  obtain ⟨Q, hQ⟩ : ∃ P, P = paidF f.bids f.r i := ⟨_, rfl⟩
  rw [← hP] at ai p1 ps
  rw [← hQ] at p2 ps
  simp only [← hQ]
  simp (disch := first | assumption | omega | (simp only [az]; done)) only [ru, eq_self, if_true, if_false, BEq.rfl, binI, AO.row?, splice, fillL, mmAll, loadV, storeV, zeros, Am.rowAt, Am.part, addOff, Nat.reduceAdd, Nat.reduceMul, Nat.reduceLeDiff, Nat.reduceSub, Nat.reduceLT, Int.reduceEq, Int.reduceLT, Int.reduceLE, Int.reduceGT, Int.reduceGE, Int.reduceAdd, Int.reduceSub, Int.reduceMul, Int.reduceNeg, Int.reduceToNat, reduceCtorEq, reduceIte, lenV_sl H.h.k, lenV_sl H.h.p, lenV_sl H.h.b, elem_kd H.h.k, elem_pr H.h.p, elem_in H.h.b, view_sl H.h.k, view_sl H.h.p, view_sl H.h.b, scalar_sl H.h.k, scalar_sl H.h.p, scalar_sl H.h.b, cells_sl H.h.k, cells_sl H.h.p, cells_sl H.h.b, pure_sl H.h.k, pure_sl H.h.p, pure_sl H.h.b, Int.toNat_natCast, lenV_sl H.pk, view_sl H.pk, scalar_sl H.pk, cells_sl H.pk, pure_sl H.pk, H.bi.len, H.bi.sc, H.bi.ce, H.bi.pu, H.bi.vw, hlt, ai]
  refine ih (N - (i + 1)) _ _ _ (by omega) ⟨i + 1, by omega, rfl, rfl, rfl, rfl, ?_, rfl, rfl⟩
  rw [ps]; rfl
theorem t54 (H : FsOk f k p b pv bv w) (d : Int) : Iso E 54 [frV f k p b pv bv, I d] false = some (.tup [I (if askF f.valid (inR d 0 20) = 0 then tops f.bids (rdF f.h f.pk d) else 0), I (askF f.valid (inR d 0 20))]) := by
  have a84 := fun st => t84 H (inR d 0 20) st
  have a92 := fun st => t92 d st
  refine Iso_of (es _ _ _ _) e54 ?_
  simp only [f54]
  by_cases h : askF f.valid (inR d 0 20) = 0
  · have hv : f.valid = true := by
      cases hv : f.valid
      · rw [hv] at h; simp [askF] at h
      · rfl
    have hd : inR d 0 20 = true := by
      cases hd : inR d 0 20
      · rw [hv, hd] at h; simp [askF] at h
      · rfl
    have G := fvalid_iff hv
    obtain ⟨w', K⟩ := ok_on H d
    have a93 : Iso E 93 [.agg [k, I f.h.fl, p, b, pv, I f.d, I f.n, bv], I d] false = some (.agg [hsK f, I f.h.fl, hsP f, hsB f, slV 1 intL f.pk, I d, I f.n, resB f.bids]) := t93 H d
    have a80 : Iso E 80 [.agg [hsK f, I f.h.fl, hsP f, hsB f, slV 1 intL f.pk, I d, I f.n, resB f.bids]] false = some (I (tops f.bids (rdF f.h f.pk d))) := t80 K (FG.on G G.pk (inR_iff.1 hd))
    rw [h] at a84
    rw [if_pos h, h]
    have sk : IsSl 2 Kd.e f.h.ks (slV 2 Kd.e f.h.ks) := slV_is
    have sp : IsSl 2 Pr.e f.h.ps (slV 2 Pr.e f.h.ps) := slV_is
    have sb : IsSl 1 intL f.h.bs (slV 1 intL f.h.bs) := slV_is
    have sq : IsSl 1 intL f.pk (slV 1 intL f.pk) := slV_is
    obtain ⟨B, hB⟩ : ∃ B, B = resB f.bids := ⟨_, rfl⟩
    have B1 : B.scalar = true := by rw [hB]; exact K.bi.sc
    have B2 : B.cells = [B] := by rw [hB]; exact K.bi.ce
    have B3 : ∀ (g : List AO) (n : Nat), view false g n B = some B := fun g n => by rw [hB]; exact K.bi.vw g _
    have B4 : B.pureV = true := by rw [hB]; exact K.bi.pu
    rw [← hB] at a93 a80
    simp only [frV] at a84
    simp (disch := first | assumption | omega | (simp only [az]; done)) only [ru, eq_self, if_true, if_false, BEq.rfl, binI, AO.row?, splice, fillL, mmAll, loadV, storeV, zeros, Am.rowAt, Am.part, addOff, Nat.reduceAdd, Nat.reduceMul, Nat.reduceLeDiff, Nat.reduceSub, Nat.reduceLT, Int.reduceEq, Int.reduceLT, Int.reduceLE, Int.reduceGT, Int.reduceGE, Int.reduceAdd, Int.reduceSub, Int.reduceMul, Int.reduceNeg, Int.reduceToNat, reduceCtorEq, reduceIte, lenV_sl H.h.k, lenV_sl H.h.p, lenV_sl H.h.b, elem_kd H.h.k, elem_pr H.h.p, elem_in H.h.b, view_sl H.h.k, view_sl H.h.p, view_sl H.h.b, scalar_sl H.h.k, scalar_sl H.h.p, scalar_sl H.h.b, cells_sl H.h.k, cells_sl H.h.p, cells_sl H.h.b, pure_sl H.h.k, pure_sl H.h.p, pure_sl H.h.b, Int.toNat_natCast, lenV_sl H.pk, view_sl H.pk, scalar_sl H.pk, cells_sl H.pk, pure_sl H.pk, H.bi.len, H.bi.sc, H.bi.ce, H.bi.pu, H.bi.vw, a84, a92, a93, a80, lenV_sl sk, view_sl sk, scalar_sl sk, cells_sl sk, pure_sl sk, lenV_sl sp, view_sl sp, scalar_sl sp, cells_sl sp, pure_sl sp, lenV_sl sb, view_sl sb, scalar_sl sb, cells_sl sb, pure_sl sb, lenV_sl sq, view_sl sq, scalar_sl sq, cells_sl sq, pure_sl sq, B1, B2, B3, B4, GO_mcall1, hide, fin2]
    try rfl
  · have h' : (askF f.valid (inR d 0 20) != 0) = true := by rw [bne_iff_ne]; exact h
    rw [if_neg h]
    simp only [frV] at a84
    simp (disch := first | assumption | omega | (simp only [az]; done)) only [ru, eq_self, if_true, if_false, BEq.rfl, binI, AO.row?, splice, fillL, mmAll, loadV, storeV, zeros, Am.rowAt, Am.part, addOff, Nat.reduceAdd, Nat.reduceMul, Nat.reduceLeDiff, Nat.reduceSub, Nat.reduceLT, Int.reduceEq, Int.reduceLT, Int.reduceLE, Int.reduceGT, Int.reduceGE, Int.reduceAdd, Int.reduceSub, Int.reduceMul, Int.reduceNeg, Int.reduceToNat, reduceCtorEq, reduceIte, lenV_sl H.h.k, lenV_sl H.h.p, lenV_sl H.h.b, elem_kd H.h.k, elem_pr H.h.p, elem_in H.h.b, view_sl H.h.k, view_sl H.h.p, view_sl H.h.b, scalar_sl H.h.k, scalar_sl H.h.p, scalar_sl H.h.b, cells_sl H.h.k, cells_sl H.h.p, cells_sl H.h.b, pure_sl H.h.k, pure_sl H.h.p, pure_sl H.h.b, Int.toNat_natCast, lenV_sl H.pk, view_sl H.pk, scalar_sl H.pk, cells_sl H.pk, pure_sl H.pk, H.bi.len, H.bi.sc, H.bi.ce, H.bi.pu, H.bi.vw, a84, a92, h', fin2]
    try rfl
set_option maxHeartbeats 2000000 in
theorem t56 (H : FsOk f k p b pv bv w) : Iso E 56 [frV f k p b pv bv] false = some (.tup [I (if f.valid then (fsB (fun d => tops f.bids (rdF f.h f.pk d)) 21).1 else 0), I (fE f.valid)]) := by
  have a39 := fun st => t39 H st
  simp only [frV] at a39
  refine Iso_of (es _ _ _ _) e56 ?_
  simp only [f56, frV]
  cases hv : f.valid
  · rw [hv] at a39
    simp only [fE_f] at a39
    simp (disch := first | assumption | omega | (simp only [az]; done)) only [ru, eq_self, if_true, if_false, BEq.rfl, binI, AO.row?, splice, fillL, mmAll, loadV, storeV, zeros, Am.rowAt, Am.part, addOff, Nat.reduceAdd, Nat.reduceMul, Nat.reduceLeDiff, Nat.reduceSub, Nat.reduceLT, Int.reduceEq, Int.reduceLT, Int.reduceLE, Int.reduceGT, Int.reduceGE, Int.reduceAdd, Int.reduceSub, Int.reduceMul, Int.reduceNeg, Int.reduceToNat, reduceCtorEq, reduceIte, lenV_sl H.h.k, lenV_sl H.h.p, lenV_sl H.h.b, elem_kd H.h.k, elem_pr H.h.p, elem_in H.h.b, view_sl H.h.k, view_sl H.h.p, view_sl H.h.b, scalar_sl H.h.k, scalar_sl H.h.p, scalar_sl H.h.b, cells_sl H.h.k, cells_sl H.h.p, cells_sl H.h.b, pure_sl H.h.k, pure_sl H.h.p, pure_sl H.h.b, Int.toNat_natCast, lenV_sl H.pk, view_sl H.pk, scalar_sl H.pk, cells_sl H.pk, pure_sl H.pk, H.bi.len, H.bi.sc, H.bi.ce, H.bi.pu, H.bi.vw, a39, fin2]
    try rfl
  rw [hv] at a39
  simp only [fE_t] at a39
  have G := fvalid_iff hv
  obtain ⟨j, j1, j2, j3, j4, j5⟩ := fsB_spec (v := fun d : Nat => tops f.bids (rdF f.h f.pk d)) (fun i => (tops_bd G).1) 20
  have k20 : tops f.bids (rdF f.h f.pk j) = tops f.bids (rdF f.h f.pk 20) := by
    have h1 := j4 20 (by omega)
    have h2 := tops_mono G (r := rdF f.h f.pk j) (r' := rdF f.h f.pk 20) fun i => rdF_mono (by omega)
    have h1' : tops f.bids (rdF f.h f.pk 20) ≤ tops f.bids (rdF f.h f.pk j) := h1
    omega
  rw [j1]
  obtain ⟨B, hB⟩ : ∃ B, B = resB f.bids := ⟨_, rfl⟩
  have dy : ∀ d : Int, 0 ≤ d ∧ d ≤ 20 → Iso E 93 [.agg [k, I f.h.fl, p, b, pv, I f.d, I f.n, bv], I d] false = some (.agg [hsK f, I f.h.fl, hsP f, hsB f, slV 1 intL f.pk, I d, I f.n, B]) ∧ Iso E 80 [.agg [hsK f, I f.h.fl, hsP f, hsB f, slV 1 intL f.pk, I d, I f.n, B]] false = some (I (tops f.bids (rdF f.h f.pk d))) := fun d hd => by
    obtain ⟨w', K⟩ := ok_on H d
    rw [hB]
    exact ⟨t93 H d, t80 K (FG.on G G.pk hd)⟩
  obtain ⟨w', K⟩ := ok_on H 0
  have B1 : B.scalar = true := by rw [hB]; exact K.bi.sc
  have B2 : B.cells = [B] := by rw [hB]; exact K.bi.ce
  have B3 : ∀ (g : List AO) (n : Nat), view false g n B = some B := fun g n => by rw [hB]; exact K.bi.vw g _
  have B4 : B.pureV = true := by rw [hB]; exact K.bi.pu
  have sk : IsSl 2 Kd.e f.h.ks (slV 2 Kd.e f.h.ks) := slV_is
  have sp : IsSl 2 Pr.e f.h.ps (slV 2 Pr.e f.h.ps) := slV_is
  have sb : IsSl 1 intL f.h.bs (slV 1 intL f.h.bs) := slV_is
  have sq : IsSl 1 intL f.pk (slV 1 intL f.pk) := slV_is
  obtain ⟨a93t, a80t⟩ := dy 20 (by omega)
  simp (disch := first | assumption | omega | (simp only [az]; done)) only [ru, eq_self, if_true, if_false, BEq.rfl, binI, AO.row?, splice, fillL, mmAll, loadV, storeV, zeros, Am.rowAt, Am.part, addOff, Nat.reduceAdd, Nat.reduceMul, Nat.reduceLeDiff, Nat.reduceSub, Nat.reduceLT, Int.reduceEq, Int.reduceLT, Int.reduceLE, Int.reduceGT, Int.reduceGE, Int.reduceAdd, Int.reduceSub, Int.reduceMul, Int.reduceNeg, Int.reduceToNat, reduceCtorEq, reduceIte, lenV_sl H.h.k, lenV_sl H.h.p, lenV_sl H.h.b, elem_kd H.h.k, elem_pr H.h.p, elem_in H.h.b, view_sl H.h.k, view_sl H.h.p, view_sl H.h.b, scalar_sl H.h.k, scalar_sl H.h.p, scalar_sl H.h.b, cells_sl H.h.k, cells_sl H.h.p, cells_sl H.h.b, pure_sl H.h.k, pure_sl H.h.p, pure_sl H.h.b, Int.toNat_natCast, lenV_sl H.pk, view_sl H.pk, scalar_sl H.pk, cells_sl H.pk, pure_sl H.pk, H.bi.len, H.bi.sc, H.bi.ce, H.bi.pu, H.bi.vw, a39]
  refine G_loop_ind (fun m ts hh mk => ∃ i : Nat, i ≤ j ∧ m = j - i ∧ hh = [.cells [k, I f.h.fl, p, b, pv, I f.d, I f.n, bv] false] ∧ ts.length = 22 ∧ ts.getD 1 .undef = .ptr 0 0 ∧ ts.getD 5 .undef = I i ∧ mk = []) ?_ j _ _ _
    ⟨0, Nat.zero_le _, rfl, rfl, rfl, rfl, rfl, rfl⟩
  rintro m ts hh mk ih ⟨i, hi, rfl, rfl, hl', q1, q5, rfl⟩
  rw [lit_all hl']
  simp only [lit0, litS, Nat.reduceAdd, q1, q5]
  obtain ⟨a93i, a80i⟩ := dy (i : Int) (by omega)
  have lt := fun h : i < j => j5 i h
  have lt' : i < j → tops f.bids (rdF f.h f.pk i) < tops f.bids (rdF f.h f.pk 20) := fun h => by
    have := lt h
    have h2 : tops f.bids (rdF f.h f.pk (i : Int)) < tops f.bids (rdF f.h f.pk (j : Int)) := this
    omega
  by_cases hc : tops f.bids (rdF f.h f.pk i) < tops f.bids (rdF f.h f.pk 20)
  case pos =>
    have hne : i ≠ j := by rintro rfl; omega
    simp (disch := first | assumption | omega | (simp only [az]; done)) only [ru, eq_self, if_true, if_false, BEq.rfl, binI, AO.row?, splice, fillL, mmAll, loadV, storeV, zeros, Am.rowAt, Am.part, addOff, Nat.reduceAdd, Nat.reduceMul, Nat.reduceLeDiff, Nat.reduceSub, Nat.reduceLT, Int.reduceEq, Int.reduceLT, Int.reduceLE, Int.reduceGT, Int.reduceGE, Int.reduceAdd, Int.reduceSub, Int.reduceMul, Int.reduceNeg, Int.reduceToNat, reduceCtorEq, reduceIte, lenV_sl H.h.k, lenV_sl H.h.p, lenV_sl H.h.b, elem_kd H.h.k, elem_pr H.h.p, elem_in H.h.b, view_sl H.h.k, view_sl H.h.p, view_sl H.h.b, scalar_sl H.h.k, scalar_sl H.h.p, scalar_sl H.h.b, cells_sl H.h.k, cells_sl H.h.p, cells_sl H.h.b, pure_sl H.h.k, pure_sl H.h.p, pure_sl H.h.b, Int.toNat_natCast, lenV_sl H.pk, view_sl H.pk, scalar_sl H.pk, cells_sl H.pk, pure_sl H.pk, H.bi.len, H.bi.sc, H.bi.ce, H.bi.pu, H.bi.vw, a93i, a80i, a93t, a80t, hc, lenV_sl sk, view_sl sk, scalar_sl sk, cells_sl sk, pure_sl sk, lenV_sl sp, view_sl sp, scalar_sl sp, cells_sl sp, pure_sl sp, lenV_sl sb, view_sl sb, scalar_sl sb, cells_sl sb, pure_sl sb, lenV_sl sq, view_sl sq, scalar_sl sq, cells_sl sq, pure_sl sq, B1, B2, B3, B4, GO_mcall1, hide]
    exact ih (j - (i + 1)) _ _ _ (by omega) ⟨i + 1, by omega, rfl, rfl, rfl, rfl, rfl, rfl⟩
  case neg =>
    have hij : i = j := by
      rcases Nat.lt_or_ge i j with h | h
      · exact absurd (lt' h) hc
      · omega
    subst hij
    simp (disch := first | assumption | omega | (simp only [az]; done)) only [ru, eq_self, if_true, if_false, BEq.rfl, binI, AO.row?, splice, fillL, mmAll, loadV, storeV, zeros, Am.rowAt, Am.part, addOff, Nat.reduceAdd, Nat.reduceMul, Nat.reduceLeDiff, Nat.reduceSub, Nat.reduceLT, Int.reduceEq, Int.reduceLT, Int.reduceLE, Int.reduceGT, Int.reduceGE, Int.reduceAdd, Int.reduceSub, Int.reduceMul, Int.reduceNeg, Int.reduceToNat, reduceCtorEq, reduceIte, lenV_sl H.h.k, lenV_sl H.h.p, lenV_sl H.h.b, elem_kd H.h.k, elem_pr H.h.p, elem_in H.h.b, view_sl H.h.k, view_sl H.h.p, view_sl H.h.b, scalar_sl H.h.k, scalar_sl H.h.p, scalar_sl H.h.b, cells_sl H.h.k, cells_sl H.h.p, cells_sl H.h.b, pure_sl H.h.k, pure_sl H.h.p, pure_sl H.h.b, Int.toNat_natCast, lenV_sl H.pk, view_sl H.pk, scalar_sl H.pk, cells_sl H.pk, pure_sl H.pk, H.bi.len, H.bi.sc, H.bi.ce, H.bi.pu, H.bi.vw, a93i, a80i, a93t, a80t, hc, lenV_sl sk, view_sl sk, scalar_sl sk, cells_sl sk, pure_sl sk, lenV_sl sp, view_sl sp, scalar_sl sp, cells_sl sp, pure_sl sp, lenV_sl sb, view_sl sb, scalar_sl sb, cells_sl sb, pure_sl sb, lenV_sl sq, view_sl sq, scalar_sl sq, cells_sl sq, pure_sl sq, B1, B2, B3, B4, GO_mcall1, hide, fin2]
    try rfl
set_option maxHeartbeats 4000000 in
theorem l11 (H0 : FsIn f k p b pv bv w) (u d : Int) : Iso E 11 [frV f k p b pv bv, I u, I d] false = some (Bo true) := by
  have a37 := fun st => t37 H0 st
  simp only [frV] at a37
  refine Iso_of (es _ _ _ _) e11 ?_
  simp only [f11]
  cases hh : f.huge
  case true =>
    rw [hh] at a37
    simp (disch := first | assumption | omega | (simp only [az]; done)) only [ru, eq_self, if_true, if_false, BEq.rfl, binI, AO.row?, splice, fillL, mmAll, loadV, storeV, zeros, Am.rowAt, Am.part, addOff, Nat.reduceAdd, Nat.reduceMul, Nat.reduceLeDiff, Nat.reduceSub, Nat.reduceLT, Int.reduceEq, Int.reduceLT, Int.reduceLE, Int.reduceGT, Int.reduceGE, Int.reduceAdd, Int.reduceSub, Int.reduceMul, Int.reduceNeg, Int.reduceToNat, reduceCtorEq, reduceIte, lenV_sl H0.h.k, lenV_sl H0.h.p, lenV_sl H0.h.b, elem_kd H0.h.k, elem_pr H0.h.p, elem_in H0.h.b, view_sl H0.h.k, view_sl H0.h.p, view_sl H0.h.b, scalar_sl H0.h.k, scalar_sl H0.h.p, scalar_sl H0.h.b, cells_sl H0.h.k, cells_sl H0.h.p, cells_sl H0.h.b, pure_sl H0.h.k, pure_sl H0.h.p, pure_sl H0.h.b, Int.toNat_natCast, lenV_sl H0.pk, view_sl H0.pk, scalar_sl H0.pk, cells_sl H0.pk, pure_sl H0.pk, H0.bi.len, H0.bi.sc, H0.bi.ce, H0.bi.pu, H0.bi.vw, a37, t15, gUn]
  rw [hh] at a37
  have H := hugeF_ok H0 hh
  have nb := H.nb
  obtain ⟨wc, Hc⟩ := cpF_ok H
  have a33 := t33 H
  have a25 := fun st => t25 Hc u st
  have a51 := t51 H u
  have a24 := fun st => t24 Hc st
  have a52 := t52 H
  have a53 := fun st => t53 Hc d st
  have a54 := t54 H d
  have a55 := fun st => t55 Hc st
  have a56 := t56 H
  have a43 := fun st => t43 Hc H st
  simp only [cpF, frV] at a33 a25 a51 a24 a52 a53 a54 a55 a56 a43
  obtain ⟨e, he⟩ : ∃ e, e = fE f.valid := ⟨_, rfl⟩
  obtain ⟨A, hA⟩ : ∃ e, e = askF f.valid (inR u 0 (f.n - 1)) := ⟨_, rfl⟩
  obtain ⟨C, hC⟩ : ∃ e, e = askF f.valid (inR d 0 20) := ⟨_, rfl⟩
  simp only [← he] at a24 a52 a55 a56
  simp only [← hA] at a25 a51
  simp only [← hC] at a53 a54
  obtain ⟨X, hX⟩ : ∃ e, e = (if A = 0 then payF f.bids f.r u else 0) := ⟨_, rfl⟩
  obtain ⟨Y, hY⟩ : ∃ e, e = (if f.valid then paidF f.bids f.r f.n.toNat else 0) := ⟨_, rfl⟩
  obtain ⟨Z, hZ⟩ : ∃ e, e = (if C = 0 then tops f.bids (rdF f.h f.pk d) else 0) := ⟨_, rfl⟩
  obtain ⟨V, hV⟩ : ∃ e, e = (if f.valid then (fsB (fun d => tops f.bids (rdF f.h f.pk d)) 21).1 else 0) := ⟨_, rfl⟩
  simp only [← hX] at a25 a51
  simp only [← hY] at a24 a52
  simp only [← hZ] at a53 a54
  simp only [← hV] at a55 a56
  obtain ⟨B, hB⟩ : ∃ B, B = resB f.bids := ⟨_, rfl⟩
  have B1 : B.scalar = true := by rw [hB]; exact Hc.bi.sc
  have B2 : B.cells = [B] := by rw [hB]; exact Hc.bi.ce
  have B3 : ∀ (g : List AO) (n : Nat), view false g n B = some B := fun g n => by rw [hB]; exact Hc.bi.vw g _
  have B4 : B.pureV = true := by rw [hB]; exact Hc.bi.pu
  simp only [← hB] at a33 a25 a24 a53 a55 a43
  have sk : IsSl 2 Kd.e f.h.ks (slV 2 Kd.e f.h.ks) := slV_is
  have sp : IsSl 2 Pr.e f.h.ps (slV 2 Pr.e f.h.ps) := slV_is
  have sb : IsSl 1 intL f.h.bs (slV 1 intL f.h.bs) := slV_is
  have sq : IsSl 1 intL f.pk (slV 1 intL f.pk) := slV_is
  clear hA hX hY hZ hV hC hB he
  have q1 : ∀ x : Int, (x != x) = false := fun x => by simp
  have q2 : ∀ x : Int, (x == x) = true := fun x => by simp
  simp (disch := first | assumption | omega | (simp only [az]; done)) only [ru, eq_self, if_true, if_false, BEq.rfl, binI, AO.row?, splice, fillL, mmAll, loadV, storeV, zeros, Am.rowAt, Am.part, addOff, Nat.reduceAdd, Nat.reduceMul, Nat.reduceLeDiff, Nat.reduceSub, Nat.reduceLT, Int.reduceEq, Int.reduceLT, Int.reduceLE, Int.reduceGT, Int.reduceGE, Int.reduceAdd, Int.reduceSub, Int.reduceMul, Int.reduceNeg, Int.reduceToNat, reduceCtorEq, reduceIte, lenV_sl H.h.k, lenV_sl H.h.p, lenV_sl H.h.b, elem_kd H.h.k, elem_pr H.h.p, elem_in H.h.b, view_sl H.h.k, view_sl H.h.p, view_sl H.h.b, scalar_sl H.h.k, scalar_sl H.h.p, scalar_sl H.h.b, cells_sl H.h.k, cells_sl H.h.p, cells_sl H.h.b, pure_sl H.h.k, pure_sl H.h.p, pure_sl H.h.b, Int.toNat_natCast, lenV_sl H.pk, view_sl H.pk, scalar_sl H.pk, cells_sl H.pk, pure_sl H.pk, H.bi.len, H.bi.sc, H.bi.ce, H.bi.pu, H.bi.vw, lenV_sl sk, view_sl sk, scalar_sl sk, cells_sl sk, pure_sl sk, lenV_sl sp, view_sl sp, scalar_sl sp, cells_sl sp, pure_sl sp, lenV_sl sb, view_sl sb, scalar_sl sb, cells_sl sb, pure_sl sb, lenV_sl sq, view_sl sq, scalar_sl sq, cells_sl sq, pure_sl sq, B1, B2, B3, B4, a37, gUn, a33, GO_mcall1, hide, a25, a51, a24, a52, q1, q2, a53, a54, a55, a56, a43, Bool.not_true, t15]
  done
end
end Go.Proofs.YtfagcnokdnanpaaGreat.S
