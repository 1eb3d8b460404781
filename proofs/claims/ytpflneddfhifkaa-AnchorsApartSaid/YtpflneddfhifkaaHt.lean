/-
The law of stage 2 on what is apart.
-/
import Derived.Test.YtpflneddfhifkaaHs
namespace Go.Proofs.Ytpflneddfhifkaa.S
open Go Go.Am Go.Proofs.Ytpflneddfhifkaa.T
set_option maxRecDepth 100000
set_option linter.unusedSimpArgs false
set_option linter.unusedVariables false

theorem at_ap {α : Type} {l m : List α} {k : Nat} (h : k < l.length) : (l ++ m)[k]? = l[k]? := List.getElem?_append_left h
theorem GX_gen {X : Cx} {base : Nat} {k : List KF} {ts : List AV} {h' : List AO} {mk : List Nat} {r : List AOper} {d : Option Nat} {v : AV} {c : Prop} [Decidable c] (P : List AO → Prop) (hc : c) (hp : P h') (hg : ∀ h2, P h2 → GO X base r k (putT ts d v) h2 mk) :
    GX X base (if c then some (v, h') else none) d r k ts mk := by
  rw [if_pos hc]; exact hg _ hp

structure AH (n : Net) (g a w : AV) (t : Tru) (v : AV) (og oa ow p : Nat) (W : List Wal) (h : List AO) : Prop where
  f0 : h[0]? = some (.cells [I n.wind.lo, I n.wind.hi, I n.cur.lo, I n.cur.hi, g, a, w] false)
  f1 : h[1]? = some (.cells [I t.wind, I t.cur, v] false)
  fp : h[p]? = some (.cells [I n.wind.lo, I n.wind.hi, I n.cur.lo, I n.cur.hi, .ms 2 og 0 n.grips.length, .ms 2 oa 0 n.ancs.length, .ms 5 ow 0 n.walls.length] false)
  g : h[og]? = some (.cells (n.grips.flatMap Spn.e) false)
  a : h[oa]? = some (.cells (n.ancs.flatMap Anc.e) false)
  w : h[ow]? = some (.cells (W.flatMap Wal.e) false)

set_option maxHeartbeats 4000000 in
theorem s14 {n : Net} {g a w : AV} (H0 : NetIn n g a w) {t : Tru} {v : AV} (V0 : TruIn t v) (x : Int) (st : Bool) : Iso E 14 [netV n g a w, .agg [I t.wind, I t.cur, v], I x] st = some (Bo true) := by
  refine Iso_of (es _ _ _ _) e14 ?_
  simp only [f14, netV]
  by_cases hs : smallN n
  case neg =>
    simp (disch := first | assumption | omega | (simp only [az]; done)) only [ru, eq_self, if_true, if_false, BEq.rfl, binI, AO.row?, splice, fillL, mmAll, loadV, storeV, zeros, Am.rowAt, Am.part, addOff, Nat.reduceAdd, Nat.reduceMul, Nat.reduceLeDiff, Nat.reduceSub, Nat.reduceLT, Int.reduceEq, Int.reduceLT, Int.reduceLE, Int.reduceGT, Int.reduceGE, Int.reduceAdd, Int.reduceSub, Int.reduceMul, Int.reduceNeg, Int.reduceToNat, reduceCtorEq, reduceIte, s51h H0 hs V0, view_sl H0.g, view_sl H0.a, view_sl H0.w, view_sl V0.s, gUn, s16]
  have H : NetOk n g a w := ⟨H0.g, H0.a, H0.w, hs.1, hs.2.1, hs.2.2⟩
  have sg := H.sg; have sa := H.sa; have sw := H.sw
  cases hg : gvn n t
  · simp (disch := first | assumption | omega | (simp only [az]; done)) only [ru, eq_self, if_true, if_false, BEq.rfl, binI, AO.row?, splice, fillL, mmAll, loadV, storeV, zeros, Am.rowAt, Am.part, addOff, Nat.reduceAdd, Nat.reduceMul, Nat.reduceLeDiff, Nat.reduceSub, Nat.reduceLT, Int.reduceEq, Int.reduceLT, Int.reduceLE, Int.reduceGT, Int.reduceGE, Int.reduceAdd, Int.reduceSub, Int.reduceMul, Int.reduceNeg, Int.reduceToNat, reduceCtorEq, reduceIte, lenV_sl H.g, lenV_sl H.a, lenV_sl H.w, elem_sl Spn.el H.g, elem_sl Anc.el H.a, elem_sl Wal.el H.w, view_sl H.g, view_sl H.a, view_sl H.w, scalar_sl H.g, scalar_sl H.a, scalar_sl H.w, cells_sl H.g, cells_sl H.a, cells_sl H.w, pure_sl H.g, pure_sl H.a, pure_sl H.w, Spn.e, Anc.e, Wal.e, Spn.eta, Anc.eta, Wal.eta, Int.toNat_natCast, s51 H V0, view_sl V0.s, hg, gUn, s16]
  have G := gvn_good hg
  have V : TruOk t v := ⟨V0.s, gvn_l hg⟩
  cases hx : inR x 0 ((n.walls.length : Int) - 1)
  · simp (disch := first | assumption | omega | (simp only [az]; done)) only [ru, eq_self, if_true, if_false, BEq.rfl, binI, AO.row?, splice, fillL, mmAll, loadV, storeV, zeros, Am.rowAt, Am.part, addOff, Nat.reduceAdd, Nat.reduceMul, Nat.reduceLeDiff, Nat.reduceSub, Nat.reduceLT, Int.reduceEq, Int.reduceLT, Int.reduceLE, Int.reduceGT, Int.reduceGE, Int.reduceAdd, Int.reduceSub, Int.reduceMul, Int.reduceNeg, Int.reduceToNat, reduceCtorEq, reduceIte, lenV_sl H.g, lenV_sl H.a, lenV_sl H.w, elem_sl Spn.el H.g, elem_sl Anc.el H.a, elem_sl Wal.el H.w, view_sl H.g, view_sl H.a, view_sl H.w, scalar_sl H.g, scalar_sl H.a, scalar_sl H.w, cells_sl H.g, cells_sl H.a, cells_sl H.w, pure_sl H.g, pure_sl H.a, pure_sl H.w, Spn.e, Anc.e, Wal.e, Spn.eta, Anc.eta, Wal.eta, Int.toNat_natCast, lenV_sl V.s, elem_sl intE V.s, view_sl V.s, scalar_sl V.s, cells_sl V.s, pure_sl V.s, s51 H V0, hg, s63 H, hx, gUn, s16]
  have hx' := inR_iff.1 hx
  obtain ⟨k, rfl⟩ : ∃ k : Nat, x = k := ⟨x.toNat, by omega⟩
  have hk : k < n.walls.length := by omega
  have hk' : (k : Int) < n.walls.length := by omega
  have lw := (netB G.v).lw
  obtain ⟨og, oa, ow, K0, q, C, lg, la, lw'⟩ := call17 H [.cells [I n.wind.lo, I n.wind.hi, I n.cur.lo, I n.cur.hi, g, a, w] false, .cells [I t.wind, I t.cur, v] false]
  simp (disch := first | assumption | omega | (simp only [az]; done)) only [ru, eq_self, if_true, if_false, BEq.rfl, binI, AO.row?, splice, fillL, mmAll, loadV, storeV, zeros, Am.rowAt, Am.part, addOff, Nat.reduceAdd, Nat.reduceMul, Nat.reduceLeDiff, Nat.reduceSub, Nat.reduceLT, Int.reduceEq, Int.reduceLT, Int.reduceLE, Int.reduceGT, Int.reduceGE, Int.reduceAdd, Int.reduceSub, Int.reduceMul, Int.reduceNeg, Int.reduceToNat, reduceCtorEq, reduceIte, lenV_sl H.g, lenV_sl H.a, lenV_sl H.w, elem_sl Spn.el H.g, elem_sl Anc.el H.a, elem_sl Wal.el H.w, view_sl H.g, view_sl H.a, view_sl H.w, scalar_sl H.g, scalar_sl H.a, scalar_sl H.w, cells_sl H.g, cells_sl H.a, cells_sl H.w, pure_sl H.g, pure_sl H.a, pure_sl H.w, Spn.e, Anc.e, Wal.e, Spn.eta, Anc.eta, Wal.eta, Int.toNat_natCast, lenV_sl V.s, elem_sl intE V.s, view_sl V.s, scalar_sl V.s, cells_sl V.s, pure_sl V.s, s51 H V0, hg, s63 H, hx, gUn]
  rw [q rfl]
  obtain ⟨Hp, hHp⟩ : ∃ Hp, Hp = [.cells [I n.wind.lo, I n.wind.hi, I n.cur.lo, I n.cur.hi, g, a, w] false, .cells [I t.wind, I t.cur, v] false] ++ K0 := ⟨_, rfl⟩
  have f0 : Hp[0]? = some (.cells [I n.wind.lo, I n.wind.hi, I n.cur.lo, I n.cur.hi, g, a, w] false) := by rw [hHp]; rfl
  have f1 : Hp[1]? = some (.cells [I t.wind, I t.cur, v] false) := by rw [hHp]; rfl
  rw [← hHp] at C ⊢
  have fg := C.g; have fa := C.a; have fw := C.w
  have ng := at_len fg; have na := at_len fa; have nw := at_len fw; have n1 := at_len f1; have n0 := at_len f0
  obtain ⟨u, hu⟩ : ∃ u, u = n.walls.getD k default := ⟨_, rfl⟩
  have hrow : ((n.walls.flatMap Wal.e).drop (k * 5)).take 5 = [I u.sail, I u.drag, I u.lean, I u.corks, I u.stones] := by
    rw [flat_at Wal.el n.walls k hk, hu]; simp [Wal.e, List.getD_eq_getElem?_getD, hk]
  have hlen : k * 5 + 5 ≤ (n.walls.flatMap Wal.e).length := by rw [flat_len Wal.el]; omega
  obtain ⟨W, hW⟩ : ∃ W, W = n.walls.set k (flatWal n k) := ⟨_, rfl⟩
  have lW : W.length = n.walls.length := by rw [hW, List.length_set]
  have hput := flat_put Wal.el (flatWal n k) n.walls k hk
  rw [← hW] at hput
  simp only [Wal.e, flatWal, ← hu] at hput
  simp only [len0, lenS] at lg la lw'
  clear hHp q
  simp (disch := first | assumption | omega | (simp only [az]; done)) only [ru, eq_self, if_true, if_false, BEq.rfl, binI, AO.row?, splice, fillL, mmAll, loadV, storeV, zeros, Am.rowAt, Am.part, addOff, Nat.reduceAdd, Nat.reduceMul, Nat.reduceLeDiff, Nat.reduceSub, Nat.reduceLT, Int.reduceEq, Int.reduceLT, Int.reduceLE, Int.reduceGT, Int.reduceGE, Int.reduceAdd, Int.reduceSub, Int.reduceMul, Int.reduceNeg, Int.reduceToNat, reduceCtorEq, reduceIte, at_lt1, at_lt2, fw, hrow, hk', Int.toNat_natCast, ceMs, scMs, hput]
  have dga := C.ga; have dgw := C.gw; have daw := C.aw
  refine GX_gen (AH n g a w t v og oa ow Hp.length W) hlen ⟨?_, ?_, ?_, ?_, ?_, ?_⟩ ?_
  · rw [at_ne (by omega), at_lt2 n0]; exact f0
  · rw [at_ne (by omega), at_lt2 n1]; exact f1
  · rw [at_ne (by omega)]; exact atL1
  · rw [at_ne (by omega), at_lt2 ng]; exact fg
  · rw [at_ne (by omega), at_lt2 na]; exact fa
  · rw [at_set2 nw]
  clear f0 f1 fg fa fw ng na nw n0 n1 C hrow hput hlen
  obtain ⟨p, hp⟩ : ∃ p, p = Hp.length := ⟨_, rfl⟩
  rw [← hp]
  clear hp
  rintro h ⟨f0, f1, fp, fg, fa, fw⟩
  have ng := at_len fg; have na := at_len fa; have nw := at_len fw; have n1 := at_len f1; have n0 := at_len f0; have np := at_len fp
  have tg := flat_take (l := n.grips) Spn.el
  have ta := flat_take (l := n.ancs) Anc.el
  have tw := flat_take (l := W) Wal.el
  have ew := flat_len Wal.el W
  rw [lW] at tw ew
  have iw : IsSl 5 Wal.e W (.cs 5 n.walls.length (W.flatMap Wal.e)) := .inl (by rw [lW])
  have Ho : NetOk (apart n k) (.cs 2 n.grips.length (n.grips.flatMap Spn.e)) (.cs 2 n.ancs.length (n.ancs.flatMap Anc.e)) (.cs 5 n.walls.length (W.flatMap Wal.e)) :=
    ⟨.inl rfl, .inl rfl, by show IsSl 5 Wal.e (n.walls.set k (flatWal n k)) _; rw [← hW]; exact iw, H.sg, H.sa, by rw [apart_lw]; exact H.sw⟩
  have c1 : ∀ st, Iso E 17 [.agg [I n.wind.lo, I n.wind.hi, I n.cur.lo, I n.cur.hi, .cs 2 n.grips.length (n.grips.flatMap Spn.e), .cs 2 n.ancs.length (n.ancs.flatMap Anc.e), .cs 5 n.walls.length (W.flatMap Wal.e)]] st =
      some (.agg [I n.wind.lo, I n.wind.hi, I n.cur.lo, I n.cur.hi, slV 2 Spn.e n.grips, slV 2 Anc.e n.ancs, slV 5 Wal.e W]) := fun st => by rw [hW]; rw [hW] at Ho; exact s17 Ho st
  have vg := view_ms_at Spn.el Spn.iv fg
  have va := view_ms_at Anc.el Anc.iv fa
  have vw := view_ms_at Wal.el Wal.iv fw
  rw [lW] at vw
  have Hs : NetOk (apart n k) (slV 2 Spn.e n.grips) (slV 2 Anc.e n.ancs) (slV 5 Wal.e W) := ⟨slV_is, slV_is, by rw [hW]; exact slV_is, H.sg, H.sa, by rw [apart_lw]; exact H.sw⟩
  have Hl : NetOk (leftN n k) (slV 2 Spn.e n.grips) (slV 2 Anc.e (n.ancs.take (k + 1))) (slV 5 Wal.e (W.take k)) := ⟨slV_is, slV_is, by rw [hW]; exact slV_is, H.sg, by rw [left_len G.v hk]; omega, by rw [left_lw hk]; omega⟩
  have Hr : NetOk (rightN n k) (slV 2 Spn.e n.grips) (slV 2 Anc.e (n.ancs.drop (k + 1))) (slV 5 Wal.e (W.drop (k + 1))) := ⟨slV_is, slV_is, by rw [hW]; exact slV_is, H.sg, by rw [right_len]; omega, by rw [right_lw]; omega⟩
  have spl := apart_lst G hk
  have rR := lst_rises (rightN n k) (lfp (rightN n k) t none6)
  rw [right_len] at rR
  have l1 := lst_le (n := leftN n k) (D := lfp (leftN n k) t none6)
  have l2 := lst_le (n := rightN n k) (D := lfp (rightN n k) t none6)
  rw [left_len G.v hk] at l1
  rw [right_len] at l2
  have a1 : ∀ J, Ro E 52 [.agg [I n.wind.lo, I n.wind.hi, I n.cur.lo, I n.cur.hi, .ms 2 og 0 n.grips.length, .ms 2 oa 0 n.ancs.length, .ms 5 ow 0 n.walls.length], .agg [I t.wind, I t.cur, v]] (h ++ J) =
    some (.tup [resL (lst (apart n k) (lfp (apart n k) t none6)), Bo true]) := fun J => r52 Hs V (good_apart G hk) (vg.more J) (va.more J) (vw.more J) rfl
  have a2 : ∀ J, Ro E 52 [.agg [I n.wind.lo, I n.wind.hi, I n.cur.lo, I n.cur.hi, slV 2 Spn.e n.grips, slV 2 Anc.e (n.ancs.take (k + 1)), slV 5 Wal.e (W.take k)], .agg [I t.wind, I t.cur, v]] J =
    some (.tup [resL (lst (leftN n k) (lfp (leftN n k) t none6)), Bo true]) := fun J => r52 Hl V (good_left G hk) (vw_sl slV_is J) (vw_sl slV_is J) (vw_sl slV_is J) rfl
  have a3 : ∀ J, Ro E 52 [.agg [I n.wind.lo, I n.wind.hi, I n.cur.lo, I n.cur.hi, slV 2 Spn.e n.grips, slV 2 Anc.e (n.ancs.drop (k + 1)), slV 5 Wal.e (W.drop (k + 1))], .agg [I t.wind, I t.cur, v]] J =
    some (.tup [resL (lst (rightN n k) (lfp (rightN n k) t none6)), Bo true]) := fun J => r52 Hr V (good_right G hk) (vw_sl slV_is J) (vw_sl slV_is J) (vw_sl slV_is J) rfl
  obtain ⟨L, hL⟩ : ∃ L, L = lst (apart n k) (lfp (apart n k) t none6) := ⟨_, rfl⟩
  obtain ⟨K, hK⟩ : ∃ K, K = lst (leftN n k) (lfp (leftN n k) t none6) := ⟨_, rfl⟩
  obtain ⟨M, hM⟩ : ∃ M, M = lst (rightN n k) (lfp (rightN n k) t none6) := ⟨_, rfl⟩
  simp only [← hL] at a1
  simp only [← hK] at a2
  simp only [← hM] at a3
  rw [← hL, ← hK, ← hM] at spl
  rw [← hM] at rR l2
  rw [← hK] at l1
  have nL : (L.length : Int) = (K.length : Int) + M.length := by rw [spl]; simp
  have e1 : ((k : Int) + 1).toNat = k + 1 := by omega
  have e2 : (k : Int).toNat = k := by omega
  have p1 := sliceV_hi (h := (k : Int) + 1) Anc.el (l := n.ancs) (by omega) (by omega)
  have p2 := sliceV_hi (h := (k : Int)) Wal.el (l := W) (by omega) (by omega)
  have p3 := sliceV_lo (h := (k : Int) + 1) Anc.el (l := n.ancs) (by omega) (by omega)
  have p4 := sliceV_lo (h := (k : Int) + 1) Wal.el (l := W) (by omega) (by omega)
  rw [e1] at p1 p3 p4
  rw [e2] at p2
  clear hL hK hM hW hs Hs Hl Hr Ho vg va vw iw hu lg la lw' dga dgw daw
  simp (disch := first | assumption | omega | (simp only [az]; done)) only [ru, eq_self, if_true, if_false, BEq.rfl, binI, AO.row?, splice, fillL, mmAll, loadV, storeV, zeros, Am.rowAt, Am.part, addOff, Nat.reduceAdd, Nat.reduceMul, Nat.reduceLeDiff, Nat.reduceSub, Nat.reduceLT, Int.reduceEq, Int.reduceLT, Int.reduceLE, Int.reduceGT, Int.reduceGE, Int.reduceAdd, Int.reduceSub, Int.reduceMul, Int.reduceNeg, Int.reduceToNat, reduceCtorEq, reduceIte, at_ap, fp, fg, fa, fw, f1, tg, ta, tw, ew, flat_len Spn.el, flat_len Anc.el, flat_view Spn.iv, flat_view Anc.iv, flat_view Wal.iv, c1, slV_sc, slV_ce, slV_vi, slV_pu, p1, p2, p3, p4, lenV_sl V.s, elem_sl intE V.s, view_sl V.s, scalar_sl V.s, cells_sl V.s, pure_sl V.s, a1, a2, a3, lenV_sl (resL_is L), lenV_sl (resL_is K), lenV_sl (resL_is M), gUn, nL, ne_eq, not_true_eq_false, List.nil_append, List.cons_append]
  clear a1 a2 a3 c1 p1 p2 p3 p4
  refine G_loop_ind (fun m ts h mk => ∃ (i : Nat), i ≤ L.length ∧ m = L.length - i ∧ ts.length = 153 ∧ ts.getD 2 .undef = I k ∧ ts.getD 11 .undef = resL L ∧ ts.getD 13 .undef = resL K ∧ ts.getD 15 .undef = resL M ∧ ts.getD 17 .undef = I i ∧ mk = []) ?_ _ _ _ _
    ⟨0, Nat.zero_le _, rfl, rfl, rfl, rfl, rfl, rfl, rfl, rfl⟩
  rintro m ts h mk ih ⟨i, hi, rfl, hl, q2, q11, q13, q15, q17, rfl⟩
  rw [lit_all hl]
  simp only [lit0, litS, Nat.reduceAdd, q2, q11, q13, q15, q17]
  simp (disch := first | assumption | omega | (simp only [az]; done)) only [ru, eq_self, if_true, if_false, BEq.rfl, binI, AO.row?, splice, fillL, mmAll, loadV, storeV, zeros, Am.rowAt, Am.part, addOff, Nat.reduceAdd, Nat.reduceMul, Nat.reduceLeDiff, Nat.reduceSub, Nat.reduceLT, Int.reduceEq, Int.reduceLT, Int.reduceLE, Int.reduceGT, Int.reduceGE, Int.reduceAdd, Int.reduceSub, Int.reduceMul, Int.reduceNeg, Int.reduceToNat, reduceCtorEq, reduceIte, lenV_sl (resL_is L)]
  by_cases hlt : (i : Int) < L.length
  case pos =>
    by_cases hi1 : (i : Int) < K.length
    · have hi2 : ¬ (i : Int) ≥ K.length := by omega
      have eL : L.getD i default = K.getD i default := by
        rw [spl]; simp only [List.getD_eq_getElem?_getD]; rw [List.getElem?_append_left (by omega)]
      simp (disch := first | assumption | omega | (simp only [az]; done)) only [ru, eq_self, if_true, if_false, BEq.rfl, binI, AO.row?, splice, fillL, mmAll, loadV, storeV, zeros, Am.rowAt, Am.part, addOff, Nat.reduceAdd, Nat.reduceMul, Nat.reduceLeDiff, Nat.reduceSub, Nat.reduceLT, Int.reduceEq, Int.reduceLT, Int.reduceLE, Int.reduceGT, Int.reduceGE, Int.reduceAdd, Int.reduceSub, Int.reduceMul, Int.reduceNeg, Int.reduceToNat, reduceCtorEq, reduceIte, hlt, hi1, hi2, elem_sl intE (resL_is L), elem_sl intE (resL_is K), lenV_sl (resL_is K), Int.toNat_natCast, eL, gUn, ne_eq, not_true_eq_false]
      exact ih (L.length - (i + 1)) _ _ _ (by omega) ⟨i + 1, by omega, rfl, rfl, rfl, rfl, rfl, rfl, rfl, rfl⟩
    · have hi2 : (i : Int) ≥ K.length := by omega
      have hj : i - K.length < M.length := by omega
      have htn : ((i : Int) - K.length).toNat = i - K.length := by omega
      have b := inR_iff.1 (rR (i - K.length) hj).1
      have eL : L.getD i default = M.getD (i - K.length) default + k + 1 := by
        rw [spl]; simp only [List.getD_eq_getElem?_getD]; rw [List.getElem?_append_right (by omega)]
        simp only [List.getElem?_map, List.getElem?_eq_getElem hj, Option.map_some, Option.getD_some]
      simp (disch := first | assumption | omega | (simp only [az]; done)) only [ru, eq_self, if_true, if_false, BEq.rfl, binI, AO.row?, splice, fillL, mmAll, loadV, storeV, zeros, Am.rowAt, Am.part, addOff, Nat.reduceAdd, Nat.reduceMul, Nat.reduceLeDiff, Nat.reduceSub, Nat.reduceLT, Int.reduceEq, Int.reduceLT, Int.reduceLE, Int.reduceGT, Int.reduceGE, Int.reduceAdd, Int.reduceSub, Int.reduceMul, Int.reduceNeg, Int.reduceToNat, reduceCtorEq, reduceIte, hlt, hi1, hi2, elem_sl intE (resL_is L), elem_sl intE (resL_is M), lenV_sl (resL_is K), Int.toNat_natCast, htn, eL, gUn, ne_eq, not_true_eq_false]
      exact ih (L.length - (i + 1)) _ _ _ (by omega) ⟨i + 1, by omega, rfl, rfl, rfl, rfl, rfl, rfl, rfl, rfl⟩
  simp (disch := first | assumption | omega | (simp only [az]; done)) only [ru, eq_self, if_true, if_false, BEq.rfl, binI, AO.row?, splice, fillL, mmAll, loadV, storeV, zeros, Am.rowAt, Am.part, addOff, Nat.reduceAdd, Nat.reduceMul, Nat.reduceLeDiff, Nat.reduceSub, Nat.reduceLT, Int.reduceEq, Int.reduceLT, Int.reduceLE, Int.reduceGT, Int.reduceGE, Int.reduceAdd, Int.reduceSub, Int.reduceMul, Int.reduceNeg, Int.reduceToNat, reduceCtorEq, reduceIte, hlt, s16]
end Go.Proofs.Ytpflneddfhifkaa.S
