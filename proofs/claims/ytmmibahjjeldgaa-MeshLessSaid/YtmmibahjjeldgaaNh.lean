/-
The law of one hole less.
-/
import Derived.Test.YtmmibahjjeldgaaNe
namespace Go.Proofs.Ytmmibahjjeldgaa.S
open Go Go.Am Go.Proofs.Ytmmibahjjeldgaa.T
set_option maxRecDepth 100000
set_option linter.unusedSimpArgs false
set_option linter.unusedVariables false
attribute [local irreducible] Go.Am.G Go.Am.GO Go.Am.GG Go.Am.GC Go.Am.GP Go.Am.GX

section
variable {α : Type} {enc : α → List AV} {esz eb : Nat}
theorem flat_takeN {l : List α} (he : ∀ a, (enc a).length = esz) {i : Nat} (h : i ≤ l.length) : (l.flatMap enc).take (i * esz) = (l.take i).flatMap enc := by
  have e : l.flatMap enc = (l.take i).flatMap enc ++ (l.drop i).flatMap enc := by rw [← List.flatMap_append, List.take_append_drop]
  have len : ((l.take i).flatMap enc).length = i * esz := by rw [flat_len he, List.length_take, Nat.min_eq_left h]
  rw [e, List.take_append_of_le_length (by omega), List.take_of_length_le (by omega)]
theorem flat_dropN {l : List α} (he : ∀ a, (enc a).length = esz) {i : Nat} (h : i ≤ l.length) : (l.flatMap enc).drop (i * esz) = (l.drop i).flatMap enc := by
  have e : l.flatMap enc = (l.take i).flatMap enc ++ (l.drop i).flatMap enc := by rw [← List.flatMap_append, List.take_append_drop]
  have len : ((l.take i).flatMap enc).length = i * esz := by rw [flat_len he, List.length_take, Nat.min_eq_left h]
  rw [e, List.drop_append_of_le_length (by omega), List.drop_of_length_le (by omega), List.nil_append]
theorem slice_tk (he : ∀ a, (enc a).length = esz) {l : List α} {v : AV} (h : IsSl esz enc l v) {i : Nat} (hi : i < l.length) : ∃ u, sliceV esz v none (some (I i)) = some u ∧ IsSl esz enc (l.take i) u := by
  rcases h with rfl | ⟨rfl, rfl⟩
  · refine ⟨_, ?_, slV_is⟩
    have h1 : (0 : Int) ≤ i ∧ (i : Int) ≤ l.length := by omega
    simp only [sliceV, sliceB, h1, and_self, if_true, Int.toNat_natCast, Nat.zero_mul, List.drop_zero, Nat.sub_zero, slV, List.length_take, Nat.min_eq_left (Nat.le_of_lt hi), flat_takeN he (Nat.le_of_lt hi)]
  · simp at hi
theorem slice_dr (he : ∀ a, (enc a).length = esz) {l : List α} {v : AV} (h : IsSl esz enc l v) {i : Nat} (hi : i < l.length) : ∃ u, sliceV esz v (some (I ((i : Int) + 1))) none = some u ∧ IsSl esz enc (l.drop (i + 1)) u := by
  rcases h with rfl | ⟨rfl, rfl⟩
  · refine ⟨_, ?_, slV_is⟩
    have h1 : (0 : Int) ≤ (i : Int) + 1 ∧ (i : Int) + 1 ≤ l.length := by omega
    have h2 : ((i : Int) + 1).toNat = i + 1 := by omega
    have h3 : ((l.drop (i + 1)).flatMap enc).take ((l.length - (i + 1)) * esz) = (l.drop (i + 1)).flatMap enc := List.take_of_length_le (by rw [flat_len he, List.length_drop]; exact Nat.le_refl _)
    simp only [sliceV, sliceB, h1, and_self, if_true, h2, slV, List.length_drop, flat_dropN he (show i + 1 ≤ l.length by omega), h3]
  · simp at hi
/-- two lists, one behind the other, in new memory -/
theorem app2 (he : ∀ a, (enc a).length = esz) (hs : ∀ a, (enc a).all AV.scalar = true) {l m : List α} {v : AV} {h : List AO} {lim q : Nat} {x0 x1 : AO} (hv : IsSl esz enc m v) (hq : q < 2) (hx : [x0, x1][q]? = some (.cells (l.flatMap enc) false)) (hb : (l.length + m.length) * eb ≤ 140737488355328) (heb : 1 ≤ eb) (hlim : lim ≤ h.length) :
    ∃ r w, appG false lim (h.length + 2) esz eb (h ++ [x0, x1, .tomb]) (.ms esz (h.length + q) 0 l.length) v = some (.ms esz (h.length + r) 0 (l.length + m.length), h ++ w) ∧ w.length = 3 ∧ r < 3 ∧ w[r]? = some (.cells ((l ++ m).flatMap enc) false) := by
  by_cases hz : m.length = 0
  · have e : m = [] := List.eq_nil_of_length_eq_zero hz
    subst e
    refine ⟨q, [x0, x1, .tomb], ?_, rfl, by omega, ?_⟩
    · have hr : Am.rowOf (h ++ [x0, x1, .tomb]) v = some [] := rowOf_sl hv _
      rw [appG_zero (sl := l.length) rfl (lenOf_sl hv) hr]; rfl
    · rw [List.append_nil]
      match q, hq with
      | 0, _ => exact hx
      | 1, _ => exact hx
  · have ho : (h ++ [x0, x1, .tomb])[h.length + q]? = some (.cells (l.flatMap enc) false) := by
      rw [atT]
      match q, hq with
      | 0, _ => exact hx
      | 1, _ => exact hx
    refine ⟨2, ([x0, x1, AO.tomb].set q .tomb).set 2 (.cells (l.flatMap enc ++ m.flatMap enc) false), ?_, by simp, by omega, ?_⟩
    · rw [appG_ms (keep := false) (c := l.flatMap enc) hz ho (by rw [flat_len he]) (lenOf_sl hv) (rowOf_sl hv _) (flat_len he m) (scal_sl hs m) hb heb (by omega), setT, setT]
      rfl
    · rw [List.getElem?_set_self (by simp), List.flatMap_append]
end
theorem pr_put {l : List Pr} {i : Nat} (hi : i < l.length) (x : Pr) : (l.flatMap Pr.e).take (i * 2) ++ x.e ++ (l.flatMap Pr.e).drop (i * 2 + 2) = (l.set i x).flatMap Pr.e := by
  induction l generalizing i with
  | nil => simp at hi
  | cons a l ih =>
    cases i with
    | zero => rfl
    | succ i =>
      have := ih (i := i) (by simpa using hi)
      have e1 : ((a :: l).flatMap Pr.e).take ((i + 1) * 2) = a.e ++ (l.flatMap Pr.e).take (i * 2) := by
        rw [List.flatMap_cons, show (i + 1) * 2 = a.e.length + i * 2 by simp [Pr.e]; omega, List.take_length_add_append]
      have e2 : ((a :: l).flatMap Pr.e).drop ((i + 1) * 2 + 2) = (l.flatMap Pr.e).drop (i * 2 + 2) := by
        rw [List.flatMap_cons, show (i + 1) * 2 + 2 = a.e.length + (i * 2 + 2) by simp [Pr.e]; omega, List.drop_length_add_append]
      rw [e1, e2, List.set_cons_succ, List.flatMap_cons, ← this]
      simp only [List.append_assoc]
def shp (r : Int) (q : Pr) : Pr := ⟨sh r q.a, sh r q.b⟩
/-- the first pairs with other numbers -/
def sk (L : List Pr) (r : Int) : Nat → List Pr
  | 0 => L
  | k + 1 => (sk L r k).set k (shp r (L.getD k default))
theorem sk_len {L : List Pr} {r : Int} : ∀ {k : Nat}, (sk L r k).length = L.length
  | 0 => rfl
  | k + 1 => by rw [sk, List.length_set, sk_len]
theorem sk_take {L : List Pr} {r : Int} : ∀ {k : Nat}, k ≤ L.length → (sk L r k).take k = (L.take k).map (shp r)
  | 0, _ => by simp
  | k + 1, h => by
    have l1 : k < (sk L r (k + 1)).length := by rw [sk_len]; omega
    rw [take_snoc (d := default) l1, take_snoc (d := default) (show k < L.length by omega), List.map_append, sk, List.take_set_of_le (Nat.le_refl _), sk_take (by omega)]
    congr 1
    rw [List.getD_eq_getElem?_getD, List.getElem?_set_self (by rw [sk_len]; omega)]; rfl
theorem sk_all {L : List Pr} {r : Int} : sk L r L.length = L.map (shp r) := by
  have h := sk_take (L := L) (r := r) (Nat.le_refl _)
  rw [List.take_length, List.take_of_length_le (by rw [sk_len]; exact Nat.le_refl _)] at h
  exact h
section
variable {n : Net} {g p : AV}
theorem cut_eq {r : Nat} : n.cut r = ⟨n.m, n.hs.take r ++ n.hs.drop (r + 1), n.ps.map (shp r)⟩ := by
  show (⟨n.m, n.hs.eraseIdx r, _⟩ : Net) = _
  rw [List.eraseIdx_eq_take_drop_succ]; rfl
theorem cut_g (G : NetG n) {r : Nat} (hr : r < n.hs.length) (hp : ∀ p ∈ n.ps, p.a ≠ r ∧ p.b ≠ r) : NetG (n.cut r) where
  h := ⟨by have := cut_len hr; have := G.h.le; omega, fun x hx => G.h.h x (List.mem_of_mem_eraseIdx hx)⟩
  m1 := G.m1
  m2 := G.m2
  p := fun q hq => by
    obtain ⟨y, hy, rfl⟩ := List.mem_map.1 (show q ∈ n.ps.map fun p => (⟨sh r p.a, sh r p.b⟩ : Pr) from hq)
    have a := G.p y hy
    have b := (hp y hy).1
    have c := cut_len hr
    show 0 ≤ sh r y.a ∧ sh r y.a < _
    unfold sh; split <;> omega
theorem cut_valid (hv : n.valid = true) {r : Nat} (hr : r < n.hs.length) (hp : ∀ p ∈ n.ps, p.a ≠ r ∧ p.b ≠ r) : (n.cut r).valid = true := by
  obtain ⟨G, h8, hb, l, O⟩ := valid_ok hv
  have G2 := cut_g G hr hp
  have hO := cut_isO hr hp O
  have cl := cut_len hr
  simp only [Net.valid, Bool.and_eq_true, decide_eq_true_eq, List.all_eq_true]
  refine ⟨⟨⟨⟨⟨inR_iff.2 ⟨G2.m1, G2.m2⟩, G2.h.le⟩, by show (n.ps.map _).length ≤ 8; rw [List.length_map]; exact h8⟩, fun x hx => ?_⟩, fun q hq => ?_⟩, fun e => ords_ne hO (List.eq_nil_of_length_eq_zero e)⟩
  · have := G2.h.h x hx
    simp only [holOk, Bool.and_eq_true, inR_iff]; omega
  · have a := G2.p q hq
    obtain ⟨y, hy, rfl⟩ := List.mem_map.1 (show q ∈ n.ps.map fun p => (⟨sh r p.a, sh r p.b⟩ : Pr) from hq)
    have b := hb y hy
    have c := (hp y hy).2
    have d : 0 ≤ sh r y.b ∧ sh r y.b < (n.cut r).hs.length := by unfold sh; split <;> omega
    simp only [parOk, Bool.and_eq_true, inR_iff]
    have a' : 0 ≤ sh r y.a ∧ sh r y.a < (n.cut r).hs.length := a
    exact ⟨by omega, by omega⟩
set_option maxHeartbeats 16000000 in
theorem s10 (H0 : NetIn n g p) (k : Int) (st : Bool) : Iso E 10 [netV n g p, I k] st = some (Bo true) := by
  have g0 := fun st => s49' H0 5 st
  simp only [netV] at g0
  cases hr : rdyB n 5
  case false =>
    refine Iso_of (es _ _ _ _) e10 ?_
    simp only [f10, netV]
    simp (disch := first | assumption | omega | (simp only [az]; done)) only [ru, eq_self, if_true, if_false, BEq.rfl, binI, AO.row?, splice, fillL, mmAll, loadV, storeV, zeros, Am.rowAt, Am.part, addOff, Nat.reduceAdd, Nat.reduceMul, Nat.reduceLeDiff, Nat.reduceSub, Nat.reduceLT, Int.reduceEq, Int.reduceLT, Int.reduceLE, Int.reduceGT, Int.reduceGE, Int.reduceAdd, Int.reduceSub, Int.reduceMul, Int.reduceNeg, Int.reduceToNat, reduceCtorEq, reduceIte, lenV_sl H0.g, view_sl H0.g, scalar_sl H0.g, cells_sl H0.g, pure_sl H0.g, lenV_sl H0.p, view_sl H0.p, scalar_sl H0.p, cells_sl H0.p, pure_sl H0.p, g0, hr, gUn, Bool.not_false, s15]
  obtain ⟨H, hv⟩ := rdy_ok H0 hr
  have c55 := fun st => s55 H k st
  simp only [netV] at c55
  cases hk : inR k 0 (n.hs.length - 1)
  · refine Iso_of (es _ _ _ _) e10 ?_
    simp only [f10, netV]
    simp (disch := first | assumption | omega | (simp only [az]; done)) only [ru, eq_self, if_true, if_false, BEq.rfl, binI, AO.row?, splice, fillL, mmAll, loadV, storeV, zeros, Am.rowAt, Am.part, addOff, Nat.reduceAdd, Nat.reduceMul, Nat.reduceLeDiff, Nat.reduceSub, Nat.reduceLT, Int.reduceEq, Int.reduceLT, Int.reduceLE, Int.reduceGT, Int.reduceGE, Int.reduceAdd, Int.reduceSub, Int.reduceMul, Int.reduceNeg, Int.reduceToNat, reduceCtorEq, reduceIte, lenV_sl H0.g, view_sl H0.g, scalar_sl H0.g, cells_sl H0.g, pure_sl H0.g, lenV_sl H0.p, view_sl H0.p, scalar_sl H0.p, cells_sl H0.p, pure_sl H0.p, g0, hr, c55, hk, Bool.not_true, Bool.not_false, s15]
  have hk' := inR_iff.1 hk
  obtain ⟨r, hr'⟩ : ∃ r : Nat, k = r := ⟨k.toNat, by omega⟩
  subst hr'
  have hi : r < n.hs.length := by omega
  obtain ⟨G, h8, hpb, l0, O0⟩ := valid_ok hv
  have k6 := G.h.le
  have m1 := G.m1; have m2 := G.m2
  have sg := H.sg; have sp := H.sp
  -- the first copy
  obtain ⟨gv, pv, J, og, op, hC, hN, lg, lp⟩ := C16 H [.cells [I n.m, g, p] false]
  obtain ⟨HH, hHH⟩ : ∃ HH : List AO, HH = [.cells [I n.m, g, p] false] ++ J := ⟨_, rfl⟩
  rw [← hHH] at hC hN
  have lHH : HH.length = 1 + J.length := by rw [hHH]; simp; omega
  have t0 : HH[0]? = some (.cells [I n.m, g, p] false) := by rw [hHH]; rfl
  obtain ⟨oN, hoN⟩ : ∃ oN, oN = HH.length := ⟨_, rfl⟩
  have atN : ∀ X : AO, (HH ++ [X])[oN]? = some X := fun X => by rw [hoN]; exact atE
  have stN : ∀ X Y : AO, (HH ++ [X]).set oN Y = HH ++ [Y] := fun X Y => by rw [hoN]; exact setE
  obtain ⟨h2, hh2⟩ : ∃ h2, h2 = HH ++ [AO.cells [I (n.m + 1), gv, pv] false] := ⟨_, rfl⟩
  have l2 : h2.length = oN + 1 := by rw [hh2, hoN]; simp
  have u0 : h2[0]? = some (.cells [I n.m, g, p] false) := by rw [hh2, at_ap (by omega)]; exact t0
  have uN : h2[oN]? = some (.cells [I (n.m + 1), gv, pv] false) := by rw [hh2, hoN]; exact atE
  have fr2 := Fr.app HH [AO.cells [I (n.m + 1), gv, pv] false]
  rw [← hh2] at fr2
  have gsc : gv.cells = [gv] ∧ gv.scalar = true := by rw [hN.eg]; exact ⟨rfl, rfl⟩
  have psc : pv.cells = [pv] ∧ pv.scalar = true := by rw [hN.ep]; exact ⟨rfl, rfl⟩
  have HM : NetOk n.more (slV 4 Hl.e n.hs) (slV 2 Pr.e n.ps) := ⟨⟨slV_is, slV_is⟩, H.sg, H.sp⟩
  have xM : CpN n.more h2 ([AO.cells [I n.m, g, p] false].length + og) ([AO.cells [I n.m, g, p] false].length + op) gv pv := ⟨hN.ne, hN.eg, hN.ep, fr2.at hN.g, fr2.at hN.p⟩
  have vwM : ∀ st, view st h2 8 (.agg [I (n.m + 1), gv, pv]) = some (.agg [I (n.m + 1), slV 4 Hl.e n.hs, slV 2 Pr.e n.ps]) := fun st => xM.view st (k := 6)
  have c51 := fun st => s51 H hv st
  have c45 := fun st => s45 H st
  have c19 : ∀ st, Iso E 19 [.agg [I (n.m + 1), slV 4 Hl.e n.hs, slV 2 Pr.e n.ps]] st = some (I (chk n.more.valid)) := fun st => s19 HM st
  -- the second copy, and its holes
  obtain ⟨gv2, pv2, J2, og2, op2, hC2, hN2, lg2, lp2⟩ := C16 H h2
  obtain ⟨HB, hHB⟩ : ∃ HB : List AO, HB = h2 ++ J2 := ⟨_, rfl⟩
  rw [← hHB] at hC2 hN2
  have lHB : HB.length = h2.length + J2.length := by rw [hHB]; simp
  obtain ⟨oB, hoB⟩ : ∃ oB, oB = HB.length := ⟨_, rfl⟩
  have atB : ∀ X : AO, (HB ++ [X])[oB]? = some X := fun X => by rw [hoB]; exact atE
  have stB : ∀ X Y : AO, (HB ++ [X]).set oB Y = HB ++ [Y] := fun X Y => by rw [hoB]; exact setE
  have gsc2 : gv2.cells = [gv2] ∧ gv2.scalar = true := by rw [hN2.eg]; exact ⟨rfl, rfl⟩
  have psc2 : pv2.cells = [pv2] ∧ pv2.scalar = true := by rw [hN2.ep]; exact ⟨rfl, rfl⟩
  obtain ⟨h3, hh3⟩ : ∃ h3, h3 = HB ++ [AO.cells [I n.m, gv2, pv2] false] := ⟨_, rfl⟩
  have l3 : h3.length = oB + 1 := by rw [hh3, hoB]; simp
  have w0 : h3[0]? = some (.cells [I n.m, g, p] false) := by rw [hh3, at_ap (by omega), hHB, at_ap (by omega)]; exact u0
  have wB : h3[oB]? = some (.cells [I n.m, gv2, pv2] false) := by rw [hh3, hoB]; exact atE
  obtain ⟨oP, hoP⟩ : ∃ oP, oP = h2.length + op2 := ⟨_, rfl⟩
  have eP : pv2 = .ms 2 oP 0 n.ps.length := by rw [hN2.ep, hoP]
  have wP : h3[oP]? = some (.cells (n.ps.flatMap Pr.e) false) := by rw [hh3, at_ap (by omega), hoP]; exact hN2.p
  obtain ⟨u1, hu1, U1⟩ := slice_tk Hl.el H.g hi
  obtain ⟨u2, hu2, U2⟩ := slice_dr Hl.el H.g hi
  obtain ⟨q, x0, x1, hq, A1, hx⟩ := cpyQ (eb := 32) (lim := 0) (h := h3) (J := [.tomb]) U1 Hl.el Hl.sc (by rw [List.length_take]; omega) (by omega) (Nat.zero_le _)
  obtain ⟨rr, w, A2, lw, hrr, hw⟩ := app2 (eb := 32) (lim := 0) (h := h3) Hl.el Hl.sc U2 hq hx (by rw [List.length_take, List.length_drop]; omega) (by omega) (Nat.zero_le _)
  have el : (n.cut r).hs.length + 1 = n.hs.length := cut_len hi
  have etd : n.hs.take r ++ n.hs.drop (r + 1) = (n.cut r).hs := by rw [cut_eq]
  have eln : (n.hs.take r).length + (n.hs.drop (r + 1)).length = (n.cut r).hs.length := by rw [← etd, List.length_append]
  rw [eln] at A2
  rw [etd] at hw
  obtain ⟨oQ, hoQ⟩ : ∃ oQ, oQ = h3.length + rr := ⟨_, rfl⟩
  rw [← hoQ] at A2
  obtain ⟨h4, hh4⟩ : ∃ h4, h4 = h3 ++ w := ⟨_, rfl⟩
  rw [← hh4] at A2
  have l4 : h4.length = oB + 4 := by rw [hh4, List.length_append]; omega
  have y0 : h4[0]? = some (.cells [I n.m, g, p] false) := by rw [hh4, at_ap (by omega)]; exact w0
  have yB : h4[oB]? = some (.cells [I n.m, gv2, pv2] false) := by rw [hh4, at_ap (by omega)]; exact wB
  have yP : h4[oP]? = some (.cells (n.ps.flatMap Pr.e) false) := by rw [hh4, at_ap (by omega)]; exact wP
  have yQ : h4[oQ]? = some (.cells ((n.cut r).hs.flatMap Hl.e) false) := by rw [hh4, hoQ, List.getElem?_append_right (by omega), Nat.add_sub_cancel_left]; exact hw
  obtain ⟨h5, hh5⟩ : ∃ h5, h5 = h4.set oB (.cells [I n.m, .ms 4 oQ 0 (n.cut r).hs.length, pv2] false) := ⟨_, rfl⟩
  have l5 : h5.length = oB + 4 := by rw [hh5]; simpa using l4
  have z0 : h5[0]? = some (.cells [I n.m, g, p] false) := by rw [hh5, List.getElem?_set_ne (by omega)]; exact y0
  have zB : h5[oB]? = some (.cells [I n.m, .ms 4 oQ 0 (n.cut r).hs.length, .ms 2 oP 0 n.ps.length] false) := by rw [hh5, List.getElem?_set_self (by omega), eP]
  have zP : h5[oP]? = some (.cells (n.ps.flatMap Pr.e) false) := by rw [hh5, List.getElem?_set_ne (by omega)]; exact yP
  have zQ : h5[oQ]? = some (.cells ((n.cut r).hs.flatMap Hl.e) false) := by rw [hh5, List.getElem?_set_ne (by omega)]; exact yQ
  have m0 : ∀ J, (h3 ++ J)[0]? = some (.cells [I n.m, g, p] false) := fun J => by rw [List.getElem?_append_left (by omega)]; exact w0
  have b1 := lea_bd G O0
  obtain ⟨Z, hZ⟩ : ∃ q, q = lea n := ⟨_, rfl⟩
  obtain ⟨D, hD⟩ : ∃ q, q = don n := ⟨_, rfl⟩
  obtain ⟨gc, hgc⟩ : ∃ q, q = slV 4 Hl.e n.hs := ⟨_, rfl⟩
  obtain ⟨pc, hpc⟩ : ∃ q, q = slV 2 Pr.e n.ps := ⟨_, rfl⟩
  simp only [← hgc, ← hpc] at vwM c19
  simp only [netV, ← hZ, ← hD] at c51 hC hC2
  by_cases h3m : n.m = 3
  case pos =>
    have r1 : morR n = .tup [I 0, I 2] := by unfold morR; rw [hv, if_pos h3m]; rfl
    have r2 : n.more.valid = false := by
      have e : inR n.more.m 1 3 = false := by
        cases h : inR n.more.m 1 3
        · rfl
        · have a := (inR_iff.1 h).2
          have b : n.more.m = n.m + 1 := rfl
          omega
      simp only [Net.valid, e, Bool.false_and]
    have r3 : chk n.more.valid = 40 := by rw [r2]; rfl
    simp only [netV, r1] at c45
    simp only [r3] at c19
    refine Iso_of (es _ _ _ _) e10 ?_
    simp only [f10, netV]
    simp (disch := first | assumption | omega | (simp only [az]; done)) only [ru, eq_self, if_true, if_false, BEq.rfl, binI, AO.row?, splice, fillL, mmAll, loadV, storeV, zeros, Am.rowAt, Am.part, addOff, Nat.reduceAdd, Nat.reduceMul, Nat.reduceLeDiff, Nat.reduceSub, Nat.reduceLT, Int.reduceEq, Int.reduceLT, Int.reduceLE, Int.reduceGT, Int.reduceGE, Int.reduceAdd, Int.reduceSub, Int.reduceMul, Int.reduceNeg, Int.reduceToNat, reduceCtorEq, reduceIte, lenV_sl H.g, view_sl H.g, scalar_sl H.g, cells_sl H.g, pure_sl H.g, lenV_sl H.p, view_sl H.p, scalar_sl H.p, cells_sl H.p, pure_sl H.p, g0, hr, c55, hk, c51, c45, exOp_call2, hC, gsc.1, gsc.2, psc.1, psc.2, ← hoN, atN, stN, ← hh2, u0, uN, vwM, c19, gUn, decide_true, decide_false, Bool.not_true, bne_self_eq_false]
    simp (disch := first | assumption | omega | (simp only [az]; done)) only [ru, eq_self, if_true, if_false, BEq.rfl, binI, AO.row?, splice, fillL, mmAll, loadV, storeV, zeros, Am.rowAt, Am.part, addOff, Nat.reduceAdd, Nat.reduceMul, Nat.reduceLeDiff, Nat.reduceSub, Nat.reduceLT, Int.reduceEq, Int.reduceLT, Int.reduceLE, Int.reduceGT, Int.reduceGE, Int.reduceAdd, Int.reduceSub, Int.reduceMul, Int.reduceNeg, Int.reduceToNat, reduceCtorEq, reduceIte, lenV_sl H.g, view_sl H.g, scalar_sl H.g, cells_sl H.g, pure_sl H.g, lenV_sl H.p, view_sl H.p, scalar_sl H.p, cells_sl H.p, pure_sl H.p, lenV_sl U1, view_sl U1, scalar_sl U1, cells_sl U1, pure_sl U1, lenV_sl U2, view_sl U2, scalar_sl U2, cells_sl U2, pure_sl U2, u0, hC2, exOp_call2, gsc2.1, gsc2.2, psc2.1, psc2.2, ← hoB, atB, stB, ← hh3, w0, m0, hu1, hu2, A1, ← hh4, A2, yB, ← hh5, GO_mapp, unhN, unhC, setT, setT0, getT, getT0, atT, atT0, gUn]
    refine G_loop_ind (fun m_ ts h mk => ∃ i : Nat, i ≤ n.ps.length ∧ m_ = n.ps.length - i ∧ (∀ y ∈ n.ps.take i, y.a ≠ r ∧ y.b ≠ r) ∧ ts.length = 162 ∧ ts.getD 1 .undef = I r ∧ ts.getD 2 .undef = .ptr 0 0 ∧ ts.getD 5 .undef = I Z ∧ ts.getD 6 .undef = I D ∧ ts.getD 14 .undef = .ptr oB 0 ∧ ts.getD 15 .undef = I i ∧ h[0]? = some (.cells [I n.m, g, p] false) ∧ h[oB]? = some (.cells [I n.m, .ms 4 oQ 0 (n.cut r).hs.length, .ms 2 oP 0 n.ps.length] false) ∧ h[oQ]? = some (.cells ((n.cut r).hs.flatMap Hl.e) false) ∧ h[oP]? = some (.cells ((sk n.ps r i).flatMap Pr.e) false) ∧ oB < h.length ∧ mk = []) ?_ _ _ _ _
      ⟨0, Nat.zero_le _, rfl, fun y hy => by simp at hy, rfl, rfl, rfl, rfl, rfl, rfl, rfl, z0, zB, zQ, zP, by omega, rfl⟩
    rintro m_ ts h mk ih ⟨i, hi', rfl, hne, hl', q1, q2, q5, q6, q14, q15, a0, aB, aQ, aP, lh, rfl⟩
    rw [lit_all hl']
    simp only [lit0, litS, Nat.reduceAdd, q1, q2, q5, q6, q14, q15]
    simp (disch := first | assumption | omega | (simp only [az]; done)) only [ru, eq_self, if_true, if_false, BEq.rfl, binI, AO.row?, splice, fillL, mmAll, loadV, storeV, zeros, Am.rowAt, Am.part, addOff, Nat.reduceAdd, Nat.reduceMul, Nat.reduceLeDiff, Nat.reduceSub, Nat.reduceLT, Int.reduceEq, Int.reduceLT, Int.reduceLE, Int.reduceGT, Int.reduceGE, Int.reduceAdd, Int.reduceSub, Int.reduceMul, Int.reduceNeg, Int.reduceToNat, reduceCtorEq, reduceIte, a0, lenV_sl H.p, view_sl H.p, scalar_sl H.p, cells_sl H.p, pure_sl H.p]
    by_cases hlt : (i : Int) < n.ps.length
    case neg =>
      have ei : i = n.ps.length := by omega
      rw [ei, sk_all] at aP
      have hpp : ∀ y ∈ n.ps, y.a ≠ r ∧ y.b ≠ r := fun y hy => hne y (by rw [ei, List.take_length]; exact hy)
      have G2 := cut_g G hi hpp
      have hv2 := cut_valid hv hi hpp
      have le2 := less_cut G hi hpp O0
      have HC : NetOk (n.cut r) (slV 4 Hl.e (n.cut r).hs) (slV 2 Pr.e (n.cut r).ps) := ⟨⟨slV_is, slV_is⟩, by omega, by show (n.ps.map _).length ≤ 41; rw [List.length_map]; exact sp⟩
      have c51' := fun st => s51 HC hv2 st
      have ep : (n.cut r).ps.length = n.ps.length := by show (n.ps.map _).length = _; rw [List.length_map]
      have neQP : oQ ≠ oP := by
        intro e
        have h1 := (List.getElem?_eq_some_iff.1 wP).1
        omega
      have xC : CpN (n.cut r) h oQ oP (.ms 4 oQ 0 (n.cut r).hs.length) (.ms 2 oP 0 n.ps.length) := ⟨neQP, rfl, by rw [ep], aQ, aP⟩
      have vw := fun st => xC.view st (k := 6)
      have em : (n.cut r).m = n.m := rfl
      refine (⟨_, rfl⟩ : ∃ q, q = lea (n.cut r)).elim fun Z2 hZ2 => ?_
      refine (⟨_, rfl⟩ : ∃ q, q = don (n.cut r)).elim fun D2 hD2 => ?_
      refine (⟨_, rfl⟩ : ∃ q, q = slV 4 Hl.e (n.cut r).hs).elim fun g3 hg3 => ?_
      refine (⟨_, rfl⟩ : ∃ q, q = slV 2 Pr.e (n.cut r).ps).elim fun p3 hp3 => ?_
      rw [← hZ, ← hD, ← hZ2, ← hD2] at le2
      simp only [netV, cpN, ← hZ2, ← hD2, ← hg3, ← hp3, em] at c51' vw
      have n1 : Z2 ≤ Z := le2.1
      have n2 : D2 ≤ D := le2.2
      simp (disch := first | assumption | omega | (simp only [az]; done)) only [ru, eq_self, if_true, if_false, BEq.rfl, binI, AO.row?, splice, fillL, mmAll, loadV, storeV, zeros, Am.rowAt, Am.part, addOff, Nat.reduceAdd, Nat.reduceMul, Nat.reduceLeDiff, Nat.reduceSub, Nat.reduceLT, Int.reduceEq, Int.reduceLT, Int.reduceLE, Int.reduceGT, Int.reduceGE, Int.reduceAdd, Int.reduceSub, Int.reduceMul, Int.reduceNeg, Int.reduceToNat, reduceCtorEq, reduceIte, hlt, a0, aB, vw, c51', n1, n2, gUn, decide_true, s15]
    have hj : i < n.ps.length := by omega
    have ep := elem_pr H.p
    refine (⟨_, rfl⟩ : ∃ x, x = n.ps.getD i default).elim fun x hx => ?_
    refine (⟨_, rfl⟩ : ∃ q, q = h.length).elim fun oH hoH => ?_
    have atH : ∀ X : AO, (h ++ [X])[oH]? = some X := fun X => by rw [hoH]; exact atE
    have stH : ∀ X Y : AO, (h ++ [X]).set oH Y = h ++ [Y] := fun X Y => by rw [hoH]; exact setE
    by_cases ca : x.a = r
    · simp (disch := first | assumption | omega | (simp only [az]; done)) only [ru, eq_self, if_true, if_false, BEq.rfl, binI, AO.row?, splice, fillL, mmAll, loadV, storeV, zeros, Am.rowAt, Am.part, addOff, Nat.reduceAdd, Nat.reduceMul, Nat.reduceLeDiff, Nat.reduceSub, Nat.reduceLT, Int.reduceEq, Int.reduceLT, Int.reduceLE, Int.reduceGT, Int.reduceGE, Int.reduceAdd, Int.reduceSub, Int.reduceMul, Int.reduceNeg, Int.reduceToNat, reduceCtorEq, reduceIte, a0, lenV_sl H.p, view_sl H.p, scalar_sl H.p, cells_sl H.p, pure_sl H.p, ep, hlt, Int.toNat_natCast, ← hx, ← hoH, atH, stH, ca, gUn, decide_true, s15]
    by_cases cb : x.b = r
    · simp (disch := first | assumption | omega | (simp only [az]; done)) only [ru, eq_self, if_true, if_false, BEq.rfl, binI, AO.row?, splice, fillL, mmAll, loadV, storeV, zeros, Am.rowAt, Am.part, addOff, Nat.reduceAdd, Nat.reduceMul, Nat.reduceLeDiff, Nat.reduceSub, Nat.reduceLT, Int.reduceEq, Int.reduceLT, Int.reduceLE, Int.reduceGT, Int.reduceGE, Int.reduceAdd, Int.reduceSub, Int.reduceMul, Int.reduceNeg, Int.reduceToNat, reduceCtorEq, reduceIte, a0, lenV_sl H.p, view_sl H.p, scalar_sl H.p, cells_sl H.p, pure_sl H.p, ep, hlt, Int.toNat_natCast, ← hx, ← hoH, atH, stH, ca, cb, gUn, decide_true, decide_false, s15]
    have hne' : ∀ y ∈ n.ps.take (i + 1), y.a ≠ r ∧ y.b ≠ r := fun y hy => by
      rw [take_snoc (d := default) hj] at hy
      rcases List.mem_append.1 hy with h | h
      · exact hne y h
      · simp only [List.mem_singleton] at h; rw [h, ← hx]; exact ⟨ca, cb⟩
    have xg := G.p x (by rw [hx]; exact getD_mem hj)
    have xb := hpb x (by rw [hx]; exact getD_mem hj)
    have ls : (sk n.ps r i).length = n.ps.length := sk_len
    have pt := pr_put (l := sk n.ps r i) (i := i) (by omega) (shp r x)
    have es : (sk n.ps r i).set i (shp r x) = sk n.ps r (i + 1) := by rw [hx]; rfl
    rw [es] at pt
    have fl : ((sk n.ps r i).flatMap Pr.e).length = n.ps.length * 2 := by rw [flat_len Pr.el, ls]
    refine (⟨_, rfl⟩ : ∃ R, R = (sk n.ps r i).flatMap Pr.e).elim fun R hR => ?_
    rw [← hR] at pt fl aP
    have fit : i * 2 + 2 ≤ R.length := by omega
    have neBP : oB ≠ oP := by
      intro e; have h1 := (List.getElem?_eq_some_iff.1 hN2.p).1; omega
    have neQP : oQ ≠ oP := by
      intro e; have h1 := (List.getElem?_eq_some_iff.1 hN2.p).1; omega
    have lP : oP < h.length := (List.getElem?_eq_some_iff.1 aP).1
    have lQ : oQ < h.length := (List.getElem?_eq_some_iff.1 aQ).1
    have v0 := fun X : AO => (at_ap (m := [X]) (show 0 < h.length by omega)).trans a0
    have vB := fun X : AO => (at_ap (m := [X]) lh).trans aB
    have vQ := fun X : AO => (at_ap (m := [X]) lQ).trans aQ
    have vP := fun X : AO => (at_ap (m := [X]) lP).trans aP
    have fin : ∀ X : AO, ∀ h9, h9 = (h ++ [X]).set oP (.cells ((sk n.ps r (i + 1)).flatMap Pr.e) false) → h9[0]? = some (.cells [I n.m, g, p] false) ∧ h9[oB]? = some (.cells [I n.m, .ms 4 oQ 0 (n.cut r).hs.length, .ms 2 oP 0 n.ps.length] false) ∧ h9[oQ]? = some (.cells ((n.cut r).hs.flatMap Hl.e) false) ∧ h9[oP]? = some (.cells ((sk n.ps r (i + 1)).flatMap Pr.e) false) ∧ oB < h9.length := by
      rintro X h9 rfl
      have o0 : oP ≠ 0 := by omega
      refine ⟨by rw [List.getElem?_set_ne o0]; exact v0 X, by rw [List.getElem?_set_ne (Ne.symm neBP)]; exact vB X, by rw [List.getElem?_set_ne (Ne.symm neQP)]; exact vQ X, by rw [List.getElem?_set_self (by simp; omega)], by simp; omega⟩
    by_cases ga : x.a > r
    · by_cases gb : x.b > r
      · have e : shp r x = ⟨x.a - 1, x.b - 1⟩ := by unfold shp sh; rw [if_pos ga, if_pos gb]
        rw [e] at pt
        have pt' : R.take (i * 2) ++ [I (x.a - 1), I (x.b - 1)] ++ R.drop (i * 2 + 2) = (sk n.ps r (i + 1)).flatMap Pr.e := pt
        simp (disch := first | assumption | omega | (simp only [az]; done)) only [ru, eq_self, if_true, if_false, BEq.rfl, binI, AO.row?, splice, fillL, mmAll, loadV, storeV, zeros, Am.rowAt, Am.part, addOff, Nat.reduceAdd, Nat.reduceMul, Nat.reduceLeDiff, Nat.reduceSub, Nat.reduceLT, Int.reduceEq, Int.reduceLT, Int.reduceLE, Int.reduceGT, Int.reduceGE, Int.reduceAdd, Int.reduceSub, Int.reduceMul, Int.reduceNeg, Int.reduceToNat, reduceCtorEq, reduceIte, a0, lenV_sl H.p, view_sl H.p, scalar_sl H.p, cells_sl H.p, pure_sl H.p, ep, hlt, Int.toNat_natCast, Nat.zero_add, ← hx, ← hoH, atH, stH, ca, cb, ga, gb, vB, vP, fit, pt', gUn, decide_true, decide_false]
        have f := fin (AO.cells [I (x.a - 1), I (x.b - 1)] false) _ rfl
        exact ih (n.ps.length - (i + 1)) _ _ _ (by omega) ⟨i + 1, by omega, rfl, hne', rfl, rfl, rfl, rfl, rfl, rfl, rfl, f.1, f.2.1, f.2.2.1, f.2.2.2.1, f.2.2.2.2, rfl⟩
      · have e : shp r x = ⟨x.a - 1, x.b⟩ := by unfold shp sh; rw [if_pos ga, if_neg gb]
        rw [e] at pt
        have pt' : R.take (i * 2) ++ [I (x.a - 1), I x.b] ++ R.drop (i * 2 + 2) = (sk n.ps r (i + 1)).flatMap Pr.e := pt
        simp (disch := first | assumption | omega | (simp only [az]; done)) only [ru, eq_self, if_true, if_false, BEq.rfl, binI, AO.row?, splice, fillL, mmAll, loadV, storeV, zeros, Am.rowAt, Am.part, addOff, Nat.reduceAdd, Nat.reduceMul, Nat.reduceLeDiff, Nat.reduceSub, Nat.reduceLT, Int.reduceEq, Int.reduceLT, Int.reduceLE, Int.reduceGT, Int.reduceGE, Int.reduceAdd, Int.reduceSub, Int.reduceMul, Int.reduceNeg, Int.reduceToNat, reduceCtorEq, reduceIte, a0, lenV_sl H.p, view_sl H.p, scalar_sl H.p, cells_sl H.p, pure_sl H.p, ep, hlt, Int.toNat_natCast, Nat.zero_add, ← hx, ← hoH, atH, stH, ca, cb, ga, gb, vB, vP, fit, pt', gUn, decide_true, decide_false]
        have f := fin (AO.cells [I (x.a - 1), I x.b] false) _ rfl
        exact ih (n.ps.length - (i + 1)) _ _ _ (by omega) ⟨i + 1, by omega, rfl, hne', rfl, rfl, rfl, rfl, rfl, rfl, rfl, f.1, f.2.1, f.2.2.1, f.2.2.2.1, f.2.2.2.2, rfl⟩
    · by_cases gb : x.b > r
      · have e : shp r x = ⟨x.a, x.b - 1⟩ := by unfold shp sh; rw [if_neg ga, if_pos gb]
        rw [e] at pt
        have pt' : R.take (i * 2) ++ [I x.a, I (x.b - 1)] ++ R.drop (i * 2 + 2) = (sk n.ps r (i + 1)).flatMap Pr.e := pt
        simp (disch := first | assumption | omega | (simp only [az]; done)) only [ru, eq_self, if_true, if_false, BEq.rfl, binI, AO.row?, splice, fillL, mmAll, loadV, storeV, zeros, Am.rowAt, Am.part, addOff, Nat.reduceAdd, Nat.reduceMul, Nat.reduceLeDiff, Nat.reduceSub, Nat.reduceLT, Int.reduceEq, Int.reduceLT, Int.reduceLE, Int.reduceGT, Int.reduceGE, Int.reduceAdd, Int.reduceSub, Int.reduceMul, Int.reduceNeg, Int.reduceToNat, reduceCtorEq, reduceIte, a0, lenV_sl H.p, view_sl H.p, scalar_sl H.p, cells_sl H.p, pure_sl H.p, ep, hlt, Int.toNat_natCast, Nat.zero_add, ← hx, ← hoH, atH, stH, ca, cb, ga, gb, vB, vP, fit, pt', gUn, decide_true, decide_false]
        have f := fin (AO.cells [I x.a, I (x.b - 1)] false) _ rfl
        exact ih (n.ps.length - (i + 1)) _ _ _ (by omega) ⟨i + 1, by omega, rfl, hne', rfl, rfl, rfl, rfl, rfl, rfl, rfl, f.1, f.2.1, f.2.2.1, f.2.2.2.1, f.2.2.2.2, rfl⟩
      · have e : shp r x = ⟨x.a, x.b⟩ := by unfold shp sh; rw [if_neg ga, if_neg gb]
        rw [e] at pt
        have pt' : R.take (i * 2) ++ [I x.a, I x.b] ++ R.drop (i * 2 + 2) = (sk n.ps r (i + 1)).flatMap Pr.e := pt
        simp (disch := first | assumption | omega | (simp only [az]; done)) only [ru, eq_self, if_true, if_false, BEq.rfl, binI, AO.row?, splice, fillL, mmAll, loadV, storeV, zeros, Am.rowAt, Am.part, addOff, Nat.reduceAdd, Nat.reduceMul, Nat.reduceLeDiff, Nat.reduceSub, Nat.reduceLT, Int.reduceEq, Int.reduceLT, Int.reduceLE, Int.reduceGT, Int.reduceGE, Int.reduceAdd, Int.reduceSub, Int.reduceMul, Int.reduceNeg, Int.reduceToNat, reduceCtorEq, reduceIte, a0, lenV_sl H.p, view_sl H.p, scalar_sl H.p, cells_sl H.p, pure_sl H.p, ep, hlt, Int.toNat_natCast, Nat.zero_add, ← hx, ← hoH, atH, stH, ca, cb, ga, gb, vB, vP, fit, pt', gUn, decide_true, decide_false]
        have f := fin (AO.cells [I x.a, I x.b] false) _ rfl
        exact ih (n.ps.length - (i + 1)) _ _ _ (by omega) ⟨i + 1, by omega, rfl, hne', rfl, rfl, rfl, rfl, rfl, rfl, rfl, f.1, f.2.1, f.2.2.1, f.2.2.2.1, f.2.2.2.2, rfl⟩
  have r1 : morR n = .tup [I (lea n - lea n.more), I 0] := by unfold morR; rw [hv, if_neg h3m]; rfl
  have hvm := more_valid hv h3m
  have GM := more_g G h3m
  have r3 : chk n.more.valid = 0 := by rw [hvm]; rfl
  have c51m := fun st => s51 HM hvm st
  have lem := less_same (n' := n.more) G (by show n.m ≤ n.m + 1; omega) rfl (fun _ h => h) O0
  have b2 := lea_bd GM (more_O O0)
  obtain ⟨ZM, hZM⟩ : ∃ q, q = lea n.more := ⟨_, rfl⟩
  obtain ⟨DM, hDM⟩ : ∃ q, q = don n.more := ⟨_, rfl⟩
  rw [← hZ] at b1
  rw [← hZM] at b2
  rw [← hZ, ← hD, ← hZM, ← hDM] at lem
  have emm : n.more.m = n.m + 1 := rfl
  simp only [netV, r1, ← hZ, ← hZM] at c45
  simp only [netV, ← hgc, ← hpc, emm, ← hZM, ← hDM] at c51m
  simp only [r3] at c19
  have n1 : ¬ ZM > Z := by have := lem.1; omega
  have n2 : ¬ DM > D := by have := lem.2; omega
  refine Iso_of (es _ _ _ _) e10 ?_
  simp only [f10, netV]
  simp (disch := first | assumption | omega | (simp only [az]; done)) only [ru, eq_self, if_true, if_false, BEq.rfl, binI, AO.row?, splice, fillL, mmAll, loadV, storeV, zeros, Am.rowAt, Am.part, addOff, Nat.reduceAdd, Nat.reduceMul, Nat.reduceLeDiff, Nat.reduceSub, Nat.reduceLT, Int.reduceEq, Int.reduceLT, Int.reduceLE, Int.reduceGT, Int.reduceGE, Int.reduceAdd, Int.reduceSub, Int.reduceMul, Int.reduceNeg, Int.reduceToNat, reduceCtorEq, reduceIte, lenV_sl H.g, view_sl H.g, scalar_sl H.g, cells_sl H.g, pure_sl H.g, lenV_sl H.p, view_sl H.p, scalar_sl H.p, cells_sl H.p, pure_sl H.p, g0, hr, c55, hk, c51, c45, exOp_call2, hC, gsc.1, gsc.2, psc.1, psc.2, ← hoN, atN, stN, ← hh2, u0, uN, vwM, c19, c51m, n1, n2, beq_self_eq_true, gUn, decide_true, decide_false, Bool.not_true, bne_self_eq_false]
  simp (disch := first | assumption | omega | (simp only [az]; done)) only [ru, eq_self, if_true, if_false, BEq.rfl, binI, AO.row?, splice, fillL, mmAll, loadV, storeV, zeros, Am.rowAt, Am.part, addOff, Nat.reduceAdd, Nat.reduceMul, Nat.reduceLeDiff, Nat.reduceSub, Nat.reduceLT, Int.reduceEq, Int.reduceLT, Int.reduceLE, Int.reduceGT, Int.reduceGE, Int.reduceAdd, Int.reduceSub, Int.reduceMul, Int.reduceNeg, Int.reduceToNat, reduceCtorEq, reduceIte, lenV_sl H.g, view_sl H.g, scalar_sl H.g, cells_sl H.g, pure_sl H.g, lenV_sl H.p, view_sl H.p, scalar_sl H.p, cells_sl H.p, pure_sl H.p, lenV_sl U1, view_sl U1, scalar_sl U1, cells_sl U1, pure_sl U1, lenV_sl U2, view_sl U2, scalar_sl U2, cells_sl U2, pure_sl U2, u0, hC2, exOp_call2, gsc2.1, gsc2.2, psc2.1, psc2.2, ← hoB, atB, stB, ← hh3, w0, m0, hu1, hu2, A1, ← hh4, A2, yB, ← hh5, GO_mapp, unhN, unhC, setT, setT0, getT, getT0, atT, atT0, gUn]
  refine G_loop_ind (fun m_ ts h mk => ∃ i : Nat, i ≤ n.ps.length ∧ m_ = n.ps.length - i ∧ (∀ y ∈ n.ps.take i, y.a ≠ r ∧ y.b ≠ r) ∧ ts.length = 162 ∧ ts.getD 1 .undef = I r ∧ ts.getD 2 .undef = .ptr 0 0 ∧ ts.getD 5 .undef = I Z ∧ ts.getD 6 .undef = I D ∧ ts.getD 14 .undef = .ptr oB 0 ∧ ts.getD 15 .undef = I i ∧ h[0]? = some (.cells [I n.m, g, p] false) ∧ h[oB]? = some (.cells [I n.m, .ms 4 oQ 0 (n.cut r).hs.length, .ms 2 oP 0 n.ps.length] false) ∧ h[oQ]? = some (.cells ((n.cut r).hs.flatMap Hl.e) false) ∧ h[oP]? = some (.cells ((sk n.ps r i).flatMap Pr.e) false) ∧ oB < h.length ∧ mk = []) ?_ _ _ _ _
    ⟨0, Nat.zero_le _, rfl, fun y hy => by simp at hy, rfl, rfl, rfl, rfl, rfl, rfl, rfl, z0, zB, zQ, zP, by omega, rfl⟩
  rintro m_ ts h mk ih ⟨i, hi', rfl, hne, hl', q1, q2, q5, q6, q14, q15, a0, aB, aQ, aP, lh, rfl⟩
  rw [lit_all hl']
  simp only [lit0, litS, Nat.reduceAdd, q1, q2, q5, q6, q14, q15]
  simp (disch := first | assumption | omega | (simp only [az]; done)) only [ru, eq_self, if_true, if_false, BEq.rfl, binI, AO.row?, splice, fillL, mmAll, loadV, storeV, zeros, Am.rowAt, Am.part, addOff, Nat.reduceAdd, Nat.reduceMul, Nat.reduceLeDiff, Nat.reduceSub, Nat.reduceLT, Int.reduceEq, Int.reduceLT, Int.reduceLE, Int.reduceGT, Int.reduceGE, Int.reduceAdd, Int.reduceSub, Int.reduceMul, Int.reduceNeg, Int.reduceToNat, reduceCtorEq, reduceIte, a0, lenV_sl H.p, view_sl H.p, scalar_sl H.p, cells_sl H.p, pure_sl H.p]
  by_cases hlt : (i : Int) < n.ps.length
  case neg =>
    have ei : i = n.ps.length := by omega
    rw [ei, sk_all] at aP
    have hpp : ∀ y ∈ n.ps, y.a ≠ r ∧ y.b ≠ r := fun y hy => hne y (by rw [ei, List.take_length]; exact hy)
    have G2 := cut_g G hi hpp
    have hv2 := cut_valid hv hi hpp
    have le2 := less_cut G hi hpp O0
    have HC : NetOk (n.cut r) (slV 4 Hl.e (n.cut r).hs) (slV 2 Pr.e (n.cut r).ps) := ⟨⟨slV_is, slV_is⟩, by omega, by show (n.ps.map _).length ≤ 41; rw [List.length_map]; exact sp⟩
    have c51' := fun st => s51 HC hv2 st
    have ep : (n.cut r).ps.length = n.ps.length := by show (n.ps.map _).length = _; rw [List.length_map]
    have neQP : oQ ≠ oP := by
      intro e
      have h1 := (List.getElem?_eq_some_iff.1 wP).1
      omega
    have xC : CpN (n.cut r) h oQ oP (.ms 4 oQ 0 (n.cut r).hs.length) (.ms 2 oP 0 n.ps.length) := ⟨neQP, rfl, by rw [ep], aQ, aP⟩
    have vw := fun st => xC.view st (k := 6)
    have em : (n.cut r).m = n.m := rfl
    refine (⟨_, rfl⟩ : ∃ q, q = lea (n.cut r)).elim fun Z2 hZ2 => ?_
    refine (⟨_, rfl⟩ : ∃ q, q = don (n.cut r)).elim fun D2 hD2 => ?_
    refine (⟨_, rfl⟩ : ∃ q, q = slV 4 Hl.e (n.cut r).hs).elim fun g3 hg3 => ?_
    refine (⟨_, rfl⟩ : ∃ q, q = slV 2 Pr.e (n.cut r).ps).elim fun p3 hp3 => ?_
    rw [← hZ, ← hD, ← hZ2, ← hD2] at le2
    simp only [netV, cpN, ← hZ2, ← hD2, ← hg3, ← hp3, em] at c51' vw
    have n1 : Z2 ≤ Z := le2.1
    have n2 : D2 ≤ D := le2.2
    simp (disch := first | assumption | omega | (simp only [az]; done)) only [ru, eq_self, if_true, if_false, BEq.rfl, binI, AO.row?, splice, fillL, mmAll, loadV, storeV, zeros, Am.rowAt, Am.part, addOff, Nat.reduceAdd, Nat.reduceMul, Nat.reduceLeDiff, Nat.reduceSub, Nat.reduceLT, Int.reduceEq, Int.reduceLT, Int.reduceLE, Int.reduceGT, Int.reduceGE, Int.reduceAdd, Int.reduceSub, Int.reduceMul, Int.reduceNeg, Int.reduceToNat, reduceCtorEq, reduceIte, hlt, a0, aB, vw, c51', n1, n2, gUn, decide_true, s15]
  have hj : i < n.ps.length := by omega
  have ep := elem_pr H.p
  refine (⟨_, rfl⟩ : ∃ x, x = n.ps.getD i default).elim fun x hx => ?_
  refine (⟨_, rfl⟩ : ∃ q, q = h.length).elim fun oH hoH => ?_
  have atH : ∀ X : AO, (h ++ [X])[oH]? = some X := fun X => by rw [hoH]; exact atE
  have stH : ∀ X Y : AO, (h ++ [X]).set oH Y = h ++ [Y] := fun X Y => by rw [hoH]; exact setE
  by_cases ca : x.a = r
  · simp (disch := first | assumption | omega | (simp only [az]; done)) only [ru, eq_self, if_true, if_false, BEq.rfl, binI, AO.row?, splice, fillL, mmAll, loadV, storeV, zeros, Am.rowAt, Am.part, addOff, Nat.reduceAdd, Nat.reduceMul, Nat.reduceLeDiff, Nat.reduceSub, Nat.reduceLT, Int.reduceEq, Int.reduceLT, Int.reduceLE, Int.reduceGT, Int.reduceGE, Int.reduceAdd, Int.reduceSub, Int.reduceMul, Int.reduceNeg, Int.reduceToNat, reduceCtorEq, reduceIte, a0, lenV_sl H.p, view_sl H.p, scalar_sl H.p, cells_sl H.p, pure_sl H.p, ep, hlt, Int.toNat_natCast, ← hx, ← hoH, atH, stH, ca, gUn, decide_true, s15]
  by_cases cb : x.b = r
  · simp (disch := first | assumption | omega | (simp only [az]; done)) only [ru, eq_self, if_true, if_false, BEq.rfl, binI, AO.row?, splice, fillL, mmAll, loadV, storeV, zeros, Am.rowAt, Am.part, addOff, Nat.reduceAdd, Nat.reduceMul, Nat.reduceLeDiff, Nat.reduceSub, Nat.reduceLT, Int.reduceEq, Int.reduceLT, Int.reduceLE, Int.reduceGT, Int.reduceGE, Int.reduceAdd, Int.reduceSub, Int.reduceMul, Int.reduceNeg, Int.reduceToNat, reduceCtorEq, reduceIte, a0, lenV_sl H.p, view_sl H.p, scalar_sl H.p, cells_sl H.p, pure_sl H.p, ep, hlt, Int.toNat_natCast, ← hx, ← hoH, atH, stH, ca, cb, gUn, decide_true, decide_false, s15]
  have hne' : ∀ y ∈ n.ps.take (i + 1), y.a ≠ r ∧ y.b ≠ r := fun y hy => by
    rw [take_snoc (d := default) hj] at hy
    rcases List.mem_append.1 hy with h | h
    · exact hne y h
    · simp only [List.mem_singleton] at h; rw [h, ← hx]; exact ⟨ca, cb⟩
  have xg := G.p x (by rw [hx]; exact getD_mem hj)
  have xb := hpb x (by rw [hx]; exact getD_mem hj)
  have ls : (sk n.ps r i).length = n.ps.length := sk_len
  have pt := pr_put (l := sk n.ps r i) (i := i) (by omega) (shp r x)
  have es : (sk n.ps r i).set i (shp r x) = sk n.ps r (i + 1) := by rw [hx]; rfl
  rw [es] at pt
  have fl : ((sk n.ps r i).flatMap Pr.e).length = n.ps.length * 2 := by rw [flat_len Pr.el, ls]
  refine (⟨_, rfl⟩ : ∃ R, R = (sk n.ps r i).flatMap Pr.e).elim fun R hR => ?_
  rw [← hR] at pt fl aP
  have fit : i * 2 + 2 ≤ R.length := by omega
  have neBP : oB ≠ oP := by
    intro e; have h1 := (List.getElem?_eq_some_iff.1 hN2.p).1; omega
  have neQP : oQ ≠ oP := by
    intro e; have h1 := (List.getElem?_eq_some_iff.1 hN2.p).1; omega
  have lP : oP < h.length := (List.getElem?_eq_some_iff.1 aP).1
  have lQ : oQ < h.length := (List.getElem?_eq_some_iff.1 aQ).1
  have v0 := fun X : AO => (at_ap (m := [X]) (show 0 < h.length by omega)).trans a0
  have vB := fun X : AO => (at_ap (m := [X]) lh).trans aB
  have vQ := fun X : AO => (at_ap (m := [X]) lQ).trans aQ
  have vP := fun X : AO => (at_ap (m := [X]) lP).trans aP
  have fin : ∀ X : AO, ∀ h9, h9 = (h ++ [X]).set oP (.cells ((sk n.ps r (i + 1)).flatMap Pr.e) false) → h9[0]? = some (.cells [I n.m, g, p] false) ∧ h9[oB]? = some (.cells [I n.m, .ms 4 oQ 0 (n.cut r).hs.length, .ms 2 oP 0 n.ps.length] false) ∧ h9[oQ]? = some (.cells ((n.cut r).hs.flatMap Hl.e) false) ∧ h9[oP]? = some (.cells ((sk n.ps r (i + 1)).flatMap Pr.e) false) ∧ oB < h9.length := by
    rintro X h9 rfl
    have o0 : oP ≠ 0 := by omega
    refine ⟨by rw [List.getElem?_set_ne o0]; exact v0 X, by rw [List.getElem?_set_ne (Ne.symm neBP)]; exact vB X, by rw [List.getElem?_set_ne (Ne.symm neQP)]; exact vQ X, by rw [List.getElem?_set_self (by simp; omega)], by simp; omega⟩
  by_cases ga : x.a > r
  · by_cases gb : x.b > r
    · have e : shp r x = ⟨x.a - 1, x.b - 1⟩ := by unfold shp sh; rw [if_pos ga, if_pos gb]
      rw [e] at pt
      have pt' : R.take (i * 2) ++ [I (x.a - 1), I (x.b - 1)] ++ R.drop (i * 2 + 2) = (sk n.ps r (i + 1)).flatMap Pr.e := pt
      simp (disch := first | assumption | omega | (simp only [az]; done)) only [ru, eq_self, if_true, if_false, BEq.rfl, binI, AO.row?, splice, fillL, mmAll, loadV, storeV, zeros, Am.rowAt, Am.part, addOff, Nat.reduceAdd, Nat.reduceMul, Nat.reduceLeDiff, Nat.reduceSub, Nat.reduceLT, Int.reduceEq, Int.reduceLT, Int.reduceLE, Int.reduceGT, Int.reduceGE, Int.reduceAdd, Int.reduceSub, Int.reduceMul, Int.reduceNeg, Int.reduceToNat, reduceCtorEq, reduceIte, a0, lenV_sl H.p, view_sl H.p, scalar_sl H.p, cells_sl H.p, pure_sl H.p, ep, hlt, Int.toNat_natCast, Nat.zero_add, ← hx, ← hoH, atH, stH, ca, cb, ga, gb, vB, vP, fit, pt', gUn, decide_true, decide_false]
      have f := fin (AO.cells [I (x.a - 1), I (x.b - 1)] false) _ rfl
      exact ih (n.ps.length - (i + 1)) _ _ _ (by omega) ⟨i + 1, by omega, rfl, hne', rfl, rfl, rfl, rfl, rfl, rfl, rfl, f.1, f.2.1, f.2.2.1, f.2.2.2.1, f.2.2.2.2, rfl⟩
    · have e : shp r x = ⟨x.a - 1, x.b⟩ := by unfold shp sh; rw [if_pos ga, if_neg gb]
      rw [e] at pt
      have pt' : R.take (i * 2) ++ [I (x.a - 1), I x.b] ++ R.drop (i * 2 + 2) = (sk n.ps r (i + 1)).flatMap Pr.e := pt
      simp (disch := first | assumption | omega | (simp only [az]; done)) only [ru, eq_self, if_true, if_false, BEq.rfl, binI, AO.row?, splice, fillL, mmAll, loadV, storeV, zeros, Am.rowAt, Am.part, addOff, Nat.reduceAdd, Nat.reduceMul, Nat.reduceLeDiff, Nat.reduceSub, Nat.reduceLT, Int.reduceEq, Int.reduceLT, Int.reduceLE, Int.reduceGT, Int.reduceGE, Int.reduceAdd, Int.reduceSub, Int.reduceMul, Int.reduceNeg, Int.reduceToNat, reduceCtorEq, reduceIte, a0, lenV_sl H.p, view_sl H.p, scalar_sl H.p, cells_sl H.p, pure_sl H.p, ep, hlt, Int.toNat_natCast, Nat.zero_add, ← hx, ← hoH, atH, stH, ca, cb, ga, gb, vB, vP, fit, pt', gUn, decide_true, decide_false]
      have f := fin (AO.cells [I (x.a - 1), I x.b] false) _ rfl
      exact ih (n.ps.length - (i + 1)) _ _ _ (by omega) ⟨i + 1, by omega, rfl, hne', rfl, rfl, rfl, rfl, rfl, rfl, rfl, f.1, f.2.1, f.2.2.1, f.2.2.2.1, f.2.2.2.2, rfl⟩
  · by_cases gb : x.b > r
    · have e : shp r x = ⟨x.a, x.b - 1⟩ := by unfold shp sh; rw [if_neg ga, if_pos gb]
      rw [e] at pt
      have pt' : R.take (i * 2) ++ [I x.a, I (x.b - 1)] ++ R.drop (i * 2 + 2) = (sk n.ps r (i + 1)).flatMap Pr.e := pt
      simp (disch := first | assumption | omega | (simp only [az]; done)) only [ru, eq_self, if_true, if_false, BEq.rfl, binI, AO.row?, splice, fillL, mmAll, loadV, storeV, zeros, Am.rowAt, Am.part, addOff, Nat.reduceAdd, Nat.reduceMul, Nat.reduceLeDiff, Nat.reduceSub, Nat.reduceLT, Int.reduceEq, Int.reduceLT, Int.reduceLE, Int.reduceGT, Int.reduceGE, Int.reduceAdd, Int.reduceSub, Int.reduceMul, Int.reduceNeg, Int.reduceToNat, reduceCtorEq, reduceIte, a0, lenV_sl H.p, view_sl H.p, scalar_sl H.p, cells_sl H.p, pure_sl H.p, ep, hlt, Int.toNat_natCast, Nat.zero_add, ← hx, ← hoH, atH, stH, ca, cb, ga, gb, vB, vP, fit, pt', gUn, decide_true, decide_false]
      have f := fin (AO.cells [I x.a, I (x.b - 1)] false) _ rfl
      exact ih (n.ps.length - (i + 1)) _ _ _ (by omega) ⟨i + 1, by omega, rfl, hne', rfl, rfl, rfl, rfl, rfl, rfl, rfl, f.1, f.2.1, f.2.2.1, f.2.2.2.1, f.2.2.2.2, rfl⟩
    · have e : shp r x = ⟨x.a, x.b⟩ := by unfold shp sh; rw [if_neg ga, if_neg gb]
      rw [e] at pt
      have pt' : R.take (i * 2) ++ [I x.a, I x.b] ++ R.drop (i * 2 + 2) = (sk n.ps r (i + 1)).flatMap Pr.e := pt
      simp (disch := first | assumption | omega | (simp only [az]; done)) only [ru, eq_self, if_true, if_false, BEq.rfl, binI, AO.row?, splice, fillL, mmAll, loadV, storeV, zeros, Am.rowAt, Am.part, addOff, Nat.reduceAdd, Nat.reduceMul, Nat.reduceLeDiff, Nat.reduceSub, Nat.reduceLT, Int.reduceEq, Int.reduceLT, Int.reduceLE, Int.reduceGT, Int.reduceGE, Int.reduceAdd, Int.reduceSub, Int.reduceMul, Int.reduceNeg, Int.reduceToNat, reduceCtorEq, reduceIte, a0, lenV_sl H.p, view_sl H.p, scalar_sl H.p, cells_sl H.p, pure_sl H.p, ep, hlt, Int.toNat_natCast, Nat.zero_add, ← hx, ← hoH, atH, stH, ca, cb, ga, gb, vB, vP, fit, pt', gUn, decide_true, decide_false]
      have f := fin (AO.cells [I x.a, I x.b] false) _ rfl
      exact ih (n.ps.length - (i + 1)) _ _ _ (by omega) ⟨i + 1, by omega, rfl, hne', rfl, rfl, rfl, rfl, rfl, rfl, rfl, f.1, f.2.1, f.2.2.1, f.2.2.2.1, f.2.2.2.2, rfl⟩
end
end Go.Proofs.Ytmmibahjjeldgaa.S

