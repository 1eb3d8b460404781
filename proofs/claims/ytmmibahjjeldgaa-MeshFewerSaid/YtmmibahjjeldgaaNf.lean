/-
The law of fewer fish.
-/
import Derived.Test.YtmmibahjjeldgaaNe
namespace Go.Proofs.Ytmmibahjjeldgaa.S
open Go Go.Am Go.Proofs.Ytmmibahjjeldgaa.T
set_option maxRecDepth 100000
set_option linter.unusedSimpArgs false
set_option linter.unusedVariables false
attribute [local irreducible] Go.Am.G Go.Am.GO Go.Am.GG Go.Am.GC Go.Am.GP Go.Am.GX

/-- a net of which a hole has another rate -/
def Net.rate (n : Net) (i : Nat) (lo hi : Int) : Net := ⟨n.m, n.hs.set i ⟨(n.hs.getD i default).f, lo, hi, (n.hs.getD i default).h⟩, n.ps⟩
section
variable {n : Net} {g p : AV} {l : List Int} {v : AV} {i : Nat} {lo hi : Int}
theorem rate_at (hi' : i < n.hs.length) (j : Nat) : ((n.rate i lo hi).hs.getD j default) = if j = i then ⟨(n.hs.getD i default).f, lo, hi, (n.hs.getD i default).h⟩ else n.hs.getD j default := by
  show (n.hs.set i _).getD j default = _
  simp only [List.getD_eq_getElem?_getD, List.getElem?_set]
  by_cases c : i = j
  · subst c; rw [if_pos rfl, if_pos rfl, if_pos hi']; rfl
  · rw [if_neg c, if_neg (fun e => c e.symm)]
theorem rates (hi' : i < n.hs.length) (h1 : (n.hs.getD i default).lo ≤ lo) (h2 : lo ≤ hi) (h3 : hi ≤ (n.hs.getD i default).hi) (G : NetG n) : Rates n (n.rate i lo hi) where
  m := rfl
  p := rfl
  l := by show (n.hs.set i _).length = _; rw [List.length_set]
  h := fun j => by
    rw [rate_at hi']
    split
    · rename_i e; subst e; exact ⟨rfl, rfl⟩
    · exact ⟨rfl, rfl⟩
  r := fun x x0 x1 => by
    have a := G.h.at x
    unfold loR hiR
    rw [rate_at hi']
    split
    · rename_i e; rw [e]; exact ⟨h1, h2, h3⟩
    · exact ⟨Int.le_refl _, by omega, Int.le_refl _⟩
theorem rate_g (hi' : i < n.hs.length) (h1 : (n.hs.getD i default).lo ≤ lo) (h2 : lo ≤ hi) (h3 : hi ≤ (n.hs.getD i default).hi) (G : NetG n) : NetG (n.rate i lo hi) where
  h := ⟨by show (n.hs.set i _).length ≤ 6; rw [List.length_set]; exact G.h.le, fun x hx => by
    obtain ⟨j, hj, rfl⟩ := mem_getD (d := default) hx
    have hj' : j < n.hs.length := by have : j < (n.hs.set i _).length := hj; rwa [List.length_set] at this
    have a := G.h.h _ (getD_mem hj')
    have b := G.h.h _ (getD_mem hi')
    rw [rate_at hi']
    split
    · exact ⟨b.1, b.2.1, by show 0 ≤ lo; omega, h2, by show hi ≤ 20; omega, b.2.2.2.2.2⟩
    · exact a⟩
  m1 := G.m1
  m2 := G.m2
  p := fun q hq => by have := G.p q hq; show 0 ≤ q.a ∧ q.a < (n.hs.set i _).length; rw [List.length_set]; exact this
theorem rate_valid (hi' : i < n.hs.length) (h1 : (n.hs.getD i default).lo ≤ lo) (h2 : lo ≤ hi) (h3 : hi ≤ (n.hs.getD i default).hi) (hv : n.valid = true) : (n.rate i lo hi).valid = true := by
  obtain ⟨G, hp, hb, l, O⟩ := valid_ok hv
  have G2 := rate_g hi' h1 h2 h3 G
  have T := rates hi' h1 h2 h3 G
  have el : (n.rate i lo hi).hs.length = n.hs.length := T.l
  have hO : isO (n.rate i lo hi) l := ⟨by rw [el]; exact O.1, by rw [el]; exact O.2⟩
  simp only [Net.valid, Bool.and_eq_true, decide_eq_true_eq, List.all_eq_true]
  refine ⟨⟨⟨⟨⟨inR_iff.2 ⟨G2.m1, G2.m2⟩, G2.h.le⟩, hp⟩, fun x hx => ?_⟩, fun q hq => ?_⟩, fun e => ords_ne hO (List.eq_nil_of_length_eq_zero e)⟩
  · have := G2.h.h x hx
    simp only [holOk, Bool.and_eq_true, inR_iff]; omega
  · have a := G2.p q hq
    have b := hb q hq
    simp only [parOk, Bool.and_eq_true, inR_iff]
    rw [el] at a ⊢; omega
set_option maxHeartbeats 8000000 in
theorem s11 (H0 : NetIn n g p) (k a b : Int) (V : IsSl 1 intL l v) (st : Bool) : Iso E 11 [netV n g p, .agg [I k, I a, I b], v] st = some (Bo true) := by
  have g0 := fun st => s49' H0 4 st
  simp only [netV] at g0
  cases hr : rdyB n 4
  case false =>
    refine Iso_of (es _ _ _ _) e11 ?_
    simp only [f11, netV]
    simp (disch := first | assumption | omega | (simp only [az]; done)) only [ru, eq_self, if_true, if_false, BEq.rfl, binI, AO.row?, splice, fillL, mmAll, loadV, storeV, zeros, Am.rowAt, Am.part, addOff, Nat.reduceAdd, Nat.reduceMul, Nat.reduceLeDiff, Nat.reduceSub, Nat.reduceLT, Int.reduceEq, Int.reduceLT, Int.reduceLE, Int.reduceGT, Int.reduceGE, Int.reduceAdd, Int.reduceSub, Int.reduceMul, Int.reduceNeg, Int.reduceToNat, reduceCtorEq, reduceIte, lenV_sl H0.g, view_sl H0.g, scalar_sl H0.g, cells_sl H0.g, pure_sl H0.g, lenV_sl H0.p, view_sl H0.p, scalar_sl H0.p, cells_sl H0.p, pure_sl H0.p, lenV_sl V, view_sl V, scalar_sl V, cells_sl V, pure_sl V, g0, hr, gUn, Bool.not_false, s15]
  obtain ⟨H, hv⟩ := rdy_ok H0 hr
  have eh := elem_hl H.g
  by_cases hl0 : (l.length : Int) > 40
  · refine Iso_of (es _ _ _ _) e11 ?_
    simp only [f11, netV]
    simp (disch := first | assumption | omega | (simp only [az]; done)) only [ru, eq_self, if_true, if_false, BEq.rfl, binI, AO.row?, splice, fillL, mmAll, loadV, storeV, zeros, Am.rowAt, Am.part, addOff, Nat.reduceAdd, Nat.reduceMul, Nat.reduceLeDiff, Nat.reduceSub, Nat.reduceLT, Int.reduceEq, Int.reduceLT, Int.reduceLE, Int.reduceGT, Int.reduceGE, Int.reduceAdd, Int.reduceSub, Int.reduceMul, Int.reduceNeg, Int.reduceToNat, reduceCtorEq, reduceIte, lenV_sl H0.g, view_sl H0.g, scalar_sl H0.g, cells_sl H0.g, pure_sl H0.g, lenV_sl H0.p, view_sl H0.p, scalar_sl H0.p, cells_sl H0.p, pure_sl H0.p, lenV_sl V, view_sl V, scalar_sl V, cells_sl V, pure_sl V, g0, hr, hl0, gUn, decide_true, Bool.not_true, s15]
  have c55 := fun st => s55 H k st
  simp only [netV] at c55
  cases hk : inR k 0 (n.hs.length - 1)
  · refine Iso_of (es _ _ _ _) e11 ?_
    simp only [f11, netV]
    simp (disch := first | assumption | omega | (simp only [az]; done)) only [ru, eq_self, if_true, if_false, BEq.rfl, binI, AO.row?, splice, fillL, mmAll, loadV, storeV, zeros, Am.rowAt, Am.part, addOff, Nat.reduceAdd, Nat.reduceMul, Nat.reduceLeDiff, Nat.reduceSub, Nat.reduceLT, Int.reduceEq, Int.reduceLT, Int.reduceLE, Int.reduceGT, Int.reduceGE, Int.reduceAdd, Int.reduceSub, Int.reduceMul, Int.reduceNeg, Int.reduceToNat, reduceCtorEq, reduceIte, lenV_sl H0.g, view_sl H0.g, scalar_sl H0.g, cells_sl H0.g, pure_sl H0.g, lenV_sl H0.p, view_sl H0.p, scalar_sl H0.p, cells_sl H0.p, pure_sl H0.p, lenV_sl V, view_sl V, scalar_sl V, cells_sl V, pure_sl V, g0, hr, hl0, c55, hk, gUn, decide_false, Bool.not_true, Bool.not_false, s15]
  have hk' := inR_iff.1 hk
  have k0 : 0 ≤ k := hk'.1
  have k1 : k < n.hs.length := by omega
  obtain ⟨i, hi⟩ : ∃ i : Nat, k = i := ⟨k.toNat, by omega⟩
  subst hi
  have hi : i < n.hs.length := by omega
  obtain ⟨x, hx⟩ : ∃ x, x = n.hs.getD i default := ⟨_, rfl⟩
  by_cases ab : a > b
  · refine Iso_of (es _ _ _ _) e11 ?_
    simp only [f11, netV]
    simp (disch := first | assumption | omega | (simp only [az]; done)) only [ru, eq_self, if_true, if_false, BEq.rfl, binI, AO.row?, splice, fillL, mmAll, loadV, storeV, zeros, Am.rowAt, Am.part, addOff, Nat.reduceAdd, Nat.reduceMul, Nat.reduceLeDiff, Nat.reduceSub, Nat.reduceLT, Int.reduceEq, Int.reduceLT, Int.reduceLE, Int.reduceGT, Int.reduceGE, Int.reduceAdd, Int.reduceSub, Int.reduceMul, Int.reduceNeg, Int.reduceToNat, reduceCtorEq, reduceIte, lenV_sl H0.g, view_sl H0.g, scalar_sl H0.g, cells_sl H0.g, pure_sl H0.g, lenV_sl H0.p, view_sl H0.p, scalar_sl H0.p, cells_sl H0.p, pure_sl H0.p, lenV_sl V, view_sl V, scalar_sl V, cells_sl V, pure_sl V, g0, hr, hl0, c55, hk, ab, gUn, decide_true, decide_false, Bool.not_true, s15]
  by_cases ax : a < x.lo
  · refine Iso_of (es _ _ _ _) e11 ?_
    simp only [f11, netV]
    simp (disch := first | assumption | omega | (simp only [az]; done)) only [ru, eq_self, if_true, if_false, BEq.rfl, binI, AO.row?, splice, fillL, mmAll, loadV, storeV, zeros, Am.rowAt, Am.part, addOff, Nat.reduceAdd, Nat.reduceMul, Nat.reduceLeDiff, Nat.reduceSub, Nat.reduceLT, Int.reduceEq, Int.reduceLT, Int.reduceLE, Int.reduceGT, Int.reduceGE, Int.reduceAdd, Int.reduceSub, Int.reduceMul, Int.reduceNeg, Int.reduceToNat, reduceCtorEq, reduceIte, lenV_sl H0.g, view_sl H0.g, scalar_sl H0.g, cells_sl H0.g, pure_sl H0.g, lenV_sl H0.p, view_sl H0.p, scalar_sl H0.p, cells_sl H0.p, pure_sl H0.p, lenV_sl V, view_sl V, scalar_sl V, cells_sl V, pure_sl V, g0, hr, hl0, c55, hk, ab, eh, k0, k1, Int.toNat_natCast, ← hx, ax, gUn, decide_true, decide_false, Bool.not_true, s15]
  by_cases bx : b > x.hi
  · refine Iso_of (es _ _ _ _) e11 ?_
    simp only [f11, netV]
    simp (disch := first | assumption | omega | (simp only [az]; done)) only [ru, eq_self, if_true, if_false, BEq.rfl, binI, AO.row?, splice, fillL, mmAll, loadV, storeV, zeros, Am.rowAt, Am.part, addOff, Nat.reduceAdd, Nat.reduceMul, Nat.reduceLeDiff, Nat.reduceSub, Nat.reduceLT, Int.reduceEq, Int.reduceLT, Int.reduceLE, Int.reduceGT, Int.reduceGE, Int.reduceAdd, Int.reduceSub, Int.reduceMul, Int.reduceNeg, Int.reduceToNat, reduceCtorEq, reduceIte, lenV_sl H0.g, view_sl H0.g, scalar_sl H0.g, cells_sl H0.g, pure_sl H0.g, lenV_sl H0.p, view_sl H0.p, scalar_sl H0.p, cells_sl H0.p, pure_sl H0.p, lenV_sl V, view_sl V, scalar_sl V, cells_sl V, pure_sl V, g0, hr, hl0, c55, hk, ab, eh, k0, k1, Int.toNat_natCast, ← hx, ax, bx, gUn, decide_true, decide_false, Bool.not_true, s15]
  obtain ⟨G, _, _, l0, O0⟩ := valid_ok hv
  have k6 := G.h.le
  have q1 : (n.hs.getD i default).lo ≤ a := by rw [← hx]; omega
  have q2 : a ≤ b := by omega
  have q3 : b ≤ (n.hs.getD i default).hi := by rw [← hx]; omega
  have T := rates hi q1 q2 q3 G
  have G2 := rate_g hi q1 q2 q3 G
  have hv2 := rate_valid hi q1 q2 q3 hv
  have el : (n.rate i a b).hs.length = n.hs.length := T.l
  have O2 : isO (n.rate i a b) l0 := ⟨by rw [el]; exact O0.1, by rw [el]; exact O0.2⟩
  -- the copy, and the hole that is changed in it
  obtain ⟨gv, pv, J, og, op, hC, hN, lg, lp⟩ := C16 H [.cells [I n.m, g, p] false, .cells [I i, I a, I b] false]
  obtain ⟨HH, hHH⟩ : ∃ HH : List AO, HH = [.cells [I n.m, g, p] false, .cells [I i, I a, I b] false] ++ J := ⟨_, rfl⟩
  rw [← hHH] at hC hN
  have lHH : HH.length = 2 + J.length := by rw [hHH]; simp; omega
  have t0 : HH[0]? = some (.cells [I n.m, g, p] false) := by rw [hHH]; rfl
  have t1 : HH[1]? = some (.cells [I i, I a, I b] false) := by rw [hHH]; rfl
  obtain ⟨oG, hoG⟩ : ∃ oG, oG = 2 + og := ⟨_, rfl⟩
  obtain ⟨oP, hoP⟩ : ∃ oP, oP = 2 + op := ⟨_, rfl⟩
  have eG : gv = .ms 4 oG 0 n.hs.length := by rw [hN.eg, hoG]; rfl
  have eP : pv = .ms 2 oP 0 n.ps.length := by rw [hN.ep, hoP]; rfl
  have aG : HH[oG]? = some (.cells (n.hs.flatMap Hl.e) false) := by rw [hoG]; exact hN.g
  have aP : HH[oP]? = some (.cells (n.ps.flatMap Pr.e) false) := by rw [hoP]; exact hN.p
  have neGP : oG ≠ oP := by have := hN.ne; simp only [List.length_cons, List.length_nil] at this; omega
  subst eG eP
  obtain ⟨oN, hoN⟩ : ∃ oN, oN = HH.length := ⟨_, rfl⟩
  obtain ⟨h2, hh2⟩ : ∃ h2, h2 = HH ++ [AO.cells [I n.m, .ms 4 oG 0 n.hs.length, .ms 2 oP 0 n.ps.length] false] := ⟨_, rfl⟩
  have l2 : h2.length = oN + 1 := by rw [hh2, hoN]; simp
  have u0 : h2[0]? = some (.cells [I n.m, g, p] false) := by rw [hh2, at_ap (by omega)]; exact t0
  have u1 : h2[1]? = some (.cells [I i, I a, I b] false) := by rw [hh2, at_ap (by omega)]; exact t1
  have uG : h2[oG]? = some (.cells (n.hs.flatMap Hl.e) false) := by rw [hh2, at_ap (by omega)]; exact aG
  have uP : h2[oP]? = some (.cells (n.ps.flatMap Pr.e) false) := by rw [hh2, at_ap (by omega)]; exact aP
  have uN : h2[oN]? = some (.cells [I n.m, .ms 4 oG 0 n.hs.length, .ms 2 oP 0 n.ps.length] false) := by rw [hh2, hoN]; exact atE
  have atN : ∀ X : AO, (HH ++ [X])[oN]? = some X := fun X => by rw [hoN]; exact atE
  have stN : ∀ X Y : AO, (HH ++ [X]).set oN Y = HH ++ [Y] := fun X Y => by rw [hoN]; exact setE
  obtain ⟨oH, hoH⟩ : ∃ oH, oH = h2.length := ⟨_, rfl⟩
  have atH : ∀ X : AO, (h2 ++ [X])[oH]? = some X := fun X => by rw [hoH]; exact atE
  have stH : ∀ X Y : AO, (h2 ++ [X]).set oH Y = h2 ++ [Y] := fun X Y => by rw [hoH]; exact setE
  have v1 := fun X : AO => (at_ap (m := [X]) (show 1 < h2.length by omega)).trans u1
  obtain ⟨h3, hh3⟩ : ∃ h3, h3 = h2 ++ [AO.cells [I x.f, I a, I b, I x.h] false] := ⟨_, rfl⟩
  have w0 : h3[0]? = some (.cells [I n.m, g, p] false) := by rw [hh3, at_ap (by omega)]; exact u0
  have w1 : h3[1]? = some (.cells [I i, I a, I b] false) := by rw [hh3, at_ap (by omega)]; exact u1
  have wG : h3[oG]? = some (.cells (n.hs.flatMap Hl.e) false) := by rw [hh3, at_ap (by omega)]; exact uG
  have wP : h3[oP]? = some (.cells (n.ps.flatMap Pr.e) false) := by rw [hh3, at_ap (by omega)]; exact uP
  have wN : h3[oN]? = some (.cells [I n.m, .ms 4 oG 0 n.hs.length, .ms 2 oP 0 n.ps.length] false) := by rw [hh3, at_ap (by omega)]; exact uN
  have wH : h3[oH]? = some (.cells [I x.f, I a, I b, I x.h] false) := by rw [hh3, hoH]; exact atE
  have l3 : h3.length = oN + 2 := by rw [hh3]; simp; omega
  have fl : (n.hs.flatMap Hl.e).length = n.hs.length * 4 := flat_len Hl.el n.hs
  have gt : ((n.hs.flatMap Hl.e).drop (i * 4)).take 4 = [I x.f, I x.lo, I x.hi, I x.h] := by rw [hl_get hi, ← hx]; rfl
  have pt := hl_put hi ⟨x.f, a, b, x.h⟩
  have pt' : (n.hs.flatMap Hl.e).take (i * 4) ++ [I x.f, I a, I b, I x.h] ++ (n.hs.flatMap Hl.e).drop (i * 4 + 4) = (n.rate i a b).hs.flatMap Hl.e := by
    rw [show (n.rate i a b).hs = n.hs.set i ⟨x.f, a, b, x.h⟩ by unfold Net.rate; rw [← hx]]; exact pt
  obtain ⟨R, hR⟩ : ∃ R, R = n.hs.flatMap Hl.e := ⟨_, rfl⟩
  rw [← hR] at fl gt pt' uG wG
  have fit : i * 4 + 4 ≤ R.length := by omega
  obtain ⟨h4, hh4⟩ : ∃ h4, h4 = h3.set oG (.cells (R.take (i * 4) ++ [I x.f, I a, I b, I x.h] ++ R.drop (i * 4 + 4)) false) := ⟨_, rfl⟩
  have l4 : h4.length = oN + 2 := by rw [hh4]; simpa using l3
  have x0 : h4[0]? = some (.cells [I n.m, g, p] false) := by rw [hh4, List.getElem?_set_ne (by omega)]; exact w0
  have xN : h4[oN]? = some (.cells [I n.m, .ms 4 oG 0 n.hs.length, .ms 2 oP 0 n.ps.length] false) := by rw [hh4, List.getElem?_set_ne (by omega)]; exact wN
  have xC : CpN (n.rate i a b) h4 oG oP (.ms 4 oG 0 n.hs.length) (.ms 2 oP 0 n.ps.length) := ⟨neGP, by rw [el], rfl, by rw [hh4, List.getElem?_set_self (by omega), pt'], by rw [hh4, List.getElem?_set_ne neGP]; exact wP⟩
  have vw := fun st => xC.view st (k := 6)
  have HR : NetOk (n.rate i a b) (slV 4 Hl.e (n.rate i a b).hs) (slV 2 Pr.e (n.rate i a b).ps) := ⟨⟨slV_is, slV_is⟩, by rw [el]; exact H.sg, H.sp⟩
  have c51 := fun st => s51 H hv st
  have c51' := fun st => s51 HR hv2 st
  have b1 := T.less G G2 O0
  have c50 := fun st => s50 H V (by omega) st
  have W := slV_is (esz := 1) (enc := intL) (l := l)
  have c17 := fun st => s17' V (by omega) st
  have c41 := fun st => s41 H W (by omega) st
  have c41' := fun st => s41 HR W (by omega) st
  have b2 := T.regr l
  obtain ⟨Z, hZ⟩ : ∃ q, q = lea n := ⟨_, rfl⟩
  obtain ⟨D, hD⟩ : ∃ q, q = don n := ⟨_, rfl⟩
  obtain ⟨Z2, hZ2⟩ : ∃ q, q = lea (n.rate i a b) := ⟨_, rfl⟩
  obtain ⟨D2, hD2⟩ : ∃ q, q = don (n.rate i a b) := ⟨_, rfl⟩
  rw [← hZ, ← hZ2] at b1
  obtain ⟨gc, hgc⟩ : ∃ q, q = slV 4 Hl.e (n.rate i a b).hs := ⟨_, rfl⟩
  obtain ⟨pc, hpc⟩ : ∃ q, q = slV 2 Pr.e (n.rate i a b).ps := ⟨_, rfl⟩
  obtain ⟨wv, hwv⟩ : ∃ q, q = slV 1 intL l := ⟨_, rfl⟩
  rw [← hwv] at W
  have em : (n.rate i a b).m = n.m := rfl
  simp only [netV, cpN, ← hZ, ← hD, ← hZ2, ← hD2, ← hgc, ← hpc, ← hwv, em] at c51 c51' c50 c17 c41 c41' vw hC
  have n1 : ¬ Z2 > Z := by omega
  have oN0 : oN = HH.length := hoN
  cases ho : ordB n l with
  | false =>
    refine Iso_of (es _ _ _ _) e11 ?_
    simp only [f11, netV]
    simp (disch := first | assumption | omega | (simp only [az]; done)) only [ru, eq_self, if_true, if_false, BEq.rfl, binI, AO.row?, splice, fillL, mmAll, loadV, storeV, zeros, Am.rowAt, Am.part, addOff, Nat.reduceAdd, Nat.reduceMul, Nat.reduceLeDiff, Nat.reduceSub, Nat.reduceLT, Int.reduceEq, Int.reduceLT, Int.reduceLE, Int.reduceGT, Int.reduceGE, Int.reduceAdd, Int.reduceSub, Int.reduceMul, Int.reduceNeg, Int.reduceToNat, reduceCtorEq, reduceIte, lenV_sl H.g, view_sl H.g, scalar_sl H.g, cells_sl H.g, pure_sl H.g, lenV_sl H.p, view_sl H.p, scalar_sl H.p, cells_sl H.p, pure_sl H.p, lenV_sl V, view_sl V, scalar_sl V, cells_sl V, pure_sl V, g0, hr, hl0, c55, hk, ab, eh, k0, k1, Int.toNat_natCast, ← hx, ax, bx, gUn, decide_true, decide_false, Bool.not_true, exOp_call2, hC, ← hoN, atN, stN, ← hh2]
    simp (disch := first | assumption | omega | (simp only [az]; done)) only [ru, eq_self, if_true, if_false, BEq.rfl, binI, AO.row?, splice, fillL, mmAll, loadV, storeV, zeros, Am.rowAt, Am.part, addOff, Nat.reduceAdd, Nat.reduceMul, Nat.reduceLeDiff, Nat.reduceSub, Nat.reduceLT, Int.reduceEq, Int.reduceLT, Int.reduceLE, Int.reduceGT, Int.reduceGE, Int.reduceAdd, Int.reduceSub, Int.reduceMul, Int.reduceNeg, Int.reduceToNat, reduceCtorEq, reduceIte, lenV_sl H.g, view_sl H.g, scalar_sl H.g, cells_sl H.g, pure_sl H.g, lenV_sl H.p, view_sl H.p, scalar_sl H.p, cells_sl H.p, pure_sl H.p, lenV_sl V, view_sl V, scalar_sl V, cells_sl V, pure_sl V, k0, k1, Int.toNat_natCast, Nat.zero_add, u0, u1, uN, uG, gt, ← hoH, atH, stH, v1, ← hh3, w1, wN, wH, wG, fit, ← hh4, x0, xN, c51, vw, c51', n1, c50, ho, gUn, decide_true, decide_false, Bool.not_true, Bool.not_false, s15]
  | true =>
    have r1 : rgtR n l = .tup [I (regr n l), I 0] := by unfold rgtR; rw [hv, ho]; rfl
    have ho2 : ordB (n.rate i a b) l = true := ordB_iff.2 (by have O := ordB_iff.1 ho; exact ⟨by rw [el]; exact O.1, by rw [el]; exact O.2⟩)
    have r2 : rgtR (n.rate i a b) l = .tup [I (regr (n.rate i a b) l), I 0] := by unfold rgtR; rw [hv2, ho2]; rfl
    have O := ordB_iff.1 ho
    have b3 := regr_bd G2 (l := l) (ord_len G O)
    obtain ⟨K, hK⟩ : ∃ q, q = regr n l := ⟨_, rfl⟩
    obtain ⟨K2, hK2⟩ : ∃ q, q = regr (n.rate i a b) l := ⟨_, rfl⟩
    rw [← hK, ← hK2] at b2
    rw [← hK2] at b3
    simp only [r1, r2, ← hK, ← hK2] at c41 c41'
    have n2 : K2 ≥ 0 := by omega
    have n3 : K2 ≤ K := by omega
    refine Iso_of (es _ _ _ _) e11 ?_
    simp only [f11, netV]
    simp (disch := first | assumption | omega | (simp only [az]; done)) only [ru, eq_self, if_true, if_false, BEq.rfl, binI, AO.row?, splice, fillL, mmAll, loadV, storeV, zeros, Am.rowAt, Am.part, addOff, Nat.reduceAdd, Nat.reduceMul, Nat.reduceLeDiff, Nat.reduceSub, Nat.reduceLT, Int.reduceEq, Int.reduceLT, Int.reduceLE, Int.reduceGT, Int.reduceGE, Int.reduceAdd, Int.reduceSub, Int.reduceMul, Int.reduceNeg, Int.reduceToNat, reduceCtorEq, reduceIte, lenV_sl H.g, view_sl H.g, scalar_sl H.g, cells_sl H.g, pure_sl H.g, lenV_sl H.p, view_sl H.p, scalar_sl H.p, cells_sl H.p, pure_sl H.p, lenV_sl V, view_sl V, scalar_sl V, cells_sl V, pure_sl V, g0, hr, hl0, c55, hk, ab, eh, k0, k1, Int.toNat_natCast, ← hx, ax, bx, gUn, decide_true, decide_false, Bool.not_true, exOp_call2, hC, ← hoN, atN, stN, ← hh2]
    simp (disch := first | assumption | omega | (simp only [az]; done)) only [ru, eq_self, if_true, if_false, BEq.rfl, binI, AO.row?, splice, fillL, mmAll, loadV, storeV, zeros, Am.rowAt, Am.part, addOff, Nat.reduceAdd, Nat.reduceMul, Nat.reduceLeDiff, Nat.reduceSub, Nat.reduceLT, Int.reduceEq, Int.reduceLT, Int.reduceLE, Int.reduceGT, Int.reduceGE, Int.reduceAdd, Int.reduceSub, Int.reduceMul, Int.reduceNeg, Int.reduceToNat, reduceCtorEq, reduceIte, lenV_sl H.g, view_sl H.g, scalar_sl H.g, cells_sl H.g, pure_sl H.g, lenV_sl H.p, view_sl H.p, scalar_sl H.p, cells_sl H.p, pure_sl H.p, lenV_sl V, view_sl V, scalar_sl V, cells_sl V, pure_sl V, lenV_sl W, view_sl W, scalar_sl W, cells_sl W, pure_sl W, k0, k1, Int.toNat_natCast, Nat.zero_add, u0, u1, uN, uG, gt, ← hoH, atH, stH, v1, ← hh3, w1, wN, wH, wG, fit, ← hh4, x0, xN, c51, vw, c51', n1, c50, ho, c17, c41, c41', n2, n3, gUn, decide_true, decide_false, Bool.not_true, Bool.not_false, beq_self_eq_true, s15]
end
end Go.Proofs.Ytmmibahjjeldgaa.S

