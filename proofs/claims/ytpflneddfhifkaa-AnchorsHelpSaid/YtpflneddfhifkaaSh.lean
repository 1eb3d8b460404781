import Derived.Test.YtpflneddfhifkaaSg
import Derived.Test.YtpflneddfhifkaaIn
namespace Go.Proofs.Ytpflneddfhifkaa.S
open Go Go.Am Go.Proofs.Ytpflneddfhifkaa.T
set_option maxRecDepth 100000
set_option linter.unusedSimpArgs false
set_option linter.unusedVariables false



/-- an append in a region of open order, to an empty slice of its own -/
theorem GO_sappend {X : Cx} {base : Nat} {k : List KF} {ts : List AV} {h : List AO} {mk : List Nat} {r : List AOper} {d : Option Nat} {kp : Bool} {e eb s : Nat} {a x : Opd} :
    GO X base (⟨d, .append kp e eb a x, none, some s, []⟩ :: r) k ts h mk = GX X base (exOp (R X.E) X.lim (some (base + s)) (Opd.ev ts) h (.append kp e eb a x)) d r k ts mk := by
  rw [GO_slot]; rfl
theorem app_keep {α : Type} {call : Am.Callee} {lim p : Nat} {ρ : Opd → AV} {h : List AO} {esz eb o : Nat} {enc : α → List AV} {l : List α} {a x : Opd} {v : AV} (hv : IsSl esz enc l v) (he : ∀ a, (enc a).length = esz) (hs : ∀ a, (enc a).all AV.scalar = true)
    (ha : ρ a = .ms esz o 0 0) (hx : ρ x = v) (ho : h[o]? = some (.cells [] false)) (hl : lim ≤ o) (hb : l.length * eb ≤ 1099511627776) (heb : 1 ≤ eb) :
    exOp call lim (some p) ρ h (.append true esz eb a x) = if l.length = 0 then some (.ms esz o 0 0, h) else some (.ms esz p 0 l.length, (h.set o (.ro [])).set p (.cells (l.flatMap enc) false)) := by
  simp only [exOp, ha, hx, lenOf_ms, lenOf_sl hv, rowOf_sl hv, flat_len he, scal_sl hs, Nat.zero_add, hb, heb, ho, hl, if_true, and_self, Nat.zero_mul, len0, true_or, newObj', take0, apN]
  rfl

theorem s25 {t : Tru} {v : AV} (V : TruOk t v) (st : Bool) : Iso E 25 [.agg [I t.wind, I t.cur, v]] st = some (.agg [I t.wind, I t.cur, slV 1 (fun n => [I n]) t.grips]) := by
  have sl := V.l
  have hk := fun (ρ : Opd → AV) (a x : Opd) (h1 : ρ a = AV.ms 1 2 0 0) (h2 : ρ x = v) (h : List AO) (h3 : h[2]? = some (.cells [] false)) => app_keep (call := R E) (lim := 0) (p := 2 + 1) V.s (fun _ => rfl) (fun _ => rfl) h1 h2 h3 (by omega) (eb := 8) (by omega) (by omega)
  refine Iso_of (es _ _ _ _) e25 ?_
  simp only [f25]
  simp (disch := first | assumption | omega | (simp only [az]; done)) only [ru, eq_self, if_true, if_false, BEq.rfl, binI, AO.row?, splice, fillL, mmAll, loadV, storeV, zeros, Am.rowAt, Am.part, addOff, Nat.reduceAdd, Nat.reduceMul, Nat.reduceLeDiff, Nat.reduceSub, Nat.reduceLT, Int.reduceEq, Int.reduceLT, Int.reduceLE, Int.reduceGT, Int.reduceGE, Int.reduceAdd, Int.reduceSub, Int.reduceMul, Int.reduceNeg, Int.reduceToNat, reduceCtorEq, reduceIte, lenV_sl V.s, elem_sl intE V.s, view_sl V.s, scalar_sl V.s, cells_sl V.s, pure_sl V.s]
  rw [GO_sappend, hk _ _ _ rfl rfl _ rfl]
  by_cases hz : t.grips.length = 0
  · have e : t.grips = [] := List.eq_nil_of_length_eq_zero hz
    simp (disch := first | assumption | omega | (simp only [az]; done)) only [ru, eq_self, if_true, if_false, BEq.rfl, binI, AO.row?, splice, fillL, mmAll, loadV, storeV, zeros, Am.rowAt, Am.part, addOff, Nat.reduceAdd, Nat.reduceMul, Nat.reduceLeDiff, Nat.reduceSub, Nat.reduceLT, Int.reduceEq, Int.reduceLT, Int.reduceLE, Int.reduceGT, Int.reduceGE, Int.reduceAdd, Int.reduceSub, Int.reduceMul, Int.reduceNeg, Int.reduceToNat, reduceCtorEq, reduceIte, lenV_sl V.s, elem_sl intE V.s, view_sl V.s, scalar_sl V.s, cells_sl V.s, pure_sl V.s, hz, finC, getRes, Option.some.injEq, exists_eq_left', Nat.zero_mul]
    simp only [slV, e]; rfl
  · have e1 := flat_take (enc := fun n : Int => [I n]) (l := t.grips) (k := 1) (fun _ => rfl)
    have e2 := flat1 t.grips
    rw [Nat.mul_one] at e1
    have e3 := fun (st : Bool) (h : List AO) (n : Nat) => flat_view (enc := fun n : Int => [I n]) (st := st) (h := h) (n := n) (fun a x hx => ⟨_, _, by simpa using hx⟩) t.grips
    simp (disch := first | assumption | omega | (simp only [az]; done)) only [ru, eq_self, if_true, if_false, BEq.rfl, binI, AO.row?, splice, fillL, mmAll, loadV, storeV, zeros, Am.rowAt, Am.part, addOff, Nat.reduceAdd, Nat.reduceMul, Nat.reduceLeDiff, Nat.reduceSub, Nat.reduceLT, Int.reduceEq, Int.reduceLT, Int.reduceLE, Int.reduceGT, Int.reduceGE, Int.reduceAdd, Int.reduceSub, Int.reduceMul, Int.reduceNeg, Int.reduceToNat, reduceCtorEq, reduceIte, lenV_sl V.s, elem_sl intE V.s, view_sl V.s, scalar_sl V.s, cells_sl V.s, pure_sl V.s, hz, finC, getRes, Option.some.injEq, exists_eq_left', Nat.mul_one, e1, e2, e3]
    rfl

theorem s30 {l : List Int} {v v' : AV} (hv : IsSl 1 (fun n => [I n]) l v) (hv' : IsSl 1 (fun n => [I n]) l v') (hl : l.length ≤ 1000000) (st : Bool) : Iso E 30 [v, v'] st = some (Bo true) := by
  refine Iso_of (es _ _ _ _) e30 ?_
  simp only [f30]
  simp (disch := first | assumption | omega | (simp only [az]; done)) only [ru, eq_self, if_true, if_false, BEq.rfl, binI, AO.row?, splice, fillL, mmAll, loadV, storeV, zeros, Am.rowAt, Am.part, addOff, Nat.reduceAdd, Nat.reduceMul, Nat.reduceLeDiff, Nat.reduceSub, Nat.reduceLT, Int.reduceEq, Int.reduceLT, Int.reduceLE, Int.reduceGT, Int.reduceGE, Int.reduceAdd, Int.reduceSub, Int.reduceMul, Int.reduceNeg, Int.reduceToNat, reduceCtorEq, reduceIte, lenV_sl hv, lenV_sl hv']
  refine G_loop_ind (fun m ts h mk => ∃ i : Nat, i ≤ l.length ∧ m = l.length - i ∧ ts.length = 26 ∧ ts.getD 0 .undef = v ∧ ts.getD 1 .undef = v' ∧ ts.getD 5 .undef = I i ∧ h = [] ∧ mk = []) ?_ _ _ _ _ ⟨0, Nat.zero_le _, rfl, rfl, rfl, rfl, rfl, rfl, rfl⟩
  rintro m ts h mk ih ⟨i, hi, rfl, hl', q0, q1, q5, rfl, rfl⟩
  rw [lit_all hl']
  simp only [lit0, litS, Nat.reduceAdd, q0, q1, q5]
  simp (disch := first | assumption | omega | (simp only [az]; done)) only [ru, eq_self, if_true, if_false, BEq.rfl, binI, AO.row?, splice, fillL, mmAll, loadV, storeV, zeros, Am.rowAt, Am.part, addOff, Nat.reduceAdd, Nat.reduceMul, Nat.reduceLeDiff, Nat.reduceSub, Nat.reduceLT, Int.reduceEq, Int.reduceLT, Int.reduceLE, Int.reduceGT, Int.reduceGE, Int.reduceAdd, Int.reduceSub, Int.reduceMul, Int.reduceNeg, Int.reduceToNat, reduceCtorEq, reduceIte, lenV_sl hv]
  by_cases hlt : (i : Int) < l.length
  case pos =>
    simp (disch := first | assumption | omega | (simp only [az]; done)) only [ru, eq_self, if_true, if_false, BEq.rfl, binI, AO.row?, splice, fillL, mmAll, loadV, storeV, zeros, Am.rowAt, Am.part, addOff, Nat.reduceAdd, Nat.reduceMul, Nat.reduceLeDiff, Nat.reduceSub, Nat.reduceLT, Int.reduceEq, Int.reduceLT, Int.reduceLE, Int.reduceGT, Int.reduceGE, Int.reduceAdd, Int.reduceSub, Int.reduceMul, Int.reduceNeg, Int.reduceToNat, reduceCtorEq, reduceIte, hlt, elem_sl intE hv, elem_sl intE hv', Int.toNat_natCast]
    exact ih (l.length - (i + 1)) _ _ _ (by omega) ⟨i + 1, by omega, rfl, rfl, rfl, rfl, rfl, rfl, rfl⟩
  simp (disch := first | assumption | omega | (simp only [az]; done)) only [ru, eq_self, if_true, if_false, BEq.rfl, binI, AO.row?, splice, fillL, mmAll, loadV, storeV, zeros, Am.rowAt, Am.part, addOff, Nat.reduceAdd, Nat.reduceMul, Nat.reduceLeDiff, Nat.reduceSub, Nat.reduceLT, Int.reduceEq, Int.reduceLT, Int.reduceLE, Int.reduceGT, Int.reduceGE, Int.reduceAdd, Int.reduceSub, Int.reduceMul, Int.reduceNeg, Int.reduceToNat, reduceCtorEq, reduceIte, hlt]

theorem s35 {t : Tru} {v v' : AV} (V : TruOk t v) (V' : TruOk t v') (st : Bool) : Iso E 35 [.agg [I t.wind, I t.cur, v], .agg [I t.wind, I t.cur, v']] st = some (Bo true) := by
  have sl := V.l
  refine Iso_of (es _ _ _ _) e35 ?_
  simp only [f35]
  simp (disch := first | assumption | omega | (simp only [az]; done)) only [ru, eq_self, if_true, if_false, BEq.rfl, binI, AO.row?, splice, fillL, mmAll, loadV, storeV, zeros, Am.rowAt, Am.part, addOff, Nat.reduceAdd, Nat.reduceMul, Nat.reduceLeDiff, Nat.reduceSub, Nat.reduceLT, Int.reduceEq, Int.reduceLT, Int.reduceLE, Int.reduceGT, Int.reduceGE, Int.reduceAdd, Int.reduceSub, Int.reduceMul, Int.reduceNeg, Int.reduceToNat, reduceCtorEq, reduceIte, lenV_sl V.s, elem_sl intE V.s, view_sl V.s, scalar_sl V.s, cells_sl V.s, pure_sl V.s, view_sl V'.s, s30 V.s V'.s (by omega)]

theorem slV_pu {α : Type} {e : Nat} {enc : α → List AV} {l : List α} : (slV e enc l).pureV = true := id rfl
theorem TruOk.c {t : Tru} {v : AV} (V : TruOk t v) : TruOk t (slV 1 (fun n => [I n]) t.grips) := ⟨slV_is, V.l⟩
theorem errL_len {e : Int} {n : Net} {D : Nat → Bool} (h : n.ancs.length ≤ 40) : (errL e (lst n D)).length ≤ 1000000 := by
  unfold errL; split
  · have := lst_le (n := n) (D := D); omega
  · simp

theorem s4 {n : Net} {g a w : AV} (H0 : NetIn n g a w) {t : Tru} {v : AV} (V0 : TruIn t v) (x : Int) (st : Bool) : Iso E 4 [netV n g a w, .agg [I t.wind, I t.cur, v], I x] st = some (Bo true) := by
  refine Iso_of (es _ _ _ _) e4 ?_
  simp only [f4, netV]
  simp (disch := first | assumption | omega | (simp only [az]; done)) only [ru, eq_self, if_true, if_false, BEq.rfl, binI, AO.row?, splice, fillL, mmAll, loadV, storeV, zeros, Am.rowAt, Am.part, addOff, Nat.reduceAdd, Nat.reduceMul, Nat.reduceLeDiff, Nat.reduceSub, Nat.reduceLT, Int.reduceEq, Int.reduceLT, Int.reduceLE, Int.reduceGT, Int.reduceGE, Int.reduceAdd, Int.reduceSub, Int.reduceMul, Int.reduceNeg, Int.reduceToNat, reduceCtorEq, reduceIte, s15 H0.g H0.a H0.w V0.s, view_sl H0.g, view_sl H0.a, view_sl H0.w, view_sl V0.s]
  by_cases hs : n.grips.length ≤ 40 ∧ n.ancs.length ≤ 40 ∧ n.walls.length ≤ 40 ∧ t.grips.length ≤ 40
  case neg =>
    have hb : (decide ((n.grips.length : Int) > 40) || (decide ((n.ancs.length : Int) > 40) || (decide ((n.walls.length : Int) > 40) || decide ((t.grips.length : Int) > 40)))) = true := by
      simp only [Bool.or_eq_true, decide_eq_true_eq]; omega
    simp (disch := first | assumption | omega | (simp only [az]; done)) only [ru, eq_self, if_true, if_false, BEq.rfl, binI, AO.row?, splice, fillL, mmAll, loadV, storeV, zeros, Am.rowAt, Am.part, addOff, Nat.reduceAdd, Nat.reduceMul, Nat.reduceLeDiff, Nat.reduceSub, Nat.reduceLT, Int.reduceEq, Int.reduceLT, Int.reduceLE, Int.reduceGT, Int.reduceGE, Int.reduceAdd, Int.reduceSub, Int.reduceMul, Int.reduceNeg, Int.reduceToNat, reduceCtorEq, reduceIte, hb, s16]
  obtain ⟨sg, sa, sw, sl⟩ := hs
  have H : NetOk n g a w := ⟨H0.g, H0.a, H0.w, sg, sa, sw⟩
  have V : TruOk t v := ⟨V0.s, sl⟩
  have C := H.c
  have D := V.c
  have h1 : ¬ (n.grips.length : Int) > 40 := by omega
  have h2 : ¬ (n.ancs.length : Int) > 40 := by omega
  have h3 : ¬ (n.walls.length : Int) > 40 := by omega
  have h4 : ¬ (t.grips.length : Int) > 40 := by omega
  have a1 := s26 C D
  have a2 := s27 H V
  have a3 := s28 C D
  have a4 := s29 H V
  have a5 := s31 C D x
  have a6 := s32 H V x
  have a7 := s33 C D
  have a8 := s34 H V
  simp only [ansL, ansP] at a1 a2 a3 a4 a5 a6
  have i1 := fun st => s30 (resL_is (errL (givenE n t) (lst n (stepS n t none6)))) (resL_is _) (errL_len sa) st
  have i2 := fun st => s30 (resL_is (errL (givenE n t) (lst n (lfp n t none6)))) (resL_is _) (errL_len sa) st
  have i3 := fun st => s30 (resL_is (errL (pulledE n t x) (lst n (lfp n t (one6 x.toNat))))) (resL_is _) (errL_len sa) st
  simp (disch := first | assumption | omega | (simp only [az]; done)) only [ru, eq_self, if_true, if_false, BEq.rfl, binI, AO.row?, splice, fillL, mmAll, loadV, storeV, zeros, Am.rowAt, Am.part, addOff, Nat.reduceAdd, Nat.reduceMul, Nat.reduceLeDiff, Nat.reduceSub, Nat.reduceLT, Int.reduceEq, Int.reduceLT, Int.reduceLE, Int.reduceGT, Int.reduceGE, Int.reduceAdd, Int.reduceSub, Int.reduceMul, Int.reduceNeg, Int.reduceToNat, reduceCtorEq, reduceIte, lenV_sl H.g, lenV_sl H.a, lenV_sl H.w, elem_sl Spn.el H.g, elem_sl Anc.el H.a, elem_sl Wal.el H.w, view_sl H.g, view_sl H.a, view_sl H.w, scalar_sl H.g, scalar_sl H.a, scalar_sl H.w, cells_sl H.g, cells_sl H.a, cells_sl H.w, pure_sl H.g, pure_sl H.a, pure_sl H.w, Spn.e, Anc.e, Wal.e, Spn.eta, Anc.eta, Wal.eta, Int.toNat_natCast, lenV_sl V.s, elem_sl intE V.s, view_sl V.s, scalar_sl V.s, cells_sl V.s, pure_sl V.s, h1, h2, h3, h4, Bool.or_self, s17 H, s25 V, slV_sc, slV_ce, slV_vi, slV_pu]
  simp (disch := first | assumption | omega | (simp only [az]; done)) only [ru, eq_self, if_true, if_false, BEq.rfl, binI, AO.row?, splice, fillL, mmAll, loadV, storeV, zeros, Am.rowAt, Am.part, addOff, Nat.reduceAdd, Nat.reduceMul, Nat.reduceLeDiff, Nat.reduceSub, Nat.reduceLT, Int.reduceEq, Int.reduceLT, Int.reduceLE, Int.reduceGT, Int.reduceGE, Int.reduceAdd, Int.reduceSub, Int.reduceMul, Int.reduceNeg, Int.reduceToNat, reduceCtorEq, reduceIte, lenV_sl H.g, lenV_sl H.a, lenV_sl H.w, elem_sl Spn.el H.g, elem_sl Anc.el H.a, elem_sl Wal.el H.w, view_sl H.g, view_sl H.a, view_sl H.w, scalar_sl H.g, scalar_sl H.a, scalar_sl H.w, cells_sl H.g, cells_sl H.a, cells_sl H.w, pure_sl H.g, pure_sl H.a, pure_sl H.w, Spn.e, Anc.e, Wal.e, Spn.eta, Anc.eta, Wal.eta, Int.toNat_natCast, lenV_sl V.s, elem_sl intE V.s, view_sl V.s, scalar_sl V.s, cells_sl V.s, pure_sl V.s, a1, a2, a3, a4, i1, i2, s24 C H, s35 D V, s16, slV_sc, slV_ce, slV_vi, slV_pu, view_sl (resL_is (errL (givenE n t) (lst n (stepS n t none6)))), view_sl (resL_is (errL (givenE n t) (lst n (lfp n t none6))))]
  simp (disch := first | assumption | omega | (simp only [az]; done)) only [ru, eq_self, if_true, if_false, BEq.rfl, binI, AO.row?, splice, fillL, mmAll, loadV, storeV, zeros, Am.rowAt, Am.part, addOff, Nat.reduceAdd, Nat.reduceMul, Nat.reduceLeDiff, Nat.reduceSub, Nat.reduceLT, Int.reduceEq, Int.reduceLT, Int.reduceLE, Int.reduceGT, Int.reduceGE, Int.reduceAdd, Int.reduceSub, Int.reduceMul, Int.reduceNeg, Int.reduceToNat, reduceCtorEq, reduceIte, lenV_sl H.g, lenV_sl H.a, lenV_sl H.w, elem_sl Spn.el H.g, elem_sl Anc.el H.a, elem_sl Wal.el H.w, view_sl H.g, view_sl H.a, view_sl H.w, scalar_sl H.g, scalar_sl H.a, scalar_sl H.w, cells_sl H.g, cells_sl H.a, cells_sl H.w, pure_sl H.g, pure_sl H.a, pure_sl H.w, Spn.e, Anc.e, Wal.e, Spn.eta, Anc.eta, Wal.eta, Int.toNat_natCast, lenV_sl V.s, elem_sl intE V.s, view_sl V.s, scalar_sl V.s, cells_sl V.s, pure_sl V.s, a5, a6, a7, a8, i3, s24 C H, s35 D V, s16, slV_sc, slV_ce, slV_vi, slV_pu, view_sl (resL_is (errL (pulledE n t x) (lst n (lfp n t (one6 x.toNat)))))]
end Go.Proofs.Ytpflneddfhifkaa.S
