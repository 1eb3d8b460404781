/-
The law of the fish that were hauled.
-/
import Derived.Test.YtokhneffambgmaaGc
namespace Go.Proofs.Ytokhneffambgmaa.S
open Go Go.Am Go.Proofs.Ytokhneffambgmaa.T
set_option maxRecDepth 100000
set_option linter.unusedSimpArgs false
set_option linter.unusedVariables false

theorem linW_bd {t : List Pt} {u : Nat → Int} (hu : ∀ i, i < t.length → 0 ≤ u i ∧ u i ≤ 30) : ∀ {k : Nat}, k ≤ t.length → 0 ≤ lin (rW t) u k ∧ lin (rW t) u k ≤ 30 * k
  | 0, _ => by simp [lin]
  | k + 1, hk => by
    have h1 := linW_bd hu (k := k) (by omega)
    have h2 := hu k (by omega)
    have e : lin (rW t) u (k + 1) = lin (rW t) u k + rW t k * u k := rfl
    rw [e]
    unfold rW at *
    split <;> omega
theorem linW_succ {t : List Pt} {u : Nat → Int} {k : Nat} (hk : k < t.length) : lin (rW t) u (k + 1) = lin (rW t) u k + if (t.getD k default).of = -1 then u k else 0 := by
  have e : lin (rW t) u (k + 1) = lin (rW t) u k + rW t k * u k := rfl
  rw [e]
  unfold rW
  by_cases c : (t.getD k default).of = -1
  · rw [if_pos ⟨hk, c⟩, if_pos c, Int.one_mul]
  · rw [if_neg (fun h => c h.2), if_neg c, Int.zero_mul]

set_option maxHeartbeats 16000000 in
theorem sTop {t : List Pt} {v : AV} (TI : IsSl 6 Pt.e t v) {s : A.Sea} {p b : AV} (N0 : A.SeaIn s p b) {l m : List Int} {w y : AV} (W : IsSl 1 A.intL l w) (Y : IsSl 1 A.intL m y) :
    Iso E 3 [v, A.seaV s p b, .agg [w, y]] false = some (Bo true) := by
  have np := N0.p; have nb := N0.b
  have d11 := sHauled
  have c6 := fun st => A.s50 N0 st
  simp only [A.seaV] at c6
  refine Iso_of (es _ _ _ _) e3 ?_
  simp only [f3, A.seaV]
  by_cases c1 : (t.length : Int) > 40
  · simp (disch := first | assumption | omega | (simp only [az]; done)) only [ru, eq_self, if_true, if_false, BEq.rfl, binI, AO.row?, splice, fillL, mmAll, loadV, storeV, zeros, Am.rowAt, Am.part, addOff, Nat.reduceAdd, Nat.reduceMul, Nat.reduceLeDiff, Nat.reduceSub, Nat.reduceLT, Int.reduceEq, Int.reduceLT, Int.reduceLE, Int.reduceGT, Int.reduceGE, Int.reduceAdd, Int.reduceSub, Int.reduceMul, Int.reduceNeg, Int.reduceToNat, reduceCtorEq, reduceIte, lenV_sl TI, view_sl TI, scalar_sl TI, cells_sl TI, pure_sl TI, lenV_sl np, view_sl np, scalar_sl np, cells_sl np, pure_sl np, lenV_sl nb, view_sl nb, scalar_sl nb, cells_sl nb, pure_sl nb, lenV_sl W, view_sl W, scalar_sl W, cells_sl W, pure_sl W, lenV_sl Y, view_sl Y, scalar_sl Y, cells_sl Y, pure_sl Y, c1, d11, gUn, decide_true]
    done
  have H : TbOk t v := ⟨TI, by omega⟩
  have a4 := fun st => s53 H st
  cases hv : tval t
  · simp (disch := first | assumption | omega | (simp only [az]; done)) only [ru, eq_self, if_true, if_false, BEq.rfl, binI, AO.row?, splice, fillL, mmAll, loadV, storeV, zeros, Am.rowAt, Am.part, addOff, Nat.reduceAdd, Nat.reduceMul, Nat.reduceLeDiff, Nat.reduceSub, Nat.reduceLT, Int.reduceEq, Int.reduceLT, Int.reduceLE, Int.reduceGT, Int.reduceGE, Int.reduceAdd, Int.reduceSub, Int.reduceMul, Int.reduceNeg, Int.reduceToNat, reduceCtorEq, reduceIte, lenV_sl TI, view_sl TI, scalar_sl TI, cells_sl TI, pure_sl TI, lenV_sl np, view_sl np, scalar_sl np, cells_sl np, pure_sl np, lenV_sl nb, view_sl nb, scalar_sl nb, cells_sl nb, pure_sl nb, lenV_sl W, view_sl W, scalar_sl W, cells_sl W, pure_sl W, lenV_sl Y, view_sl Y, scalar_sl Y, cells_sl Y, pure_sl Y, c1, a4, hv, d11, gUn, decide_true, decide_false, Bool.false_eq_true]
    done
  have T := tval_W hv
  have n8 := T.n
  cases hfa : A.far s
  case true =>
    rw [hfa] at c6
    simp (disch := first | assumption | omega | (simp only [az]; done)) only [ru, eq_self, if_true, if_false, BEq.rfl, binI, AO.row?, splice, fillL, mmAll, loadV, storeV, zeros, Am.rowAt, Am.part, addOff, Nat.reduceAdd, Nat.reduceMul, Nat.reduceLeDiff, Nat.reduceSub, Nat.reduceLT, Int.reduceEq, Int.reduceLT, Int.reduceLE, Int.reduceGT, Int.reduceGE, Int.reduceAdd, Int.reduceSub, Int.reduceMul, Int.reduceNeg, Int.reduceToNat, reduceCtorEq, reduceIte, lenV_sl TI, view_sl TI, scalar_sl TI, cells_sl TI, pure_sl TI, lenV_sl np, view_sl np, scalar_sl np, cells_sl np, pure_sl np, lenV_sl nb, view_sl nb, scalar_sl nb, cells_sl nb, pure_sl nb, lenV_sl W, view_sl W, scalar_sl W, cells_sl W, pure_sl W, lenV_sl Y, view_sl Y, scalar_sl Y, cells_sl Y, pure_sl Y, c1, a4, hv, c6, d11, gUn, decide_true, decide_false]
    done
  rw [hfa] at c6
  have HS := A.far_no N0 hfa
  have c7 := fun st => A.s53 HS st
  simp only [A.seaV] at c7
  cases hvs : s.valid
  · have ev : A.vE s.valid = 50 := by rw [hvs]; rfl
    rw [ev] at c7
    simp (disch := first | assumption | omega | (simp only [az]; done)) only [ru, eq_self, if_true, if_false, BEq.rfl, binI, AO.row?, splice, fillL, mmAll, loadV, storeV, zeros, Am.rowAt, Am.part, addOff, Nat.reduceAdd, Nat.reduceMul, Nat.reduceLeDiff, Nat.reduceSub, Nat.reduceLT, Int.reduceEq, Int.reduceLT, Int.reduceLE, Int.reduceGT, Int.reduceGE, Int.reduceAdd, Int.reduceSub, Int.reduceMul, Int.reduceNeg, Int.reduceToNat, reduceCtorEq, reduceIte, lenV_sl TI, view_sl TI, scalar_sl TI, cells_sl TI, pure_sl TI, lenV_sl np, view_sl np, scalar_sl np, cells_sl np, pure_sl np, lenV_sl nb, view_sl nb, scalar_sl nb, cells_sl nb, pure_sl nb, lenV_sl W, view_sl W, scalar_sl W, cells_sl W, pure_sl W, lenV_sl Y, view_sl Y, scalar_sl Y, cells_sl Y, pure_sl Y, c1, a4, hv, c6, c7, d11, gUn, decide_true, decide_false]
    done
  have ev : A.vE s.valid = 0 := by rw [hvs]; rfl
  rw [ev] at c7
  by_cases g2 : (l.length : Int) > 40
  · simp (disch := first | assumption | omega | (simp only [az]; done)) only [ru, eq_self, if_true, if_false, BEq.rfl, binI, AO.row?, splice, fillL, mmAll, loadV, storeV, zeros, Am.rowAt, Am.part, addOff, Nat.reduceAdd, Nat.reduceMul, Nat.reduceLeDiff, Nat.reduceSub, Nat.reduceLT, Int.reduceEq, Int.reduceLT, Int.reduceLE, Int.reduceGT, Int.reduceGE, Int.reduceAdd, Int.reduceSub, Int.reduceMul, Int.reduceNeg, Int.reduceToNat, reduceCtorEq, reduceIte, lenV_sl TI, view_sl TI, scalar_sl TI, cells_sl TI, pure_sl TI, lenV_sl np, view_sl np, scalar_sl np, cells_sl np, pure_sl np, lenV_sl nb, view_sl nb, scalar_sl nb, cells_sl nb, pure_sl nb, lenV_sl W, view_sl W, scalar_sl W, cells_sl W, pure_sl W, lenV_sl Y, view_sl Y, scalar_sl Y, cells_sl Y, pure_sl Y, c1, a4, hv, c6, c7, g2, d11, gUn, decide_true, decide_false]
    done
  by_cases g3 : (m.length : Int) > 40
  · simp (disch := first | assumption | omega | (simp only [az]; done)) only [ru, eq_self, if_true, if_false, BEq.rfl, binI, AO.row?, splice, fillL, mmAll, loadV, storeV, zeros, Am.rowAt, Am.part, addOff, Nat.reduceAdd, Nat.reduceMul, Nat.reduceLeDiff, Nat.reduceSub, Nat.reduceLT, Int.reduceEq, Int.reduceLT, Int.reduceLE, Int.reduceGT, Int.reduceGE, Int.reduceAdd, Int.reduceSub, Int.reduceMul, Int.reduceNeg, Int.reduceToNat, reduceCtorEq, reduceIte, lenV_sl TI, view_sl TI, scalar_sl TI, cells_sl TI, pure_sl TI, lenV_sl np, view_sl np, scalar_sl np, cells_sl np, pure_sl np, lenV_sl nb, view_sl nb, scalar_sl nb, cells_sl nb, pure_sl nb, lenV_sl W, view_sl W, scalar_sl W, cells_sl W, pure_sl W, lenV_sl Y, view_sl Y, scalar_sl Y, cells_sl Y, pure_sl Y, c1, a4, hv, c6, c7, g2, g3, d11, gUn, decide_true, decide_false]
    done
  have a5 := fun st => s17 H T W st
  cases ht : truB t l
  · simp (disch := first | assumption | omega | (simp only [az]; done)) only [ru, eq_self, if_true, if_false, BEq.rfl, binI, AO.row?, splice, fillL, mmAll, loadV, storeV, zeros, Am.rowAt, Am.part, addOff, Nat.reduceAdd, Nat.reduceMul, Nat.reduceLeDiff, Nat.reduceSub, Nat.reduceLT, Int.reduceEq, Int.reduceLT, Int.reduceLE, Int.reduceGT, Int.reduceGE, Int.reduceAdd, Int.reduceSub, Int.reduceMul, Int.reduceNeg, Int.reduceToNat, reduceCtorEq, reduceIte, lenV_sl TI, view_sl TI, scalar_sl TI, cells_sl TI, pure_sl TI, lenV_sl np, view_sl np, scalar_sl np, cells_sl np, pure_sl np, lenV_sl nb, view_sl nb, scalar_sl nb, cells_sl nb, pure_sl nb, lenV_sl W, view_sl W, scalar_sl W, cells_sl W, pure_sl W, lenV_sl Y, view_sl Y, scalar_sl Y, cells_sl Y, pure_sl Y, c1, a4, hv, c6, c7, g2, g3, a5, ht, d11, gUn, decide_true, decide_false, Bool.not_false]
    done
  obtain ⟨ll, tr⟩ := (truB_iff T).1 ht
  have h1 : is1 t = true := (is1_iff T.toTG).2 ⟨_, tr⟩
  have ub : ∀ i, i < t.length → 0 ≤ fu l i ∧ fu l i ≤ 30 := fun i hi => (tr.1 i hi).1
  have a20 := fun st => s20 H st
  simp only [askR, hv, if_true, btw, h1] at a20
  have L := loV_spec (r := rW t) T.toTG h1
  have U := hiV_spec (r := rW t) T.toTG h1
  have b1 := L.2 _ tr
  have b2 := U.2 _ tr
  have b3 : 0 ≤ loV t (rW t) := by
    obtain ⟨u, hu, e⟩ := L.1
    rw [← e]; exact (linW_bd (fun i hi => (hu.1 i hi).1) (Nat.le_refl _)).1
  have b4 : hiV t (rW t) ≤ 240 := by
    obtain ⟨u, hu, e⟩ := U.1
    rw [← e]
    have := (linW_bd (fun i hi => (hu.1 i hi).1) (Nat.le_refl t.length)).2
    omega
  obtain ⟨lo, hlo⟩ : ∃ lo, lo = loV t (rW t) := ⟨_, rfl⟩
  obtain ⟨hi, hhi⟩ : ∃ hi, hi = hiV t (rW t) := ⟨_, rfl⟩
  simp only [← hlo, ← hhi] at a20 b1 b2 b3 b4
  simp (disch := first | assumption | omega | (simp only [az]; done)) only [ru, eq_self, if_true, if_false, BEq.rfl, binI, AO.row?, splice, fillL, mmAll, loadV, storeV, zeros, Am.rowAt, Am.part, addOff, Nat.reduceAdd, Nat.reduceMul, Nat.reduceLeDiff, Nat.reduceSub, Nat.reduceLT, Int.reduceEq, Int.reduceLT, Int.reduceLE, Int.reduceGT, Int.reduceGE, Int.reduceAdd, Int.reduceSub, Int.reduceMul, Int.reduceNeg, Int.reduceToNat, reduceCtorEq, reduceIte, lenV_sl TI, view_sl TI, scalar_sl TI, cells_sl TI, pure_sl TI, lenV_sl np, view_sl np, scalar_sl np, cells_sl np, pure_sl np, lenV_sl nb, view_sl nb, scalar_sl nb, cells_sl nb, pure_sl nb, lenV_sl W, view_sl W, scalar_sl W, cells_sl W, pure_sl W, lenV_sl Y, view_sl Y, scalar_sl Y, cells_sl Y, pure_sl Y, c1, a4, hv, c6, c7, g2, g3, a5, ht, a20, gUn, decide_true, decide_false, Bool.not_true]
  refine G_loop_ind (fun z ts hk mk => ∃ (c : Nat), c ≤ t.length ∧ z = t.length - c ∧ ts.length = 216 ∧ ts.getD 0 .undef = v ∧ ts.getD 4 .undef = .ptr 0 0 ∧ ts.getD 5 .undef = .ptr 1 0 ∧ ts.getD 7 .undef = .ptr 2 0 ∧ ts.getD 8 .undef = I 0 ∧ ts.getD 9 .undef = I (lin (rW t) (fu l) c) ∧ ts.getD 10 .undef = I c ∧
    hk = [.cells [I s.w.lo, I s.w.hi, p, b] false, .cells [w, y] false, .cells [I lo, I hi] false] ∧ mk = []) ?_ _ _ _ _
    ⟨0, Nat.zero_le _, rfl, rfl, rfl, rfl, rfl, rfl, rfl, rfl, rfl, rfl, rfl⟩
  rintro z ts hk mk ih ⟨c, hc, rfl, hll, q0, q4, q5, q7, q8, q9, q10, rfl, rfl⟩
  rw [lit_all hll]
  simp only [lit0, litS, Nat.reduceAdd, q0, q4, q5, q7, q8, q9, q10]
  by_cases hlt : (c : Int) < t.length
  case pos =>
    have hc2 : c < t.length := by omega
    have ls := linW_succ (u := fu l) hc2
    have lb := linW_bd (u := fu l) ub (k := c) (by omega)
    have uc := ub c hc2
    have ep := elem_pt TI (c : Int) (by omega) hlt
    have ew := elem_sl (enc := A.intL) A.intE W (c : Int) (by omega) (by omega)
    simp only [Int.toNat_natCast] at ew ep
    have ez : l.getD c default = fu l c := rfl
    rw [ez] at ew
    obtain ⟨x, hx⟩ : ∃ x, x = t.getD c default := ⟨_, rfl⟩
    rw [← hx] at ls ep
    obtain ⟨S, hS⟩ : ∃ S, S = lin (rW t) (fu l) c := ⟨_, rfl⟩
    rw [← hS] at ls lb ⊢
    obtain ⟨e, he⟩ : ∃ e, e = fu l c := ⟨_, rfl⟩
    rw [← he] at ls uc ew
    by_cases ho : x.of = -1
    · rw [if_pos ho] at ls
      simp (disch := first | assumption | omega | (simp only [az]; done)) only [ru, eq_self, if_true, if_false, BEq.rfl, binI, AO.row?, splice, fillL, mmAll, loadV, storeV, zeros, Am.rowAt, Am.part, addOff, Nat.reduceAdd, Nat.reduceMul, Nat.reduceLeDiff, Nat.reduceSub, Nat.reduceLT, Int.reduceEq, Int.reduceLT, Int.reduceLE, Int.reduceGT, Int.reduceGE, Int.reduceAdd, Int.reduceSub, Int.reduceMul, Int.reduceNeg, Int.reduceToNat, reduceCtorEq, reduceIte, lenV_sl TI, view_sl TI, scalar_sl TI, cells_sl TI, pure_sl TI, lenV_sl W, view_sl W, scalar_sl W, cells_sl W, pure_sl W, hlt, ep, ew, ho, decide_true, decide_false]
      exact ih (t.length - (c + 1)) _ _ _ (by omega) ⟨c + 1, by omega, rfl, rfl, rfl, rfl, rfl, rfl, rfl, by rw [ls]; rfl, rfl, rfl, rfl⟩
    · rw [if_neg ho, Int.add_zero] at ls
      simp (disch := first | assumption | omega | (simp only [az]; done)) only [ru, eq_self, if_true, if_false, BEq.rfl, binI, AO.row?, splice, fillL, mmAll, loadV, storeV, zeros, Am.rowAt, Am.part, addOff, Nat.reduceAdd, Nat.reduceMul, Nat.reduceLeDiff, Nat.reduceSub, Nat.reduceLT, Int.reduceEq, Int.reduceLT, Int.reduceLE, Int.reduceGT, Int.reduceGE, Int.reduceAdd, Int.reduceSub, Int.reduceMul, Int.reduceNeg, Int.reduceToNat, reduceCtorEq, reduceIte, lenV_sl TI, view_sl TI, scalar_sl TI, cells_sl TI, pure_sl TI, lenV_sl W, view_sl W, scalar_sl W, cells_sl W, pure_sl W, hlt, ep, ew, ho, decide_true, decide_false]
      exact ih (t.length - (c + 1)) _ _ _ (by omega) ⟨c + 1, by omega, rfl, rfl, rfl, rfl, rfl, rfl, rfl, by rw [ls]; rfl, rfl, rfl, rfl⟩
  obtain rfl : c = t.length := by omega
  clear ih
  obtain ⟨all, hall⟩ : ∃ x, x = lin (rW t) (fu l) t.length := ⟨_, rfl⟩
  rw [← hall] at b1 b2 ⊢
  have z1 : ¬ lo < 0 := by omega
  have z2 : ¬ lo > all := by omega
  have z3 : ¬ hi < all := by omega
  have z4 : ¬ hi > 240 := by omega
  -- the seas
  obtain ⟨KS, hcs⟩ := A.valid_good hvs
  have good : ∀ a c : Int, 0 ≤ a → a ≤ c → c ≤ 240 → A.SeaG ⟨⟨a, c⟩, s.pl, s.bo⟩ := fun a c h1 h2 h3 => ⟨KS.sp, h1, h2, by show c ≤ 2000; omega, KS.nb, KS.b⟩
  have val : ∀ a c : Int, 0 ≤ a → a ≤ c → c ≤ 240 → (⟨⟨a, c⟩, s.pl, s.bo⟩ : A.Sea).valid = true := fun a c h1 h2 h3 => A.good_valid (good a c h1 h2 h3) hcs
  have okS : ∀ v : A.Spn, A.SeaOk ⟨v, s.pl, s.bo⟩ (A.slV 2 A.Spn.e s.pl) (A.slV 2 A.Bt.e s.bo) := fun v => ⟨⟨A.slV_is, A.slV_is⟩, HS.sp, HS.sb⟩
  have wit : ∀ a c : Int, 0 ≤ a → a ≤ c → c ≤ 240 → Iso E 10 [A.seaV s p b, .agg [I a, I c], I 1] false = some (.agg [I a, I c, A.slV 2 A.Spn.e s.pl, A.slV 2 A.Bt.e s.bo]) := fun a c h1 h2 h3 => by
    have := A.sWith HS (lo := a) (hi := c) (x := 1) (by omega) (by omega) (by omega) (by omega)
    simpa only [Int.mul_one] using this
  have k3 := A.sSurer (s := s) (v := ⟨all, all⟩) (u := ⟨lo, hi⟩) (okS _) (okS _) (val all all (by omega) (Int.le_refl _) (by omega)) (val lo hi b3 (by omega) b4) b1 b2 Y (by omega)
  have k1 := wit lo hi b3 (by omega) b4
  have k2 := wit all all (by omega) (Int.le_refl _) (by omega)
  have KJ := good all all (by omega) (Int.le_refl _) (by omega)
  have vJ := val all all (by omega) (Int.le_refl _) (by omega)
  have vW := val lo hi b3 (by omega) b4
  have k4 := fun st => A.s67 (okS ⟨lo, hi⟩) st
  have k5 := fun st => A.s32 (okS ⟨all, all⟩) st
  have k6 := fun st => A.s26 HS Y (by omega) st
  have YV := A.slV_is (esz := 1) (enc := A.intL) (l := m)
  have k7 := fun st => A.s27 (okS ⟨all, all⟩) YV (by omega) st
  have k8 := fun st => A.s61 (okS ⟨lo, hi⟩) YV (by omega) st
  have cm := A.crew_most KJ
  have mw : A.most ⟨⟨lo, hi⟩, s.pl, s.bo⟩ = A.most ⟨⟨all, all⟩, s.pl, s.bo⟩ := A.most_w
  have lw : A.lft ⟨⟨lo, hi⟩, s.pl, s.bo⟩ m = A.lft ⟨⟨all, all⟩, s.pl, s.bo⟩ m := A.lft_w
  have ec1 : A.crB ⟨⟨all, all⟩, s.pl, s.bo⟩ m = A.crB s m := rfl
  have ec2 : A.crB ⟨⟨lo, hi⟩, s.pl, s.bo⟩ m = A.crB s m := rfl
  have P1 : IsSl 2 A.Spn.e s.pl (A.slV 2 A.Spn.e s.pl) := A.slV_is
  have B1 : IsSl 2 A.Bt.e s.bo (A.slV 2 A.Bt.e s.bo) := A.slV_is
  simp only [A.seaV, A.mosR, A.cheR, A.safR, A.lifR, vJ, vW, if_true, ec1, ec2, mw, lw] at k1 k2 k3 k4 k5 k6 k7 k8
  obtain ⟨P, hP⟩ : ∃ P, P = A.slV 2 A.Spn.e s.pl := ⟨_, rfl⟩
  obtain ⟨B, hB⟩ : ∃ B, B = A.slV 2 A.Bt.e s.bo := ⟨_, rfl⟩
  obtain ⟨yv, hyv⟩ : ∃ yv, yv = A.slV 1 A.intL m := ⟨_, rfl⟩
  rw [← hP] at P1
  rw [← hB] at B1
  rw [← hyv] at YV
  simp only [← hP, ← hB, ← hyv] at k1 k2 k3 k4 k5 k7 k8
  have lf := A.mst_ge (f := A.lft ⟨⟨all, all⟩, s.pl, s.bo⟩) (l := A.crws ⟨⟨all, all⟩, s.pl, s.bo⟩)
  have lf2 : A.crB s m = true → 0 ≤ A.lft ⟨⟨all, all⟩, s.pl, s.bo⟩ m ∧ A.lft ⟨⟨all, all⟩, s.pl, s.bo⟩ m ≤ A.most ⟨⟨all, all⟩, s.pl, s.bo⟩ := fun hc => by
    have hc' : A.isCr ⟨⟨all, all⟩, s.pl, s.bo⟩ m := A.crB_iff.1 (ec1.trans hc)
    exact ⟨A.lftU_ge KJ (by rw [hc'.1]; exact Nat.le_refl _), lf.2 m (A.mem_crws.2 hc')⟩
  have sf : A.saf ⟨⟨all, all⟩, s.pl, s.bo⟩ m = 1 ↔ all ≤ A.lft ⟨⟨all, all⟩, s.pl, s.bo⟩ m := by
    unfold A.saf
    by_cases c : all ≤ A.lft ⟨⟨all, all⟩, s.pl, s.bo⟩ m
    · rw [if_pos c]; exact ⟨fun _ => c, fun _ => rfl⟩
    · rw [if_neg c]
      constructor
      · intro h; split at h <;> omega
      · intro h; exact absurd h c
  -- two copies of the crew
  obtain ⟨cw, x0, x1, A1, RD1⟩ := cpyG (eb := 8) (lim := 0) (J := []) (h := [.cells [I s.w.lo, I s.w.hi, p, b] false, .cells [w, y] false, .cells [I lo, I hi] false, .cells [I lo, I hi, P, B] false, .cells [I all, I all, P, B] false]) Y A.intE A.intSc (by omega) (by omega) (Nat.zero_le _)
  have rv1 := (RD1 []).view A.intE A.intIv (st := false) (k := 7)
  have sc1 := (RD1 []).sc
  obtain ⟨cw2, x2, x3, A2, RD2⟩ := cpyG (eb := 8) (lim := 0) (J := []) (h := [.cells [I s.w.lo, I s.w.hi, p, b] false, .cells [w, y] false, .cells [I lo, I hi] false, .cells [I lo, I hi, P, B] false, .cells [I all, I all, P, B] false, x0, x1]) Y A.intE A.intSc (by omega) (by omega) (Nat.zero_le _)
  have rv2 := (RD2 []).view A.intE A.intIv (st := false) (k := 7)
  have sc2 := (RD2 []).sc
  simp only [apC, apN, lenS, len0, Nat.zero_add, Nat.reduceAdd] at A1 rv1 A2 rv2
  have hyv' : yv = slV 1 A.intL m := hyv
  rw [← hyv'] at rv1 rv2
  obtain ⟨M, hM⟩ : ∃ M, M = A.most ⟨⟨all, all⟩, s.pl, s.bo⟩ := ⟨_, rfl⟩
  obtain ⟨N, hN⟩ : ∃ N, N = A.lft ⟨⟨all, all⟩, s.pl, s.bo⟩ m := ⟨_, rfl⟩
  obtain ⟨K, hK⟩ : ∃ K, K = A.saf ⟨⟨all, all⟩, s.pl, s.bo⟩ m := ⟨_, rfl⟩
  rw [← hM] at cm lf2
  rw [← hN] at lf2 sf
  rw [← hK] at sf
  simp only [← hM, ← hN, ← hK] at k4 k7 k8
  have cm' : (∃ x, A.crew ⟨⟨all, all⟩, s.pl, s.bo⟩ = some x) ↔ s.pl.length ≤ s.bo.length ∧ all ≤ M := cm
  have n30 : ¬ (3 : Int) = 0 := by decide
  by_cases hpb : s.pl.length ≤ s.bo.length
  case neg =>
    have cn : A.crew ⟨⟨all, all⟩, s.pl, s.bo⟩ = none := by
      cases hx : A.crew ⟨⟨all, all⟩, s.pl, s.bo⟩ with
      | none => rfl
      | some x => exact absurd (cm'.1 ⟨x, hx⟩).1 hpb
    simp only [cn, hpb, if_false] at k4 k5
    have ncr : A.crB s m = false := by
      cases hc : A.crB s m
      · rfl
      · exact absurd (A.cr_len (A.crB_iff.1 hc)) hpb
    rw [ncr] at k6
    simp (disch := first | assumption | omega | (simp only [az]; done)) only [ru, eq_self, if_true, if_false, BEq.rfl, binI, AO.row?, splice, fillL, mmAll, loadV, storeV, zeros, Am.rowAt, Am.part, addOff, Nat.reduceAdd, Nat.reduceMul, Nat.reduceLeDiff, Nat.reduceSub, Nat.reduceLT, Int.reduceEq, Int.reduceLT, Int.reduceLE, Int.reduceGT, Int.reduceGE, Int.reduceAdd, Int.reduceSub, Int.reduceMul, Int.reduceNeg, Int.reduceToNat, reduceCtorEq, reduceIte, lenV_sl TI, view_sl TI, scalar_sl TI, cells_sl TI, pure_sl TI, lenV_sl np, view_sl np, scalar_sl np, cells_sl np, pure_sl np, lenV_sl nb, view_sl nb, scalar_sl nb, cells_sl nb, pure_sl nb, lenV_sl W, view_sl W, scalar_sl W, cells_sl W, pure_sl W, lenV_sl Y, view_sl Y, scalar_sl Y, cells_sl Y, pure_sl Y, lenV_sl P1, view_sl P1, scalar_sl P1, cells_sl P1, pure_sl P1, lenV_sl B1, view_sl B1, scalar_sl B1, cells_sl B1, pure_sl B1, hlt, z1, z2, z3, z4, k1, k2, k3, k4, k5, k6, d11, gUn, decide_true, decide_false, Bool.not_true, Bool.not_false, bne_self_eq_false]
    done
  simp only [hpb, if_true] at k4
  by_cases ham : all ≤ M
  · obtain ⟨x, hx⟩ := cm'.2 ⟨hpb, ham⟩
    simp only [hx] at k5
    have ham' : M ≥ all := ham
    have m1 : ¬ M < lo := by omega
    cases hc : A.crB s m
    · rw [hc] at k6
      simp (disch := first | assumption | omega | (simp only [az]; done)) only [ru, eq_self, if_true, if_false, BEq.rfl, binI, AO.row?, splice, fillL, mmAll, loadV, storeV, zeros, Am.rowAt, Am.part, addOff, Nat.reduceAdd, Nat.reduceMul, Nat.reduceLeDiff, Nat.reduceSub, Nat.reduceLT, Int.reduceEq, Int.reduceLT, Int.reduceLE, Int.reduceGT, Int.reduceGE, Int.reduceAdd, Int.reduceSub, Int.reduceMul, Int.reduceNeg, Int.reduceToNat, reduceCtorEq, reduceIte, lenV_sl TI, view_sl TI, scalar_sl TI, cells_sl TI, pure_sl TI, lenV_sl np, view_sl np, scalar_sl np, cells_sl np, pure_sl np, lenV_sl nb, view_sl nb, scalar_sl nb, cells_sl nb, pure_sl nb, lenV_sl W, view_sl W, scalar_sl W, cells_sl W, pure_sl W, lenV_sl Y, view_sl Y, scalar_sl Y, cells_sl Y, pure_sl Y, lenV_sl P1, view_sl P1, scalar_sl P1, cells_sl P1, pure_sl P1, lenV_sl B1, view_sl B1, scalar_sl B1, cells_sl B1, pure_sl B1, hlt, z1, z2, z3, z4, k1, k2, k3, k4, k5, k6, ham', m1, d11, gUn, decide_true, decide_false, Bool.not_true, Bool.not_false, bne_self_eq_false]
      done
    have l2 := lf2 hc
    rw [hc] at k6
    simp only [hc, if_true] at k7 k8
    have i17 := fun st => A.s17 N 0 M st
    have iR : A.inR N 0 M = true := A.inR_iff.2 l2
    rw [iR] at i17
    by_cases hk : all ≤ N
    · have k1' : K = 1 := sf.2 hk
      have hk' : N ≥ all := hk
      simp (disch := first | assumption | omega | (simp only [az]; done)) only [ru, eq_self, if_true, if_false, BEq.rfl, binI, AO.row?, splice, fillL, mmAll, loadV, storeV, zeros, Am.rowAt, Am.part, addOff, Nat.reduceAdd, Nat.reduceMul, Nat.reduceLeDiff, Nat.reduceSub, Nat.reduceLT, Int.reduceEq, Int.reduceLT, Int.reduceLE, Int.reduceGT, Int.reduceGE, Int.reduceAdd, Int.reduceSub, Int.reduceMul, Int.reduceNeg, Int.reduceToNat, reduceCtorEq, reduceIte, lenV_sl TI, view_sl TI, scalar_sl TI, cells_sl TI, pure_sl TI, lenV_sl np, view_sl np, scalar_sl np, cells_sl np, pure_sl np, lenV_sl nb, view_sl nb, scalar_sl nb, cells_sl nb, pure_sl nb, lenV_sl W, view_sl W, scalar_sl W, cells_sl W, pure_sl W, lenV_sl Y, view_sl Y, scalar_sl Y, cells_sl Y, pure_sl Y, lenV_sl P1, view_sl P1, scalar_sl P1, cells_sl P1, pure_sl P1, lenV_sl B1, view_sl B1, scalar_sl B1, cells_sl B1, pure_sl B1, lenV_sl YV, view_sl YV, scalar_sl YV, cells_sl YV, pure_sl YV, hlt, z1, z2, z3, z4, k1, k2, k3, k4, k5, k6, ham', m1, GO_mapp, unhN, unhC, gUn, decide_true, decide_false, Bool.not_true, Bool.not_false, bne_self_eq_false]
      simp (disch := first | assumption | omega | (simp only [az]; done)) only [ru, eq_self, if_true, if_false, BEq.rfl, binI, AO.row?, splice, fillL, mmAll, loadV, storeV, zeros, Am.rowAt, Am.part, addOff, Nat.reduceAdd, Nat.reduceMul, Nat.reduceLeDiff, Nat.reduceSub, Nat.reduceLT, Int.reduceEq, Int.reduceLT, Int.reduceLE, Int.reduceGT, Int.reduceGE, Int.reduceAdd, Int.reduceSub, Int.reduceMul, Int.reduceNeg, Int.reduceToNat, reduceCtorEq, reduceIte, lenV_sl np, view_sl np, scalar_sl np, cells_sl np, pure_sl np, lenV_sl nb, view_sl nb, scalar_sl nb, cells_sl nb, pure_sl nb, lenV_sl W, view_sl W, scalar_sl W, cells_sl W, pure_sl W, lenV_sl Y, view_sl Y, scalar_sl Y, cells_sl Y, pure_sl Y, lenV_sl P1, view_sl P1, scalar_sl P1, cells_sl P1, pure_sl P1, lenV_sl B1, view_sl B1, scalar_sl B1, cells_sl B1, pure_sl B1, lenV_sl YV, view_sl YV, scalar_sl YV, cells_sl YV, pure_sl YV, ham', m1, GO_mapp, unhN, unhC, A1, rv1, sc1.1, sc1.2.1, A2, rv2, sc2.1, sc2.2.1, k7, k8, k1', hk', i17, d11, gUn, decide_true, decide_false, Bool.not_true, Bool.not_false, bne_self_eq_false]
      done
    · have k1' : ¬ K = 1 := fun e => hk (sf.1 e)
      have hk' : ¬ N ≥ all := hk
      simp (disch := first | assumption | omega | (simp only [az]; done)) only [ru, eq_self, if_true, if_false, BEq.rfl, binI, AO.row?, splice, fillL, mmAll, loadV, storeV, zeros, Am.rowAt, Am.part, addOff, Nat.reduceAdd, Nat.reduceMul, Nat.reduceLeDiff, Nat.reduceSub, Nat.reduceLT, Int.reduceEq, Int.reduceLT, Int.reduceLE, Int.reduceGT, Int.reduceGE, Int.reduceAdd, Int.reduceSub, Int.reduceMul, Int.reduceNeg, Int.reduceToNat, reduceCtorEq, reduceIte, lenV_sl TI, view_sl TI, scalar_sl TI, cells_sl TI, pure_sl TI, lenV_sl np, view_sl np, scalar_sl np, cells_sl np, pure_sl np, lenV_sl nb, view_sl nb, scalar_sl nb, cells_sl nb, pure_sl nb, lenV_sl W, view_sl W, scalar_sl W, cells_sl W, pure_sl W, lenV_sl Y, view_sl Y, scalar_sl Y, cells_sl Y, pure_sl Y, lenV_sl P1, view_sl P1, scalar_sl P1, cells_sl P1, pure_sl P1, lenV_sl B1, view_sl B1, scalar_sl B1, cells_sl B1, pure_sl B1, lenV_sl YV, view_sl YV, scalar_sl YV, cells_sl YV, pure_sl YV, hlt, z1, z2, z3, z4, k1, k2, k3, k4, k5, k6, ham', m1, GO_mapp, unhN, unhC, gUn, decide_true, decide_false, Bool.not_true, Bool.not_false, bne_self_eq_false]
      simp (disch := first | assumption | omega | (simp only [az]; done)) only [ru, eq_self, if_true, if_false, BEq.rfl, binI, AO.row?, splice, fillL, mmAll, loadV, storeV, zeros, Am.rowAt, Am.part, addOff, Nat.reduceAdd, Nat.reduceMul, Nat.reduceLeDiff, Nat.reduceSub, Nat.reduceLT, Int.reduceEq, Int.reduceLT, Int.reduceLE, Int.reduceGT, Int.reduceGE, Int.reduceAdd, Int.reduceSub, Int.reduceMul, Int.reduceNeg, Int.reduceToNat, reduceCtorEq, reduceIte, lenV_sl np, view_sl np, scalar_sl np, cells_sl np, pure_sl np, lenV_sl nb, view_sl nb, scalar_sl nb, cells_sl nb, pure_sl nb, lenV_sl W, view_sl W, scalar_sl W, cells_sl W, pure_sl W, lenV_sl Y, view_sl Y, scalar_sl Y, cells_sl Y, pure_sl Y, lenV_sl P1, view_sl P1, scalar_sl P1, cells_sl P1, pure_sl P1, lenV_sl B1, view_sl B1, scalar_sl B1, cells_sl B1, pure_sl B1, lenV_sl YV, view_sl YV, scalar_sl YV, cells_sl YV, pure_sl YV, ham', m1, GO_mapp, unhN, unhC, A1, rv1, sc1.1, sc1.2.1, A2, rv2, sc2.1, sc2.2.1, k7, k8, k1', hk', i17, d11, gUn, decide_true, decide_false, Bool.not_true, Bool.not_false, bne_self_eq_false]
      done
  · have cn : A.crew ⟨⟨all, all⟩, s.pl, s.bo⟩ = none := by
      cases hx : A.crew ⟨⟨all, all⟩, s.pl, s.bo⟩ with
      | none => rfl
      | some x => exact absurd (cm'.1 ⟨x, hx⟩).2 ham
    simp only [cn] at k5
    have ham' : ¬ M ≥ all := ham
    cases hc : A.crB s m
    · rw [hc] at k6
      by_cases m1 : M < lo
      · simp (disch := first | assumption | omega | (simp only [az]; done)) only [ru, eq_self, if_true, if_false, BEq.rfl, binI, AO.row?, splice, fillL, mmAll, loadV, storeV, zeros, Am.rowAt, Am.part, addOff, Nat.reduceAdd, Nat.reduceMul, Nat.reduceLeDiff, Nat.reduceSub, Nat.reduceLT, Int.reduceEq, Int.reduceLT, Int.reduceLE, Int.reduceGT, Int.reduceGE, Int.reduceAdd, Int.reduceSub, Int.reduceMul, Int.reduceNeg, Int.reduceToNat, reduceCtorEq, reduceIte, lenV_sl TI, view_sl TI, scalar_sl TI, cells_sl TI, pure_sl TI, lenV_sl np, view_sl np, scalar_sl np, cells_sl np, pure_sl np, lenV_sl nb, view_sl nb, scalar_sl nb, cells_sl nb, pure_sl nb, lenV_sl W, view_sl W, scalar_sl W, cells_sl W, pure_sl W, lenV_sl Y, view_sl Y, scalar_sl Y, cells_sl Y, pure_sl Y, lenV_sl P1, view_sl P1, scalar_sl P1, cells_sl P1, pure_sl P1, lenV_sl B1, view_sl B1, scalar_sl B1, cells_sl B1, pure_sl B1, hlt, z1, z2, z3, z4, k1, k2, k3, k4, k5, k6, ham', m1, d11, gUn, decide_true, decide_false, Bool.not_true, Bool.not_false, bne_self_eq_false]
        done
      · simp (disch := first | assumption | omega | (simp only [az]; done)) only [ru, eq_self, if_true, if_false, BEq.rfl, binI, AO.row?, splice, fillL, mmAll, loadV, storeV, zeros, Am.rowAt, Am.part, addOff, Nat.reduceAdd, Nat.reduceMul, Nat.reduceLeDiff, Nat.reduceSub, Nat.reduceLT, Int.reduceEq, Int.reduceLT, Int.reduceLE, Int.reduceGT, Int.reduceGE, Int.reduceAdd, Int.reduceSub, Int.reduceMul, Int.reduceNeg, Int.reduceToNat, reduceCtorEq, reduceIte, lenV_sl TI, view_sl TI, scalar_sl TI, cells_sl TI, pure_sl TI, lenV_sl np, view_sl np, scalar_sl np, cells_sl np, pure_sl np, lenV_sl nb, view_sl nb, scalar_sl nb, cells_sl nb, pure_sl nb, lenV_sl W, view_sl W, scalar_sl W, cells_sl W, pure_sl W, lenV_sl Y, view_sl Y, scalar_sl Y, cells_sl Y, pure_sl Y, lenV_sl P1, view_sl P1, scalar_sl P1, cells_sl P1, pure_sl P1, lenV_sl B1, view_sl B1, scalar_sl B1, cells_sl B1, pure_sl B1, hlt, z1, z2, z3, z4, k1, k2, k3, k4, k5, k6, ham', m1, d11, gUn, decide_true, decide_false, Bool.not_true, Bool.not_false, bne_self_eq_false]
        done
    have l2 := lf2 hc
    rw [hc] at k6
    simp only [hc, if_true] at k7 k8
    have i17 := fun st => A.s17 N 0 M st
    have iR : A.inR N 0 M = true := A.inR_iff.2 l2
    rw [iR] at i17
    have hk : ¬ all ≤ N := by omega
    have k1' : ¬ K = 1 := fun e => hk (sf.1 e)
    have hk' : ¬ N ≥ all := hk
    by_cases m1 : M < lo
    · simp (disch := first | assumption | omega | (simp only [az]; done)) only [ru, eq_self, if_true, if_false, BEq.rfl, binI, AO.row?, splice, fillL, mmAll, loadV, storeV, zeros, Am.rowAt, Am.part, addOff, Nat.reduceAdd, Nat.reduceMul, Nat.reduceLeDiff, Nat.reduceSub, Nat.reduceLT, Int.reduceEq, Int.reduceLT, Int.reduceLE, Int.reduceGT, Int.reduceGE, Int.reduceAdd, Int.reduceSub, Int.reduceMul, Int.reduceNeg, Int.reduceToNat, reduceCtorEq, reduceIte, lenV_sl TI, view_sl TI, scalar_sl TI, cells_sl TI, pure_sl TI, lenV_sl np, view_sl np, scalar_sl np, cells_sl np, pure_sl np, lenV_sl nb, view_sl nb, scalar_sl nb, cells_sl nb, pure_sl nb, lenV_sl W, view_sl W, scalar_sl W, cells_sl W, pure_sl W, lenV_sl Y, view_sl Y, scalar_sl Y, cells_sl Y, pure_sl Y, lenV_sl P1, view_sl P1, scalar_sl P1, cells_sl P1, pure_sl P1, lenV_sl B1, view_sl B1, scalar_sl B1, cells_sl B1, pure_sl B1, lenV_sl YV, view_sl YV, scalar_sl YV, cells_sl YV, pure_sl YV, hlt, z1, z2, z3, z4, k1, k2, k3, k4, k5, k6, ham', m1, GO_mapp, unhN, unhC, gUn, decide_true, decide_false, Bool.not_true, Bool.not_false, bne_self_eq_false]
      simp (disch := first | assumption | omega | (simp only [az]; done)) only [ru, eq_self, if_true, if_false, BEq.rfl, binI, AO.row?, splice, fillL, mmAll, loadV, storeV, zeros, Am.rowAt, Am.part, addOff, Nat.reduceAdd, Nat.reduceMul, Nat.reduceLeDiff, Nat.reduceSub, Nat.reduceLT, Int.reduceEq, Int.reduceLT, Int.reduceLE, Int.reduceGT, Int.reduceGE, Int.reduceAdd, Int.reduceSub, Int.reduceMul, Int.reduceNeg, Int.reduceToNat, reduceCtorEq, reduceIte, lenV_sl np, view_sl np, scalar_sl np, cells_sl np, pure_sl np, lenV_sl nb, view_sl nb, scalar_sl nb, cells_sl nb, pure_sl nb, lenV_sl W, view_sl W, scalar_sl W, cells_sl W, pure_sl W, lenV_sl Y, view_sl Y, scalar_sl Y, cells_sl Y, pure_sl Y, lenV_sl P1, view_sl P1, scalar_sl P1, cells_sl P1, pure_sl P1, lenV_sl B1, view_sl B1, scalar_sl B1, cells_sl B1, pure_sl B1, lenV_sl YV, view_sl YV, scalar_sl YV, cells_sl YV, pure_sl YV, ham', m1, GO_mapp, unhN, unhC, A1, rv1, sc1.1, sc1.2.1, A2, rv2, sc2.1, sc2.2.1, k7, k8, k1', hk', i17, d11, gUn, decide_true, decide_false, Bool.not_true, Bool.not_false, bne_self_eq_false]
      done
    · simp (disch := first | assumption | omega | (simp only [az]; done)) only [ru, eq_self, if_true, if_false, BEq.rfl, binI, AO.row?, splice, fillL, mmAll, loadV, storeV, zeros, Am.rowAt, Am.part, addOff, Nat.reduceAdd, Nat.reduceMul, Nat.reduceLeDiff, Nat.reduceSub, Nat.reduceLT, Int.reduceEq, Int.reduceLT, Int.reduceLE, Int.reduceGT, Int.reduceGE, Int.reduceAdd, Int.reduceSub, Int.reduceMul, Int.reduceNeg, Int.reduceToNat, reduceCtorEq, reduceIte, lenV_sl TI, view_sl TI, scalar_sl TI, cells_sl TI, pure_sl TI, lenV_sl np, view_sl np, scalar_sl np, cells_sl np, pure_sl np, lenV_sl nb, view_sl nb, scalar_sl nb, cells_sl nb, pure_sl nb, lenV_sl W, view_sl W, scalar_sl W, cells_sl W, pure_sl W, lenV_sl Y, view_sl Y, scalar_sl Y, cells_sl Y, pure_sl Y, lenV_sl P1, view_sl P1, scalar_sl P1, cells_sl P1, pure_sl P1, lenV_sl B1, view_sl B1, scalar_sl B1, cells_sl B1, pure_sl B1, lenV_sl YV, view_sl YV, scalar_sl YV, cells_sl YV, pure_sl YV, hlt, z1, z2, z3, z4, k1, k2, k3, k4, k5, k6, ham', m1, GO_mapp, unhN, unhC, gUn, decide_true, decide_false, Bool.not_true, Bool.not_false, bne_self_eq_false]
      simp (disch := first | assumption | omega | (simp only [az]; done)) only [ru, eq_self, if_true, if_false, BEq.rfl, binI, AO.row?, splice, fillL, mmAll, loadV, storeV, zeros, Am.rowAt, Am.part, addOff, Nat.reduceAdd, Nat.reduceMul, Nat.reduceLeDiff, Nat.reduceSub, Nat.reduceLT, Int.reduceEq, Int.reduceLT, Int.reduceLE, Int.reduceGT, Int.reduceGE, Int.reduceAdd, Int.reduceSub, Int.reduceMul, Int.reduceNeg, Int.reduceToNat, reduceCtorEq, reduceIte, lenV_sl np, view_sl np, scalar_sl np, cells_sl np, pure_sl np, lenV_sl nb, view_sl nb, scalar_sl nb, cells_sl nb, pure_sl nb, lenV_sl W, view_sl W, scalar_sl W, cells_sl W, pure_sl W, lenV_sl Y, view_sl Y, scalar_sl Y, cells_sl Y, pure_sl Y, lenV_sl P1, view_sl P1, scalar_sl P1, cells_sl P1, pure_sl P1, lenV_sl B1, view_sl B1, scalar_sl B1, cells_sl B1, pure_sl B1, lenV_sl YV, view_sl YV, scalar_sl YV, cells_sl YV, pure_sl YV, ham', m1, GO_mapp, unhN, unhC, A1, rv1, sc1.1, sc1.2.1, A2, rv2, sc2.1, sc2.2.1, k7, k8, k1', hk', i17, d11, gUn, decide_true, decide_false, Bool.not_true, Bool.not_false, bne_self_eq_false]
      done
end Go.Proofs.Ytokhneffambgmaa.S
