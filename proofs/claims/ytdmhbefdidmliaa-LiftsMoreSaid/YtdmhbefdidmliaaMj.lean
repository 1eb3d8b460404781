/-
LiftsMore: a boat more, a stronger boat, a narrower span.
-/
import Derived.Test.YtdmhbefdidmliaaS3
namespace Go.Proofs.Ytdmhbefdidmliaa.S
open Go Go.Am Go.Proofs.Ytdmhbefdidmliaa.T
set_option maxRecDepth 100000
set_option linter.unusedSimpArgs false
set_option linter.unusedVariables false

theorem sp_put3 {l : List Spn} {i : Nat} (hi : i < l.length) (x y : Int) : (l.flatMap Spn.e).take (i * 2) ++ [I x, I y] ++ (l.flatMap Spn.e).drop (i * 2 + 2) = (l.set i ⟨x, y⟩).flatMap Spn.e := by
  induction l generalizing i with
  | nil => simp at hi
  | cons a l ih =>
    cases i with
    | zero => rfl
    | succ i =>
      have e : (i + 1) * 2 = i * 2 + 1 + 1 := by omega
      have := ih (i := i) (by simpa using hi)
      rw [e]
      show I a.lo :: I a.hi :: ((l.flatMap Spn.e).take (i * 2) ++ [I x, I y] ++ (l.flatMap Spn.e).drop (i * 2 + 2)) = _
      rw [this]; rfl

section
variable {s : Sea} {p b : AV}
/-- the needs, for a sea in memory -/
theorem s20' (H : SeaOk s p b) (hv : s.valid = true) (st : Bool) : Iso E 20 [seaV s p b] st = some (.tup [resL (nds s), Bo true]) := by
  have K := (valid_good hv).1
  have sp := H.sp
  refine Iso_of (es _ _ _ _) e20 ?_
  simp only [f20, seaV]
  simp (disch := first | assumption | omega | (simp only [az]; done)) only [ru, eq_self, if_true, if_false, BEq.rfl, binI, AO.row?, splice, fillL, mmAll, loadV, storeV, zeros, Am.rowAt, Am.part, addOff, Nat.reduceAdd, Nat.reduceMul, Nat.reduceLeDiff, Nat.reduceSub, Nat.reduceLT, Int.reduceEq, Int.reduceLT, Int.reduceLE, Int.reduceGT, Int.reduceGE, Int.reduceAdd, Int.reduceSub, Int.reduceMul, Int.reduceNeg, Int.reduceToNat, reduceCtorEq, reduceIte]
  refine G_loop_ind (fun m ts h mk => ∃ (i : Nat) (J : List AO) (o : AV), i ≤ s.pl.length ∧ m = s.pl.length - i ∧ OutE intL 1 1 (.cells [I s.w.lo, I s.w.hi, p, b] false :: J) o ((List.range i).map (needv s)) ∧ ts.length = 36 ∧ ts.getD 1 .undef = .ptr 0 0 ∧ ts.getD 4 .undef = o ∧ ts.getD 5 .undef = I i ∧ h = .cells [I s.w.lo, I s.w.hi, p, b] false :: J ∧ mk = []) ?_ _ _ _ _
    ⟨0, [], .nils, Nat.zero_le _, rfl, .inl ⟨rfl, rfl⟩, rfl, rfl, rfl, rfl, rfl, rfl⟩
  rintro m ts h mk ih ⟨i, J, o, hi, rfl, ho, hl', q1, q4, q5, rfl, rfl⟩
  rw [lit_all hl']
  simp only [lit0, litS, Nat.reduceAdd, q1, q4, q5]
  simp (disch := first | assumption | omega | (simp only [az]; done)) only [ru, eq_self, if_true, if_false, BEq.rfl, binI, AO.row?, splice, fillL, mmAll, loadV, storeV, zeros, Am.rowAt, Am.part, addOff, Nat.reduceAdd, Nat.reduceMul, Nat.reduceLeDiff, Nat.reduceSub, Nat.reduceLT, Int.reduceEq, Int.reduceLT, Int.reduceLE, Int.reduceGT, Int.reduceGE, Int.reduceAdd, Int.reduceSub, Int.reduceMul, Int.reduceNeg, Int.reduceToNat, reduceCtorEq, reduceIte, lenV_sl H.p, lenV_sl H.b, elem_sp H.p, elem_bt H.b, view_sl H.p, view_sl H.b, scalar_sl H.p, scalar_sl H.b, cells_sl H.p, cells_sl H.b, pure_sl H.p, pure_sl H.b, Int.toNat_natCast]
  by_cases hlt : (i : Int) < s.pl.length
  case pos =>
    have hi' : i < s.pl.length := by omega
    have g := fun st => s57 H (i : Int) st
    have hq : inR (i : Int) 0 (s.pl.length - 1) = true := inR_iff.2 (by omega)
    simp only [seaV, neeR, hv, hq, if_true, Int.toNat_natCast] at g
    obtain ⟨_, _, n1, n2⟩ := need_ok K hi'
    have n1' : ¬ needv s i < 0 := by omega
    have n2' : ¬ needv s i > 2000 := by omega
    obtain ⟨v', J', ha, ho'⟩ := outE_app (pre := [(.cells [I s.w.lo, I s.w.hi, p, b] false : AO)]) (J := J) (eb := 8) (lim := 0) intE intSc (by omega) (by omega) (by omega) ho (Nat.zero_le _) (by simp; omega) (needv s i)
    simp only [apC, apN, lenS, len0, Nat.zero_add] at ha ho'
    simp (disch := first | assumption | omega | (simp only [az]; done)) only [ru, eq_self, if_true, if_false, BEq.rfl, binI, AO.row?, splice, fillL, mmAll, loadV, storeV, zeros, Am.rowAt, Am.part, addOff, Nat.reduceAdd, Nat.reduceMul, Nat.reduceLeDiff, Nat.reduceSub, Nat.reduceLT, Int.reduceEq, Int.reduceLT, Int.reduceLE, Int.reduceGT, Int.reduceGE, Int.reduceAdd, Int.reduceSub, Int.reduceMul, Int.reduceNeg, Int.reduceToNat, reduceCtorEq, reduceIte, lenV_sl H.p, lenV_sl H.b, elem_sp H.p, elem_bt H.b, view_sl H.p, view_sl H.b, scalar_sl H.p, scalar_sl H.b, cells_sl H.p, cells_sl H.b, pure_sl H.p, pure_sl H.b, Int.toNat_natCast, hlt, g, n1', n2', decide_false, decide_true, Bool.not_true, exOp_litS, AV.pureV.go, AV.pureV, Bool.and_true, ha]
    exact ih (s.pl.length - (i + 1)) _ _ _ (by omega) ⟨i + 1, J', v', by omega, rfl, by rw [rmap_succ]; exact ho', rfl, rfl, rfl, rfl, rfl, rfl⟩
  obtain rfl : i = s.pl.length := by omega
  have vw := ho.viewL (st := st) (k := 6)
  simp (disch := first | assumption | omega | (simp only [az]; done)) only [ru, eq_self, if_true, if_false, BEq.rfl, binI, AO.row?, splice, fillL, mmAll, loadV, storeV, zeros, Am.rowAt, Am.part, addOff, Nat.reduceAdd, Nat.reduceMul, Nat.reduceLeDiff, Nat.reduceSub, Nat.reduceLT, Int.reduceEq, Int.reduceLT, Int.reduceLE, Int.reduceGT, Int.reduceGE, Int.reduceAdd, Int.reduceSub, Int.reduceMul, Int.reduceNeg, Int.reduceToNat, reduceCtorEq, reduceIte, hlt, vw]
  rfl
/-- the sea R is s with one span narrowed from z to lo, hi -/
def Cut (s : Sea) (lo hi : Int) (R : Sea) (z : Spn) : Prop := R.pl.length = s.pl.length ∧ R.bo = s.bo ∧ (¬ lo < z.lo → ¬ hi > z.hi → R.valid = true → ∀ i, i < s.pl.length → needv R i ≤ needv s i)
theorem cut_place {k : Nat} (hk : k < s.pl.length) {lo hi : Int} : Cut s lo hi ⟨s.w, s.pl.set k ⟨lo, hi⟩, s.bo⟩ (s.pl.getD k default) := by
  refine ⟨by simp, rfl, fun h1 h2 hv i hi' => ?_⟩
  have K := (valid_good hv).1
  have sh := shr_le K.sp (p := i) (by simpa using hi')
  exact need_mono (by show 0 ≤ s.w.hi; have := K.w0; have := K.w1; simp only at *; omega) (Int.le_refl _) (by omega) (set_shH hk hi' (by show _ ≤ lo; omega) (by show hi ≤ _; omega))
theorem cut_weight {lo hi : Int} : Cut s lo hi ⟨⟨lo, hi⟩, s.pl, s.bo⟩ s.w := by
  refine ⟨rfl, rfl, fun h1 h2 hv i hi' => ?_⟩
  have K := (valid_good hv).1
  have sh := shr_le K.sp (p := i) hi'
  exact need_mono (by have := K.w0; have := K.w1; simp only at *; omega) (by show hi ≤ _; omega) (by omega) (Int.le_refl _)

set_option maxHeartbeats 8000000 in
theorem s7 (H0 : SeaIn s p b) (bc bp x lo hi : Int) (st : Bool) : Iso E 7 [seaV s p b, .agg [I bc, I bp], .agg [I x, I lo, I hi]] st = some (Bo true) := by
  have g0 := fun st => s16 H0 st
  refine Iso_of (es _ _ _ _) e7 ?_
  simp only [f7, seaV] at g0 ⊢
  cases hv : s.valid
  case false => simp (disch := first | assumption | omega | (simp only [az]; done)) only [ru, eq_self, if_true, if_false, BEq.rfl, binI, AO.row?, splice, fillL, mmAll, loadV, storeV, zeros, Am.rowAt, Am.part, addOff, Nat.reduceAdd, Nat.reduceMul, Nat.reduceLeDiff, Nat.reduceSub, Nat.reduceLT, Int.reduceEq, Int.reduceLT, Int.reduceLE, Int.reduceGT, Int.reduceGE, Int.reduceAdd, Int.reduceSub, Int.reduceMul, Int.reduceNeg, Int.reduceToNat, reduceCtorEq, reduceIte, lenV_sl H0.p, lenV_sl H0.b, elem_sp H0.p, elem_bt H0.b, view_sl H0.p, view_sl H0.b, scalar_sl H0.p, scalar_sl H0.b, cells_sl H0.p, cells_sl H0.b, pure_sl H0.p, pure_sl H0.b, Int.toNat_natCast, g0, hv, gUn, s19]
  obtain ⟨K, hcc⟩ := valid_good hv
  have H : SeaOk s p b := ⟨H0, by have := K.sp.le; omega, by have := K.nb; omega⟩
  have sp := H.sp; have sb := H.sb
  have k1 : 0 < s.pl.length := K.sp.ne
  have a1 := fun st => s39 H hv st
  have a2 := fun st => s33 H hv st
  have a3 := s20 H hv
  have NV := resL_is (nds s)
  obtain ⟨nv, hnv⟩ : ∃ nv, nv = resL (nds s) := ⟨_, rfl⟩
  rw [← hnv] at NV
  have nl : (nds s).length = s.pl.length := rmap_len
  obtain ⟨c, hc⟩ : ∃ c, c = chp s := ⟨_, rfl⟩
  obtain ⟨m, hm⟩ : ∃ m, m = mosv s := ⟨_, rfl⟩
  have b1 := fun (i : Int) st => s25 H i st
  simp only [seaV, ← hnv, ← hc, ← hm] at a1 a2 a3 b1
  -- the first copy, with a boat more
  obtain ⟨pv, bv, op, ob, H', hC, fr, hop, hob, CP⟩ := c40 H [.cells [I s.w.lo, I s.w.hi, p, b] false, .cells [I bc, I bp] false, .cells [I x, I lo, I hi] false]
  have h0 : H'[0]? = some (.cells [I s.w.lo, I s.w.hi, p, b] false) := fr.at rfl
  have h1 : H'[1]? = some (.cells [I bc, I bp] false) := fr.at rfl
  have h2 : H'[2]? = some (.cells [I x, I lo, I hi] false) := fr.at rfl
  simp only [List.length_cons, List.length_nil, Nat.zero_add, Nat.reduceAdd] at hop hob
  have ol := (List.getElem?_eq_some_iff.1 CP.b).1
  have ol' := (List.getElem?_eq_some_iff.1 CP.p).1
  have hne := CP.ne
  have epv := CP.ep; have ebv := CP.eb
  obtain ⟨H2, hH2⟩ : ∃ H2, H2 = (H' ++ [AO.cells [I s.w.lo, I s.w.hi, pv, bv] false]) := ⟨_, rfl⟩
  have fr2 : Fr H' H2 := by rw [hH2]; exact Fr.app _ _
  obtain ⟨o, ho⟩ : ∃ o, o = H'.length := ⟨_, rfl⟩
  have io : H2[o]? = some (.cells [I s.w.lo, I s.w.hi, pv, bv] false) := by rw [hH2, ho]; exact atE
  have l2 : H2.length = o + 1 := by rw [hH2, ho]; simp
  have i0 := fr2.at h0
  have i1 := fr2.at h1
  have i2 := fr2.at h2
  have ip := fr2.at CP.p
  have ib := fr2.at CP.b
  have cpv : pv.cells = [pv] ∧ pv.scalar = true := by rw [epv]; exact ⟨rfl, rfl⟩
  have cbv : bv.cells = [bv] ∧ bv.scalar = true := by rw [ebv]; exact ⟨rfl, rfl⟩
  obtain ⟨L, hL⟩ : ∃ L, L = s.bo ++ [(⟨bc, bp⟩ : Bt)] := ⟨_, rfl⟩
  have lL : L.length = s.bo.length + 1 := by rw [hL]; simp
  obtain ⟨H3, hH3⟩ : ∃ H3, H3 = H2.set ob .tomb ++ [AO.cells (L.flatMap Bt.e) false] := ⟨_, rfl⟩
  have ap : appV 0 H2 2 16 bv (.cs 2 1 [I bc, I bp]) = some (.ms 2 (o + 1) 0 L.length, H3) := by
    have bl : (s.bo.flatMap Bt.e).length = s.bo.length * 2 := flat_len Bt.el _
    rw [ebv, appV_ms (n := 1) (xs := [I bc, I bp]) ib (by omega) rfl rfl rfl rfl (by omega) (by omega) (Nat.zero_le _), if_neg (by omega), hH3, hL, l2]
    simp [Bt.e]
  have l3 : H3.length = o + 2 := by rw [hH3]; simp [l2]
  have q : ∀ {j : Nat} {a : AO}, j ≠ ob → H2[j]? = some a → H3[j]? = some a := fun {j a} hj h => by
    have := (List.getElem?_eq_some_iff.1 h).1
    rw [hH3, List.getElem?_append_left (by simpa using this), List.getElem?_set_ne (by omega)]; exact h
  have j0 := q (by omega) i0
  have j1 := q (by omega) i1
  have j2 := q (by omega) i2
  have jo := q (by omega) io
  have jp := q hne ip
  have jb : H3[o + 1]? = some (.cells (L.flatMap Bt.e) false) := by rw [hH3, List.getElem?_append_right (by simp [l2])]; simp [l2]
  clear q
  obtain ⟨nb, hnb⟩ : ∃ nb, nb = AV.ms 2 (o + 1) 0 L.length := ⟨_, rfl⟩
  rw [← hnb] at ap
  have cnb : nb.cells = [nb] ∧ nb.scalar = true := by rw [hnb]; exact ⟨rfl, rfl⟩
  obtain ⟨H4, hH4⟩ : ∃ H4, H4 = H3.set o (.cells [I s.w.lo, I s.w.hi, pv, nb] false) := ⟨_, rfl⟩
  have l4 : H4.length = o + 2 := by rw [hH4]; simp [l3]
  have q : ∀ {j : Nat} {a : AO}, j ≠ o → H3[j]? = some a → H4[j]? = some a := fun {j a} hj h => by rw [hH4, List.getElem?_set_ne (by omega)]; exact h
  have k0 := q (by omega) j0
  have k2 := q (by omega) j2
  have kp := q (by omega) jp
  have kb := q (by omega) jb
  have ko : H4[o]? = some (.cells [I s.w.lo, I s.w.hi, pv, nb] false) := by rw [hH4, List.getElem?_set_self (by omega)]
  clear q
  obtain ⟨S, hS⟩ : ∃ S : Sea, S = ⟨s.w, s.pl, L⟩ := ⟨_, rfl⟩
  have SP : IsSl 2 Spn.e S.pl (slV 2 Spn.e s.pl) := by rw [hS]; exact slV_is
  have SB : IsSl 2 Bt.e S.bo (slV 2 Bt.e L) := by rw [hS]; exact slV_is
  have v1 : view false H4 7 pv = some (slV 2 Spn.e s.pl) := RdC.view (enc := Spn.e) ⟨op, epv, kp⟩ Spn.el Spn.iv
  have v2 : view false H4 7 nb = some (slV 2 Bt.e L) := RdC.view (enc := Bt.e) ⟨o + 1, hnb, kb⟩ Bt.el Bt.iv
  have HS : SeaOk S (slV 2 Spn.e s.pl) (slV 2 Bt.e L) := ⟨⟨SP, SB⟩, by rw [hS]; exact sp, by rw [hS]; show L.length ≤ 41; have := K.nb; omega⟩
  have d0 := fun st => s16 HS.toSeaIn st
  have d1 := fun h st => s39 HS h st
  have d2 := fun h st => s33 HS h st
  have ew : S.w = s.w := by rw [hS]
  have better : S.valid = true → ¬ chp S > c ∧ ¬ mosv S < m := fun h => by
    have h' := (valid_good h).1
    rw [hS, hL] at h'
    have := better_more K h'
    rw [hS, hL, hc, hm]; omega
  obtain ⟨P1, hP1⟩ : ∃ P1, P1 = slV 2 Spn.e s.pl := ⟨_, rfl⟩
  obtain ⟨B1, hB1⟩ : ∃ B1, B1 = slV 2 Bt.e L := ⟨_, rfl⟩
  rw [← hP1] at v1 HS
  rw [← hB1] at v2 HS
  simp only [seaV, ← hP1, ← hB1, ew] at d0 d1 d2
  obtain ⟨sv, hsv⟩ : ∃ sv, sv = S.valid := ⟨_, rfl⟩
  rw [← hsv] at better
  simp only [← hsv] at d0 d1 d2
  have atO : ∀ X : AO, (H' ++ [X])[o]? = some X := fun X => by rw [ho]; exact atE
  have stO : ∀ X Y : AO, (H' ++ [X]).set o Y = H' ++ [Y] := fun X Y => by rw [ho]; exact setE
  simp only [seaV] at hC
  simp (disch := first | assumption | omega | (simp only [az]; done)) only [ru, eq_self, if_true, if_false, BEq.rfl, binI, AO.row?, splice, fillL, mmAll, loadV, storeV, zeros, Am.rowAt, Am.part, addOff, Nat.reduceAdd, Nat.reduceMul, Nat.reduceLeDiff, Nat.reduceSub, Nat.reduceLT, Int.reduceEq, Int.reduceLT, Int.reduceLE, Int.reduceGT, Int.reduceGE, Int.reduceAdd, Int.reduceSub, Int.reduceMul, Int.reduceNeg, Int.reduceToNat, reduceCtorEq, reduceIte, lenV_sl H.p, lenV_sl H.b, elem_sp H.p, elem_bt H.b, view_sl H.p, view_sl H.b, scalar_sl H.p, scalar_sl H.b, cells_sl H.p, cells_sl H.b, pure_sl H.p, pure_sl H.b, Int.toNat_natCast, g0, hv, Bool.not_true, a1, a2, a3, exOp_call2, hC, cpv.1, cpv.2, cbv.1, cbv.2, ← ho, atO, stO, ← hH2, io, i1, exOp_litS, AV.pureV.go, AV.pureV, Bool.and_true, ap, jo, cnb.1, cnb.2, ← hH4, ko, v1, v2, lenV_sl HS.p, lenV_sl HS.b, elem_sp HS.p, elem_bt HS.b, view_sl HS.p, view_sl HS.b, scalar_sl HS.p, scalar_sl HS.b, cells_sl HS.p, cells_sl HS.b, pure_sl HS.p, pure_sl HS.b, Int.toNat_natCast, d0]
  refine GC_join (fun ts h mk => h = H4 ∧ mk = [] ∧ ts.length = 208 ∧ ts.getD 3 .undef = .ptr 0 0 ∧ ts.getD 5 .undef = .ptr 2 0 ∧ ts.getD 7 .undef = I c ∧ ts.getD 9 .undef = I m ∧ ts.getD 11 .undef = nv ∧ ts.getD 13 .undef = .ptr o 0) (fun hg => ?_) (fun hg => ?_) ?_
  · obtain ⟨e1, e2⟩ := better hg
    rw [hg] at d1 d2
    have d1' := fun st => d1 rfl st
    have d2' := fun st => d2 rfl st
    simp (disch := first | assumption | omega | (simp only [az]; done)) only [ru, eq_self, if_true, if_false, BEq.rfl, binI, AO.row?, splice, fillL, mmAll, loadV, storeV, zeros, Am.rowAt, Am.part, addOff, Nat.reduceAdd, Nat.reduceMul, Nat.reduceLeDiff, Nat.reduceSub, Nat.reduceLT, Int.reduceEq, Int.reduceLT, Int.reduceLE, Int.reduceGT, Int.reduceGE, Int.reduceAdd, Int.reduceSub, Int.reduceMul, Int.reduceNeg, Int.reduceToNat, reduceCtorEq, reduceIte, ko, v1, v2, lenV_sl HS.p, lenV_sl HS.b, elem_sp HS.p, elem_bt HS.b, view_sl HS.p, view_sl HS.b, scalar_sl HS.p, scalar_sl HS.b, cells_sl HS.p, cells_sl HS.b, pure_sl HS.p, pure_sl HS.b, Int.toNat_natCast, d1', d2', e1, e2, decide_false, Bool.not_true, G_skip_nil]
  · simp (disch := first | assumption | omega | (simp only [az]; done)) only [ru, eq_self, if_true, if_false, BEq.rfl, binI, AO.row?, splice, fillL, mmAll, loadV, storeV, zeros, Am.rowAt, Am.part, addOff, Nat.reduceAdd, Nat.reduceMul, Nat.reduceLeDiff, Nat.reduceSub, Nat.reduceLT, Int.reduceEq, Int.reduceLT, Int.reduceLE, Int.reduceGT, Int.reduceGE, Int.reduceAdd, Int.reduceSub, Int.reduceMul, Int.reduceNeg, Int.reduceToNat, reduceCtorEq, reduceIte, G_skip_nil]
  rintro ts h mk ⟨rfl, rfl, tl, q3, q5, q7, q9, q11, q13⟩
  rw [lit_all tl]
  simp only [lit0, litS, Nat.reduceAdd, q3, q5, q7, q9, q11, q13]
  simp (disch := first | assumption | omega | (simp only [az]; done)) only [ru, eq_self, if_true, if_false, BEq.rfl, binI, AO.row?, splice, fillL, mmAll, loadV, storeV, zeros, Am.rowAt, Am.part, addOff, Nat.reduceAdd, Nat.reduceMul, Nat.reduceLeDiff, Nat.reduceSub, Nat.reduceLT, Int.reduceEq, Int.reduceLT, Int.reduceLE, Int.reduceGT, Int.reduceGE, Int.reduceAdd, Int.reduceSub, Int.reduceMul, Int.reduceNeg, Int.reduceToNat, reduceCtorEq, reduceIte]
  have oh : o < h.length := by omega
  clear tl q3 q5 q7 q9 q11 q13
  refine G_loop_ind (fun n ts h mk => ∃ i : Nat, i ≤ s.bo.length ∧ n = s.bo.length - i ∧ ts.length = 208 ∧ ts.getD 3 .undef = .ptr 0 0 ∧ ts.getD 5 .undef = .ptr 2 0 ∧ ts.getD 7 .undef = I c ∧ ts.getD 9 .undef = I m ∧ ts.getD 11 .undef = nv ∧ ts.getD 13 .undef = .ptr o 0 ∧ ts.getD 18 .undef = I i ∧ h[0]? = some (.cells [I s.w.lo, I s.w.hi, p, b] false) ∧ h[2]? = some (.cells [I x, I lo, I hi] false) ∧ h[o]? = some (.cells [I s.w.lo, I s.w.hi, pv, nb] false) ∧ mk = []) ?_ _ _ _ _ ⟨0, Nat.zero_le _, rfl, rfl, rfl, rfl, rfl, rfl, rfl, rfl, rfl, k0, k2, ko, rfl⟩
  rintro n ts h mk ih ⟨i, hle, rfl, hl', q3, q5, q7, q9, q11, q13, q18, u0, u2, uo, rfl⟩
  rw [lit_all hl']
  have n0 := (List.getElem?_eq_some_iff.1 u0).1
  have n2 := (List.getElem?_eq_some_iff.1 u2).1
  have no := (List.getElem?_eq_some_iff.1 uo).1
  simp only [lit0, litS, Nat.reduceAdd, q3, q5, q7, q9, q11, q13, q18]
  simp (disch := first | assumption | omega | (simp only [az]; done)) only [ru, eq_self, if_true, if_false, BEq.rfl, binI, AO.row?, splice, fillL, mmAll, loadV, storeV, zeros, Am.rowAt, Am.part, addOff, Nat.reduceAdd, Nat.reduceMul, Nat.reduceLeDiff, Nat.reduceSub, Nat.reduceLT, Int.reduceEq, Int.reduceLT, Int.reduceLE, Int.reduceGT, Int.reduceGE, Int.reduceAdd, Int.reduceSub, Int.reduceMul, Int.reduceNeg, Int.reduceToNat, reduceCtorEq, reduceIte, lenV_sl H.p, lenV_sl H.b, elem_sp H.p, elem_bt H.b, view_sl H.p, view_sl H.b, scalar_sl H.p, scalar_sl H.b, cells_sl H.p, cells_sl H.b, pure_sl H.p, pure_sl H.b, Int.toNat_natCast, u0]
  by_cases hlt : (i : Int) < s.bo.length
  case pos =>
    have hi' : i < s.bo.length := by omega
    obtain ⟨T, hT⟩ : ∃ T, T = strg s i := ⟨_, rfl⟩
    have HT := cp_ok (strg_ok H (i := i))
    have a4 := s41 H (fun y hy => by have := K.b y hy; omega) hi'
    have eT : T.w = s.w := by rw [hT]; rfl
    have t0 := fun st => s16 HT.toSeaIn st
    have t1 := fun h st => s39 HT h st
    have t2 := fun h st => s33 HT h st
    have bT : (strg s i).valid = true → ¬ chp (strg s i) > c ∧ ¬ mosv (strg s i) < m := fun h => by
      have := better_strg K (valid_good h).1
      rw [hc, hm]; omega
    rw [← hT] at bT HT a4
    simp only [← hT] at t0 t1 t2
    obtain ⟨P2, hP2⟩ : ∃ P2, P2 = slV 2 Spn.e T.pl := ⟨_, rfl⟩
    obtain ⟨B2, hB2⟩ : ∃ B2, B2 = slV 2 Bt.e T.bo := ⟨_, rfl⟩
    rw [← hP2, ← hB2] at HT
    simp only [cpV, seaV, ← hP2, ← hB2, eT] at t0 t1 t2 a4
    have fin : ∀ Z : AO, (h ++ [Z])[0]? = some (.cells [I s.w.lo, I s.w.hi, p, b] false) ∧ (h ++ [Z])[2]? = some (.cells [I x, I lo, I hi] false) ∧ (h ++ [Z])[o]? = some (.cells [I s.w.lo, I s.w.hi, pv, nb] false) := fun Z => ⟨by rw [at_ap n0]; exact u0, by rw [at_ap n2]; exact u2, by rw [at_ap no]; exact uo⟩
    cases hvT : T.valid
    · simp (disch := first | assumption | omega | (simp only [az]; done)) only [ru, eq_self, if_true, if_false, BEq.rfl, binI, AO.row?, splice, fillL, mmAll, loadV, storeV, zeros, Am.rowAt, Am.part, addOff, Nat.reduceAdd, Nat.reduceMul, Nat.reduceLeDiff, Nat.reduceSub, Nat.reduceLT, Int.reduceEq, Int.reduceLT, Int.reduceLE, Int.reduceGT, Int.reduceGE, Int.reduceAdd, Int.reduceSub, Int.reduceMul, Int.reduceNeg, Int.reduceToNat, reduceCtorEq, reduceIte, lenV_sl H.p, lenV_sl H.b, elem_sp H.p, elem_bt H.b, view_sl H.p, view_sl H.b, scalar_sl H.p, scalar_sl H.b, cells_sl H.p, cells_sl H.b, pure_sl H.p, pure_sl H.b, Int.toNat_natCast, u0, hlt, lenV_sl HT.p, lenV_sl HT.b, elem_sp HT.p, elem_bt HT.b, view_sl HT.p, view_sl HT.b, scalar_sl HT.p, scalar_sl HT.b, cells_sl HT.p, cells_sl HT.b, pure_sl HT.p, pure_sl HT.b, Int.toNat_natCast, a4, t0, hvT, atE, setE, Bool.not_false]
      exact ih (s.bo.length - (i + 1)) _ _ _ (by omega) ⟨i + 1, by omega, rfl, rfl, rfl, rfl, rfl, rfl, rfl, rfl, rfl, (fin _).1, (fin _).2.1, (fin _).2.2, rfl⟩
    · obtain ⟨e1, e2⟩ := bT hvT
      have t1' := fun st => t1 hvT st
      have t2' := fun st => t2 hvT st
      simp (disch := first | assumption | omega | (simp only [az]; done)) only [ru, eq_self, if_true, if_false, BEq.rfl, binI, AO.row?, splice, fillL, mmAll, loadV, storeV, zeros, Am.rowAt, Am.part, addOff, Nat.reduceAdd, Nat.reduceMul, Nat.reduceLeDiff, Nat.reduceSub, Nat.reduceLT, Int.reduceEq, Int.reduceLT, Int.reduceLE, Int.reduceGT, Int.reduceGE, Int.reduceAdd, Int.reduceSub, Int.reduceMul, Int.reduceNeg, Int.reduceToNat, reduceCtorEq, reduceIte, lenV_sl H.p, lenV_sl H.b, elem_sp H.p, elem_bt H.b, view_sl H.p, view_sl H.b, scalar_sl H.p, scalar_sl H.b, cells_sl H.p, cells_sl H.b, pure_sl H.p, pure_sl H.b, Int.toNat_natCast, u0, hlt, lenV_sl HT.p, lenV_sl HT.b, elem_sp HT.p, elem_bt HT.b, view_sl HT.p, view_sl HT.b, scalar_sl HT.p, scalar_sl HT.b, cells_sl HT.p, cells_sl HT.b, pure_sl HT.p, pure_sl HT.b, Int.toNat_natCast, a4, t0, hvT, atE, setE, Bool.not_true, t1', t2', e1, e2, decide_false]
      exact ih (s.bo.length - (i + 1)) _ _ _ (by omega) ⟨i + 1, by omega, rfl, rfl, rfl, rfl, rfl, rfl, rfl, rfl, rfl, (fin _).1, (fin _).2.1, (fin _).2.2, rfl⟩
  clear ih
  obtain ⟨pw, bw, oq, oc, G, hD, fr3, hoq, hoc, CQ⟩ := c40 H h
  have f0 := fr3.at u0
  have f2 := fr3.at u2
  have fo := fr3.at uo
  have epw := CQ.ep; have ebw := CQ.eb
  have og := (List.getElem?_eq_some_iff.1 CQ.b).1
  have og' := (List.getElem?_eq_some_iff.1 CQ.p).1
  have ogn := CQ.ne
  have cpw : pw.cells = [pw] ∧ pw.scalar = true := by rw [epw]; exact ⟨rfl, rfl⟩
  have cbw : bw.cells = [bw] ∧ bw.scalar = true := by rw [ebw]; exact ⟨rfl, rfl⟩
  obtain ⟨G2, hG2⟩ : ∃ G2, G2 = G.set o (.cells [I s.w.lo, I s.w.hi, pw, bw] false) := ⟨_, rfl⟩
  have lG : G2.length = G.length := by rw [hG2]; simp
  have qq : ∀ {j : Nat} {a : AO}, j ≠ o → G[j]? = some a → G2[j]? = some a := fun {j a} hj h => by rw [hG2, List.getElem?_set_ne (by omega)]; exact h
  have w0 := qq (by omega) f0
  have w2 := qq (by omega) f2
  have wp := qq (by omega) CQ.p
  have wb := qq (by omega) CQ.b
  have wo : G2[o]? = some (.cells [I s.w.lo, I s.w.hi, pw, bw] false) := by rw [hG2, List.getElem?_set_self (by omega)]
  clear qq
  obtain ⟨o6, ho6⟩ : ∃ o6, o6 = G2.length := ⟨_, rfl⟩
  have atG : ∀ X : AO, (G2 ++ [X])[o6]? = some X := fun X => by rw [ho6]; exact atE
  have stG : ∀ X Y : AO, (G2 ++ [X]).set o6 Y = G2 ++ [Y] := fun X Y => by rw [ho6]; exact setE
  have inG : ∀ (X : AO) {j : Nat} {a : AO}, G2[j]? = some a → (G2 ++ [X])[j]? = some a := fun X {j a} h => by rw [at_ap (List.getElem?_eq_some_iff.1 h).1]; exact h
  obtain ⟨G3, hG3⟩ : ∃ G3, G3 = G2 ++ [AO.cells [I s.w.lo, I s.w.hi] false] := ⟨_, rfl⟩
  have y0 : G3[0]? = some (.cells [I s.w.lo, I s.w.hi, p, b] false) := by rw [hG3]; exact inG _ w0
  have y2 : G3[2]? = some (.cells [I x, I lo, I hi] false) := by rw [hG3]; exact inG _ w2
  have yo : G3[o]? = some (.cells [I s.w.lo, I s.w.hi, pw, bw] false) := by rw [hG3]; exact inG _ wo
  have yp : G3[oq]? = some (.cells (s.pl.flatMap Spn.e) false) := by rw [hG3]; exact inG _ wp
  have yb : G3[oc]? = some (.cells (s.bo.flatMap Bt.e) false) := by rw [hG3]; exact inG _ wb
  have y6 : G3[o6]? = some (.cells [I s.w.lo, I s.w.hi] false) := by rw [hG3]; exact atG _
  have lG3 : G3.length = o6 + 1 := by rw [hG3, ho6]; simp
  simp only [seaV] at hD
  simp (disch := first | assumption | omega | (simp only [az]; done)) only [ru, eq_self, if_true, if_false, BEq.rfl, binI, AO.row?, splice, fillL, mmAll, loadV, storeV, zeros, Am.rowAt, Am.part, addOff, Nat.reduceAdd, Nat.reduceMul, Nat.reduceLeDiff, Nat.reduceSub, Nat.reduceLT, Int.reduceEq, Int.reduceLT, Int.reduceLE, Int.reduceGT, Int.reduceGE, Int.reduceAdd, Int.reduceSub, Int.reduceMul, Int.reduceNeg, Int.reduceToNat, reduceCtorEq, reduceIte, lenV_sl H.p, lenV_sl H.b, elem_sp H.p, elem_bt H.b, view_sl H.p, view_sl H.b, scalar_sl H.p, scalar_sl H.b, cells_sl H.p, cells_sl H.b, pure_sl H.p, pure_sl H.b, Int.toNat_natCast, u0, hlt, exOp_call2, hD, cpw.1, cpw.2, cbw.1, cbw.2, fo, ← hG2, w0, ← ho6, atG, stG, ← hG3, y0, y2, b1]
  clear hlt hle hl' q3 q5 q7 q9 q11 q13 q18
  refine GC_join (fun ts h mk => ∃ (R : Sea) (z : Spn), Cut s lo hi R z ∧ h[2]? = some (.cells [I x, I lo, I hi] false) ∧ h[o]? = some (.cells [I R.w.lo, I R.w.hi, pw, bw] false) ∧ CpH R h oq oc pw bw ∧ h[o6]? = some (.cells [I z.lo, I z.hi] false) ∧ mk = [] ∧ ts.length = 208 ∧ ts.getD 5 .undef = .ptr 2 0 ∧ ts.getD 11 .undef = nv ∧ ts.getD 13 .undef = .ptr o 0 ∧ ts.getD 24 .undef = .ptr o6 0) (fun hg => ?_) (fun hg => ?_) ?_
  · obtain ⟨k, rfl, hk⟩ : ∃ k : Nat, x = k ∧ k < s.pl.length := by
      have := inR_iff.1 hg
      exact ⟨x.toNat, by omega, by omega⟩
    have hk' : (k : Int) < s.pl.length := by omega
    obtain ⟨z, hz⟩ : ∃ z, z = s.pl.getD k default := ⟨_, rfl⟩
    obtain ⟨G4, hG4⟩ : ∃ G4, G4 = G3.set o6 (.cells [I z.lo, I z.hi] false) := ⟨_, rfl⟩
    have q : ∀ {j : Nat} {a : AO}, j ≠ o6 → G3[j]? = some a → G4[j]? = some a := fun {j a} hj h => by rw [hG4, List.getElem?_set_ne (by omega)]; exact h
    have x2 := q (by omega) y2
    have xo := q (by omega) yo
    have xp := q (by omega) yp
    have xb := q (by omega) yb
    have x6 : G4[o6]? = some (.cells [I z.lo, I z.hi] false) := by rw [hG4, List.getElem?_set_self (by omega)]
    have ee : elemAt 2 pw (I k) = some (.ptr oq (k * 2)) := by rw [epw, elemAt_ms (by omega) (by omega)]; simp
    have bl : (s.pl.flatMap Spn.e).length = s.pl.length * 2 := flat_len Spn.el _
    have fit : k * 2 + 2 ≤ (s.pl.flatMap Spn.e).length := by omega
    have bp := sp_put3 (l := s.pl) (i := k) hk lo hi
    obtain ⟨row, hrow⟩ : ∃ row, row = s.pl.flatMap Spn.e := ⟨_, rfl⟩
    have lG4 : G4.length = o6 + 1 := by rw [hG4]; simpa using lG3
    rw [← hrow] at fit bp xp
    simp (disch := first | assumption | omega | (simp only [az]; done)) only [ru, eq_self, if_true, if_false, BEq.rfl, binI, AO.row?, splice, fillL, mmAll, loadV, storeV, zeros, Am.rowAt, Am.part, addOff, Nat.reduceAdd, Nat.reduceMul, Nat.reduceLeDiff, Nat.reduceSub, Nat.reduceLT, Int.reduceEq, Int.reduceLT, Int.reduceLE, Int.reduceGT, Int.reduceGE, Int.reduceAdd, Int.reduceSub, Int.reduceMul, Int.reduceNeg, Int.reduceToNat, reduceCtorEq, reduceIte, lenV_sl H.p, lenV_sl H.b, elem_sp H.p, elem_bt H.b, view_sl H.p, view_sl H.b, scalar_sl H.p, scalar_sl H.b, cells_sl H.p, cells_sl H.b, pure_sl H.p, pure_sl H.b, Int.toNat_natCast, y0, y2, yo, y6, hk', ← hz, ← hG4, x2, xo, xp, ee, fit, G_skip_nil]
    refine ⟨⟨s.w, s.pl.set k ⟨lo, hi⟩, s.bo⟩, z, by rw [hz]; exact cut_place hk, ?_, ?_, ⟨ogn, ?_, ebw, ?_, ?_⟩, ?_⟩
    · rw [List.getElem?_set_ne (by omega)]; exact x2
    · rw [List.getElem?_set_ne (by omega)]; exact xo
    · rw [epw]; simp
    · rw [List.getElem?_set_self (by omega), bp]
    · rw [List.getElem?_set_ne (by omega)]; exact xb
    · rw [List.getElem?_set_ne (by omega)]; exact x6
  · simp (disch := first | assumption | omega | (simp only [az]; done)) only [ru, eq_self, if_true, if_false, BEq.rfl, binI, AO.row?, splice, fillL, mmAll, loadV, storeV, zeros, Am.rowAt, Am.part, addOff, Nat.reduceAdd, Nat.reduceMul, Nat.reduceLeDiff, Nat.reduceSub, Nat.reduceLT, Int.reduceEq, Int.reduceLT, Int.reduceLE, Int.reduceGT, Int.reduceGE, Int.reduceAdd, Int.reduceSub, Int.reduceMul, Int.reduceNeg, Int.reduceToNat, reduceCtorEq, reduceIte, y2, yo, G_skip_nil]
    refine ⟨⟨⟨lo, hi⟩, s.pl, s.bo⟩, s.w, cut_weight, ?_, ?_, ⟨ogn, epw, ebw, ?_, ?_⟩, ?_⟩
    · rw [List.getElem?_set_ne (by omega)]; exact y2
    · rw [List.getElem?_set_self (by omega)]
    · rw [List.getElem?_set_ne (by omega)]; exact yp
    · rw [List.getElem?_set_ne (by omega)]; exact yb
    · rw [List.getElem?_set_ne (by omega)]; exact y6
  clear y0 y2 yo yp yb y6 lG3 hG3 w0 w2 wp wb wo hG2 hD f0 f2 fo fr3 inG stG atG
  rintro ts h' mk ⟨R, z, ⟨z1, z2, z3⟩, y2, yo, CR, y6, rfl, tl, q5, q11, q13, q24⟩
  rw [lit_all tl]
  simp only [lit0, litS, Nat.reduceAdd, q5, q11, q13, q24]
  have v3 : view false h' 7 pw = some (slV 2 Spn.e R.pl) := RdC.view (enc := Spn.e) ⟨oq, CR.ep, CR.p⟩ Spn.el Spn.iv
  have v4 : view false h' 7 bw = some (slV 2 Bt.e R.bo) := RdC.view (enc := Bt.e) ⟨oc, CR.eb, CR.b⟩ Bt.el Bt.iv
  have HR : SeaOk R (slV 2 Spn.e R.pl) (slV 2 Bt.e R.bo) := ⟨⟨slV_is, slV_is⟩, by omega, by rw [z2]; exact sb⟩
  have r0 := fun st => s16 HR.toSeaIn st
  have r1 := fun h st => s20' HR h st
  obtain ⟨P3, hP3⟩ : ∃ P3, P3 = slV 2 Spn.e R.pl := ⟨_, rfl⟩
  obtain ⟨B3, hB3⟩ : ∃ B3, B3 = slV 2 Bt.e R.bo := ⟨_, rfl⟩
  rw [← hP3] at v3 HR
  rw [← hB3] at v4 HR
  simp only [seaV, ← hP3, ← hB3] at r0 r1
  have RV := resL_is (nds R)
  obtain ⟨rv, hrv⟩ : ∃ rv, rv = resL (nds R) := ⟨_, rfl⟩
  rw [← hrv] at RV
  simp only [← hrv] at r1
  have rl : (nds R).length = s.pl.length := by rw [← z1]; exact rmap_len
  by_cases c1 : lo < z.lo
  · simp (disch := first | assumption | omega | (simp only [az]; done)) only [ru, eq_self, if_true, if_false, BEq.rfl, binI, AO.row?, splice, fillL, mmAll, loadV, storeV, zeros, Am.rowAt, Am.part, addOff, Nat.reduceAdd, Nat.reduceMul, Nat.reduceLeDiff, Nat.reduceSub, Nat.reduceLT, Int.reduceEq, Int.reduceLT, Int.reduceLE, Int.reduceGT, Int.reduceGE, Int.reduceAdd, Int.reduceSub, Int.reduceMul, Int.reduceNeg, Int.reduceToNat, reduceCtorEq, reduceIte, y2, y6, c1, s19, gUn, decide_true]
  by_cases c2 : hi > z.hi
  · simp (disch := first | assumption | omega | (simp only [az]; done)) only [ru, eq_self, if_true, if_false, BEq.rfl, binI, AO.row?, splice, fillL, mmAll, loadV, storeV, zeros, Am.rowAt, Am.part, addOff, Nat.reduceAdd, Nat.reduceMul, Nat.reduceLeDiff, Nat.reduceSub, Nat.reduceLT, Int.reduceEq, Int.reduceLT, Int.reduceLE, Int.reduceGT, Int.reduceGE, Int.reduceAdd, Int.reduceSub, Int.reduceMul, Int.reduceNeg, Int.reduceToNat, reduceCtorEq, reduceIte, y2, y6, c1, c2, s19, gUn, decide_true, decide_false]
  by_cases c3 : lo > hi
  · simp (disch := first | assumption | omega | (simp only [az]; done)) only [ru, eq_self, if_true, if_false, BEq.rfl, binI, AO.row?, splice, fillL, mmAll, loadV, storeV, zeros, Am.rowAt, Am.part, addOff, Nat.reduceAdd, Nat.reduceMul, Nat.reduceLeDiff, Nat.reduceSub, Nat.reduceLT, Int.reduceEq, Int.reduceLT, Int.reduceLE, Int.reduceGT, Int.reduceGE, Int.reduceAdd, Int.reduceSub, Int.reduceMul, Int.reduceNeg, Int.reduceToNat, reduceCtorEq, reduceIte, y2, y6, c1, c2, c3, s19, gUn, decide_true, decide_false]
  cases c4 : R.valid
  · simp (disch := first | assumption | omega | (simp only [az]; done)) only [ru, eq_self, if_true, if_false, BEq.rfl, binI, AO.row?, splice, fillL, mmAll, loadV, storeV, zeros, Am.rowAt, Am.part, addOff, Nat.reduceAdd, Nat.reduceMul, Nat.reduceLeDiff, Nat.reduceSub, Nat.reduceLT, Int.reduceEq, Int.reduceLT, Int.reduceLE, Int.reduceGT, Int.reduceGE, Int.reduceAdd, Int.reduceSub, Int.reduceMul, Int.reduceNeg, Int.reduceToNat, reduceCtorEq, reduceIte, y2, y6, yo, c1, c2, c3, v3, v4, lenV_sl HR.p, lenV_sl HR.b, elem_sp HR.p, elem_bt HR.b, view_sl HR.p, view_sl HR.b, scalar_sl HR.p, scalar_sl HR.b, cells_sl HR.p, cells_sl HR.b, pure_sl HR.p, pure_sl HR.b, Int.toNat_natCast, r0, c4, s19, gUn, decide_true, decide_false]
  have z4 := z3 c1 c2 c4
  have r1' := fun st => r1 c4 st
  simp (disch := first | assumption | omega | (simp only [az]; done)) only [ru, eq_self, if_true, if_false, BEq.rfl, binI, AO.row?, splice, fillL, mmAll, loadV, storeV, zeros, Am.rowAt, Am.part, addOff, Nat.reduceAdd, Nat.reduceMul, Nat.reduceLeDiff, Nat.reduceSub, Nat.reduceLT, Int.reduceEq, Int.reduceLT, Int.reduceLE, Int.reduceGT, Int.reduceGE, Int.reduceAdd, Int.reduceSub, Int.reduceMul, Int.reduceNeg, Int.reduceToNat, reduceCtorEq, reduceIte, y2, y6, yo, c1, c2, c3, v3, v4, lenV_sl HR.p, lenV_sl HR.b, elem_sp HR.p, elem_bt HR.b, view_sl HR.p, view_sl HR.b, scalar_sl HR.p, scalar_sl HR.b, cells_sl HR.p, cells_sl HR.b, pure_sl HR.p, pure_sl HR.b, Int.toNat_natCast, r0, c4, r1', s19, gUn, decide_true, decide_false, Bool.not_true]
  refine G_loop_ind (fun n ts hh mk => ∃ j : Nat, j ≤ s.pl.length ∧ n = s.pl.length - j ∧ ts.length = 208 ∧ ts.getD 11 .undef = nv ∧ ts.getD 25 .undef = rv ∧ ts.getD 27 .undef = I j ∧ hh = h' ∧ mk = []) ?_ _ _ _ _ ⟨0, Nat.zero_le _, rfl, rfl, rfl, rfl, rfl, rfl, rfl⟩
  rintro n ts hh mk ih ⟨j, hj, rfl, hl', q11, q25, q27, rfl, rfl⟩
  rw [lit_all hl']
  simp only [lit0, litS, Nat.reduceAdd, q11, q25, q27]
  have e1 := lenV_sl RV
  rw [rl] at e1
  simp (disch := first | assumption | omega | (simp only [az]; done)) only [ru, eq_self, if_true, if_false, BEq.rfl, binI, AO.row?, splice, fillL, mmAll, loadV, storeV, zeros, Am.rowAt, Am.part, addOff, Nat.reduceAdd, Nat.reduceMul, Nat.reduceLeDiff, Nat.reduceSub, Nat.reduceLT, Int.reduceEq, Int.reduceLT, Int.reduceLE, Int.reduceGT, Int.reduceGE, Int.reduceAdd, Int.reduceSub, Int.reduceMul, Int.reduceNeg, Int.reduceToNat, reduceCtorEq, reduceIte, e1]
  by_cases hlt : (j : Int) < s.pl.length
  case pos =>
    have l1 : (j : Int) < (nds s).length := by omega
    have l2 : (j : Int) < (nds R).length := by omega
    have e2 : (nds s).getD j 0 = needv s j := rmap_at (by omega)
    have e3 : (nds R).getD j 0 = needv R j := rmap_at (by omega)
    have e4 : ¬ needv R j > needv s j := by have := z4 j (by omega); omega
    simp (disch := first | assumption | omega | (simp only [az]; done)) only [ru, eq_self, if_true, if_false, BEq.rfl, binI, AO.row?, splice, fillL, mmAll, loadV, storeV, zeros, Am.rowAt, Am.part, addOff, Nat.reduceAdd, Nat.reduceMul, Nat.reduceLeDiff, Nat.reduceSub, Nat.reduceLT, Int.reduceEq, Int.reduceLT, Int.reduceLE, Int.reduceGT, Int.reduceGE, Int.reduceAdd, Int.reduceSub, Int.reduceMul, Int.reduceNeg, Int.reduceToNat, reduceCtorEq, reduceIte, e1, hlt, lenV_sl RV, elem_in RV, view_sl RV, scalar_sl RV, cells_sl RV, pure_sl RV, Int.toNat_natCast, lenV_sl NV, elem_in NV, view_sl NV, scalar_sl NV, cells_sl NV, pure_sl NV, Int.toNat_natCast, l1, l2, e2, e3, e4, decide_false]
    exact ih (s.pl.length - (j + 1)) _ _ _ (by omega) ⟨j + 1, by omega, rfl, rfl, rfl, rfl, rfl, rfl, rfl⟩
  simp (disch := first | assumption | omega | (simp only [az]; done)) only [ru, eq_self, if_true, if_false, BEq.rfl, binI, AO.row?, splice, fillL, mmAll, loadV, storeV, zeros, Am.rowAt, Am.part, addOff, Nat.reduceAdd, Nat.reduceMul, Nat.reduceLeDiff, Nat.reduceSub, Nat.reduceLT, Int.reduceEq, Int.reduceLT, Int.reduceLE, Int.reduceGT, Int.reduceGE, Int.reduceAdd, Int.reduceSub, Int.reduceMul, Int.reduceNeg, Int.reduceToNat, reduceCtorEq, reduceIte, hlt, s19]
end
end Go.Proofs.Ytdmhbefdidmliaa.S

