/-
LiftsOrder: the order of the places and of the boats.
-/
import Derived.Test.YtdmhbefdidmliaaS3
namespace Go.Proofs.Ytdmhbefdidmliaa.S
open Go Go.Am Go.Proofs.Ytdmhbefdidmliaa.T
set_option maxRecDepth 100000
set_option linter.unusedSimpArgs false
set_option linter.unusedVariables false

theorem sp_put2 {l : List Spn} {i : Nat} (hi : i < l.length) (x y : Int) : (l.flatMap Spn.e).take (i * 2) ++ [I x, I y] ++ (l.flatMap Spn.e).drop (i * 2 + 2) = (l.set i ⟨x, y⟩).flatMap Spn.e := by
  induction l generalizing i with
  | nil => simp at hi
  | cons a l ih =>
    cases i with
    | zero => rfl
    | succ i =>
      have e : (i + 1) * 2 = i * 2 + 1 + 1 := by omega
      have := ih (i := i) (by simpa using hi)
      rw [e]
      show I a.lo :: I a.hi :: ((l.flatMap Spn.e).take (i * 2) ++ [I x, I y] ++ (l.flatMap Spn.e).drop (i * 2 + 2)) = _
      rw [this]; rfl
/-- a list that is being turned -/
theorem turn_step {α : Type} {L M : List α} {d : α} {n i : Nat} (hl : L.length = M.length) (hi : i < M.length) (h : ∀ j, j < i → L.getD j d = M.getD ((j + n) % M.length) d) : (L.set i (M.getD ((i + n) % M.length) d)).length = M.length ∧ ∀ j, j < i + 1 → (L.set i (M.getD ((i + n) % M.length) d)).getD j d = M.getD ((j + n) % M.length) d := by
  refine ⟨by simpa using hl, fun j hj => ?_⟩
  by_cases c : j = i
  · subst c
    rw [List.getD_eq_getElem?_getD, List.getElem?_set_self (by omega)]; rfl
  · rw [List.getD_eq_getElem?_getD, List.getElem?_set_ne (by omega), ← List.getD_eq_getElem?_getD]
    exact h j (by omega)
theorem turn_all {α : Type} {L M : List α} {d : α} {n : Nat} (hl : L.length = M.length) (h : ∀ j, j < M.length → L.getD j d = M.getD ((j + n) % M.length) d) : L = rot M (n % M.length) := by
  have g : ∀ {L : List α} {j : Nat}, j < L.length → L[j]? = some (L.getD j d) := fun {L j} hj => by simp [List.getD_eq_getElem?_getD, List.getElem?_eq_getElem hj]
  apply List.ext_getElem?
  intro j
  by_cases c : j < M.length
  · have e := rot_at (l := M) (n := n % M.length) (i := j) (d := d) (Nat.mod_lt _ (by omega)) c
    rw [g (by omega), g (by rw [rot_len]; exact c), h j c, e, Nat.add_mod_mod]
  · rw [List.getElem?_eq_none (by omega), List.getElem?_eq_none (by rw [rot_len]; omega)]

section
variable {s : Sea} {p b : AV}
theorem rots_valid (K : SeaG s) (hc : ∀ x ∈ s.bo, x.c ≤ 999) {a b : Nat} : (rots s a b).valid = true :=
  good_valid (rots_ok K) fun x hx => hc x (rot_perm.mem_iff.1 hx)

set_option maxHeartbeats 8000000 in
theorem s9 (H0 : SeaIn s p b) (x y : Int) (st : Bool) : Iso E 9 [seaV s p b, I x, I y] st = some (Bo true) := by
  have g0 := fun st => s16 H0 st
  refine Iso_of (es _ _ _ _) e9 ?_
  simp only [f9, seaV] at g0 ⊢
  cases hv : s.valid
  case false => simp (disch := first | assumption | omega | (simp only [az]; done)) only [ru, eq_self, if_true, if_false, BEq.rfl, binI, AO.row?, splice, fillL, mmAll, loadV, storeV, zeros, Am.rowAt, Am.part, addOff, Nat.reduceAdd, Nat.reduceMul, Nat.reduceLeDiff, Nat.reduceSub, Nat.reduceLT, Int.reduceEq, Int.reduceLT, Int.reduceLE, Int.reduceGT, Int.reduceGE, Int.reduceAdd, Int.reduceSub, Int.reduceMul, Int.reduceNeg, Int.reduceToNat, reduceCtorEq, reduceIte, lenV_sl H0.p, lenV_sl H0.b, elem_sp H0.p, elem_bt H0.b, view_sl H0.p, view_sl H0.b, scalar_sl H0.p, scalar_sl H0.b, cells_sl H0.p, cells_sl H0.b, pure_sl H0.p, pure_sl H0.b, Int.toNat_natCast, g0, hv, gUn, s19]
  by_cases m1 : mmx false x y < 0
  · simp (disch := first | assumption | omega | (simp only [az]; done)) only [ru, eq_self, if_true, if_false, BEq.rfl, binI, AO.row?, splice, fillL, mmAll, loadV, storeV, zeros, Am.rowAt, Am.part, addOff, Nat.reduceAdd, Nat.reduceMul, Nat.reduceLeDiff, Nat.reduceSub, Nat.reduceLT, Int.reduceEq, Int.reduceLT, Int.reduceLE, Int.reduceGT, Int.reduceGE, Int.reduceAdd, Int.reduceSub, Int.reduceMul, Int.reduceNeg, Int.reduceToNat, reduceCtorEq, reduceIte, lenV_sl H0.p, lenV_sl H0.b, elem_sp H0.p, elem_bt H0.b, view_sl H0.p, view_sl H0.b, scalar_sl H0.p, scalar_sl H0.b, cells_sl H0.p, cells_sl H0.b, pure_sl H0.p, pure_sl H0.b, Int.toNat_natCast, g0, hv, m1, decide_true, gUn, s19]
  by_cases m2 : mmx true x y > 100
  · simp (disch := first | assumption | omega | (simp only [az]; done)) only [ru, eq_self, if_true, if_false, BEq.rfl, binI, AO.row?, splice, fillL, mmAll, loadV, storeV, zeros, Am.rowAt, Am.part, addOff, Nat.reduceAdd, Nat.reduceMul, Nat.reduceLeDiff, Nat.reduceSub, Nat.reduceLT, Int.reduceEq, Int.reduceLT, Int.reduceLE, Int.reduceGT, Int.reduceGE, Int.reduceAdd, Int.reduceSub, Int.reduceMul, Int.reduceNeg, Int.reduceToNat, reduceCtorEq, reduceIte, lenV_sl H0.p, lenV_sl H0.b, elem_sp H0.p, elem_bt H0.b, view_sl H0.p, view_sl H0.b, scalar_sl H0.p, scalar_sl H0.b, cells_sl H0.p, cells_sl H0.b, pure_sl H0.p, pure_sl H0.b, Int.toNat_natCast, g0, hv, m1, m2, decide_true, gUn, s19]
  obtain ⟨a, c, rfl, rfl, ha, hcc⟩ : ∃ a c : Nat, x = a ∧ y = c ∧ a ≤ 100 ∧ c ≤ 100 := by
    have h1 : 0 ≤ x ∧ 0 ≤ y := by unfold mmx at m1; simp only [Bool.false_eq_true, if_false] at m1; split at m1 <;> omega
    have h2 : x ≤ 100 ∧ y ≤ 100 := by unfold mmx at m2; simp only [if_true] at m2; split at m2 <;> omega
    exact ⟨x.toNat, y.toNat, by omega, by omega, by omega, by omega⟩
  obtain ⟨K, hc⟩ := valid_good hv
  have H : SeaOk s p b := ⟨H0, by have := K.sp.le; omega, by have := K.nb; omega⟩
  have sp := H.sp; have sb := H.sb
  have k1 : 0 < s.pl.length := K.sp.ne
  obtain ⟨pv, bv, op, ob, H', hC, fr, hop, hob, CP⟩ := c40 H [.cells [I s.w.lo, I s.w.hi, p, b] false]
  have h0 : H'[0]? = some (.cells [I s.w.lo, I s.w.hi, p, b] false) := fr.at rfl
  simp only [List.length_cons, List.length_nil] at hop hob
  have ol := (List.getElem?_eq_some_iff.1 CP.b).1
  have ol' := (List.getElem?_eq_some_iff.1 CP.p).1
  have hne := CP.ne
  have epv := CP.ep; have ebv := CP.eb
  obtain ⟨H2, hH2⟩ : ∃ H2, H2 = (H' ++ [AO.cells [I s.w.lo, I s.w.hi, pv, bv] false]) := ⟨_, rfl⟩
  have fr2 : Fr H' H2 := by rw [hH2]; exact Fr.app _ _
  have i0 := fr2.at h0
  have ip := fr2.at CP.p
  have ib := fr2.at CP.b
  obtain ⟨o, ho⟩ : ∃ o, o = H'.length := ⟨_, rfl⟩
  have io : H2[o]? = some (.cells [I s.w.lo, I s.w.hi, pv, bv] false) := by rw [hH2, ho]; exact atE
  have cpv : pv.cells = [pv] ∧ pv.scalar = true := by rw [epv]; exact ⟨rfl, rfl⟩
  have cbv : bv.cells = [bv] ∧ bv.scalar = true := by rw [ebv]; exact ⟨rfl, rfl⟩
  have ep : ∀ i : Nat, i < s.pl.length → elemAt 2 pv (I i) = some (.ptr op (i * 2)) := fun i hi => by rw [epv, elemAt_ms (by omega) (by omega)]; simp
  have eb : ∀ i : Nat, i < s.bo.length → elemAt 2 bv (I i) = some (.ptr ob (i * 2)) := fun i hi => by rw [ebv, elemAt_ms (by omega) (by omega)]; simp
  have l2 : H2.length = o + 1 := by rw [hH2, ho]; simp
  simp only [seaV] at hC
  simp (disch := first | assumption | omega | (simp only [az]; done)) only [ru, eq_self, if_true, if_false, BEq.rfl, binI, AO.row?, splice, fillL, mmAll, loadV, storeV, zeros, Am.rowAt, Am.part, addOff, Nat.reduceAdd, Nat.reduceMul, Nat.reduceLeDiff, Nat.reduceSub, Nat.reduceLT, Int.reduceEq, Int.reduceLT, Int.reduceLE, Int.reduceGT, Int.reduceGE, Int.reduceAdd, Int.reduceSub, Int.reduceMul, Int.reduceNeg, Int.reduceToNat, reduceCtorEq, reduceIte, lenV_sl H.p, lenV_sl H.b, elem_sp H.p, elem_bt H.b, view_sl H.p, view_sl H.b, scalar_sl H.p, scalar_sl H.b, cells_sl H.p, cells_sl H.b, pure_sl H.p, pure_sl H.b, Int.toNat_natCast, g0, hv, m1, m2, decide_false, Bool.not_true, exOp_call2, hC, cpv.1, cpv.2, cbv.1, cbv.2, atE, setE, ← hH2]
  rw [← ho]
  clear hC
  refine G_loop_ind (fun m ts h mk => ∃ (i : Nat) (PL : List Spn), i ≤ s.pl.length ∧ m = s.pl.length - i ∧ PL.length = s.pl.length ∧ (∀ j, j < i → PL.getD j default = s.pl.getD ((j + a) % s.pl.length) default) ∧ ts.length = 123 ∧ ts.getD 1 .undef = I a ∧ ts.getD 2 .undef = I c ∧ ts.getD 3 .undef = .ptr 0 0 ∧ ts.getD 7 .undef = .ptr o 0 ∧ ts.getD 8 .undef = I i ∧ h.length = o + 1 ∧ h[0]? = some (.cells [I s.w.lo, I s.w.hi, p, b] false) ∧ h[o]? = some (.cells [I s.w.lo, I s.w.hi, pv, bv] false) ∧ h[op]? = some (.cells (PL.flatMap Spn.e) false) ∧ h[ob]? = some (.cells (s.bo.flatMap Bt.e) false) ∧ mk = []) ?_ _ _ _ _
    ⟨0, s.pl, Nat.zero_le _, rfl, rfl, fun j hj => by omega, rfl, rfl, rfl, rfl, rfl, rfl, l2, i0, io, ip, ib, rfl⟩
  clear i0 ip ib io l2 hH2 fr2 H2
  rintro m ts h mk ih ⟨i, PL, hi, rfl, hPL, hat, hl', q1, q2, q3, q7, q8, hlen, i0, io, ip, ib, rfl⟩
  rw [lit_all hl']
  simp only [lit0, litS, Nat.reduceAdd, q1, q2, q3, q7, q8]
  simp (disch := first | assumption | omega | (simp only [az]; done)) only [ru, eq_self, if_true, if_false, BEq.rfl, binI, AO.row?, splice, fillL, mmAll, loadV, storeV, zeros, Am.rowAt, Am.part, addOff, Nat.reduceAdd, Nat.reduceMul, Nat.reduceLeDiff, Nat.reduceSub, Nat.reduceLT, Int.reduceEq, Int.reduceLT, Int.reduceLE, Int.reduceGT, Int.reduceGE, Int.reduceAdd, Int.reduceSub, Int.reduceMul, Int.reduceNeg, Int.reduceToNat, reduceCtorEq, reduceIte, lenV_sl H.p, lenV_sl H.b, elem_sp H.p, elem_bt H.b, view_sl H.p, view_sl H.b, scalar_sl H.p, scalar_sl H.b, cells_sl H.p, cells_sl H.b, pure_sl H.p, pure_sl H.b, Int.toNat_natCast, i0]
  by_cases hlt : (i : Int) < s.pl.length
  case pos =>
    have hi' : i < s.pl.length := by omega
    obtain ⟨r, hr⟩ : ∃ r, r = (i + a) % s.pl.length := ⟨_, rfl⟩
    have rl : r < s.pl.length := by rw [hr]; exact Nat.mod_lt _ k1
    have rl' : (r : Int) < s.pl.length := by omega
    have em : ((i : Int) + (a : Int)).tmod s.pl.length = (r : Int) := by rw [hr]; rfl
    have kz : ¬ (s.pl.length : Int) = 0 := by omega
    have ee := ep i hi'
    have bl : (PL.flatMap Spn.e).length = PL.length * 2 := flat_len Spn.el _
    have fit : i * 2 + 2 ≤ (PL.flatMap Spn.e).length := by omega
    obtain ⟨z, hz⟩ : ∃ z, z = s.pl.getD r default := ⟨_, rfl⟩
    have bp := sp_put2 (l := PL) (i := i) (by omega) z.lo z.hi
    have st' := turn_step hPL hi' hat
    rw [← hr, ← hz] at st'
    obtain ⟨row, hrow⟩ : ∃ row, row = PL.flatMap Spn.e := ⟨_, rfl⟩
    rw [← hrow] at fit bp ip
    simp (disch := first | assumption | omega | (simp only [az]; done)) only [ru, eq_self, if_true, if_false, BEq.rfl, binI, AO.row?, splice, fillL, mmAll, loadV, storeV, zeros, Am.rowAt, Am.part, addOff, Nat.reduceAdd, Nat.reduceMul, Nat.reduceLeDiff, Nat.reduceSub, Nat.reduceLT, Int.reduceEq, Int.reduceLT, Int.reduceLE, Int.reduceGT, Int.reduceGE, Int.reduceAdd, Int.reduceSub, Int.reduceMul, Int.reduceNeg, Int.reduceToNat, reduceCtorEq, reduceIte, lenV_sl H.p, lenV_sl H.b, elem_sp H.p, elem_bt H.b, view_sl H.p, view_sl H.b, scalar_sl H.p, scalar_sl H.b, cells_sl H.p, cells_sl H.b, pure_sl H.p, pure_sl H.b, Int.toNat_natCast, i0, io, ip, hlt, kz, em, rl', ee, ← hz, fit]
    refine ih (s.pl.length - (i + 1)) _ _ _ (by omega) ⟨i + 1, PL.set i z, by omega, rfl, st'.1, st'.2, rfl, rfl, rfl, rfl, rfl, rfl, by simpa using hlen, ?_, ?_, ?_, ?_, rfl⟩
    · rw [List.getElem?_set_ne (by omega)]; exact i0
    · rw [List.getElem?_set_ne (by omega)]; exact io
    · rw [List.getElem?_set_self (by omega), bp]
    · rw [List.getElem?_set_ne (by omega)]; exact ib
  obtain rfl : i = s.pl.length := by omega
  have eP := turn_all hPL hat
  subst eP
  simp (disch := first | assumption | omega | (simp only [az]; done)) only [ru, eq_self, if_true, if_false, BEq.rfl, binI, AO.row?, splice, fillL, mmAll, loadV, storeV, zeros, Am.rowAt, Am.part, addOff, Nat.reduceAdd, Nat.reduceMul, Nat.reduceLeDiff, Nat.reduceSub, Nat.reduceLT, Int.reduceEq, Int.reduceLT, Int.reduceLE, Int.reduceGT, Int.reduceGE, Int.reduceAdd, Int.reduceSub, Int.reduceMul, Int.reduceNeg, Int.reduceToNat, reduceCtorEq, reduceIte, lenV_sl H.p, lenV_sl H.b, elem_sp H.p, elem_bt H.b, view_sl H.p, view_sl H.b, scalar_sl H.p, scalar_sl H.b, cells_sl H.p, cells_sl H.b, pure_sl H.p, pure_sl H.b, Int.toNat_natCast, i0, hlt]
  clear ih hl' q1 q2 q3 q7 q8 hlt hi hat
  refine G_loop_ind (fun m ts h mk => ∃ (i : Nat) (BL : List Bt), i ≤ s.bo.length ∧ m = s.bo.length - i ∧ BL.length = s.bo.length ∧ (∀ j, j < i → BL.getD j default = s.bo.getD ((j + c) % s.bo.length) default) ∧ ts.length = 123 ∧ ts.getD 2 .undef = I c ∧ ts.getD 3 .undef = .ptr 0 0 ∧ ts.getD 7 .undef = .ptr o 0 ∧ ts.getD 9 .undef = I i ∧ h.length = o + 1 ∧ h[0]? = some (.cells [I s.w.lo, I s.w.hi, p, b] false) ∧ h[o]? = some (.cells [I s.w.lo, I s.w.hi, pv, bv] false) ∧ h[op]? = some (.cells ((rot s.pl (a % s.pl.length)).flatMap Spn.e) false) ∧ h[ob]? = some (.cells (BL.flatMap Bt.e) false) ∧ mk = []) ?_ _ _ _ _
    ⟨0, s.bo, Nat.zero_le _, rfl, rfl, fun j hj => by omega, rfl, rfl, rfl, rfl, rfl, hlen, i0, io, ip, ib, rfl⟩
  clear i0 ip ib io hlen
  rintro m ts h mk ih ⟨i, BL, hi, rfl, hBL, hat, hl', q2, q3, q7, q9, hlen, i0, io, ip, ib, rfl⟩
  rw [lit_all hl']
  simp only [lit0, litS, Nat.reduceAdd, q2, q3, q7, q9]
  simp (disch := first | assumption | omega | (simp only [az]; done)) only [ru, eq_self, if_true, if_false, BEq.rfl, binI, AO.row?, splice, fillL, mmAll, loadV, storeV, zeros, Am.rowAt, Am.part, addOff, Nat.reduceAdd, Nat.reduceMul, Nat.reduceLeDiff, Nat.reduceSub, Nat.reduceLT, Int.reduceEq, Int.reduceLT, Int.reduceLE, Int.reduceGT, Int.reduceGE, Int.reduceAdd, Int.reduceSub, Int.reduceMul, Int.reduceNeg, Int.reduceToNat, reduceCtorEq, reduceIte, lenV_sl H.p, lenV_sl H.b, elem_sp H.p, elem_bt H.b, view_sl H.p, view_sl H.b, scalar_sl H.p, scalar_sl H.b, cells_sl H.p, cells_sl H.b, pure_sl H.p, pure_sl H.b, Int.toNat_natCast, i0]
  by_cases hlt : (i : Int) < s.bo.length
  case pos =>
    have hi' : i < s.bo.length := by omega
    obtain ⟨r, hr⟩ : ∃ r, r = (i + c) % s.bo.length := ⟨_, rfl⟩
    have rl : r < s.bo.length := by rw [hr]; exact Nat.mod_lt _ (by omega)
    have rl' : (r : Int) < s.bo.length := by omega
    have em : ((i : Int) + (c : Int)).tmod s.bo.length = (r : Int) := by rw [hr]; rfl
    have kz : ¬ (s.bo.length : Int) = 0 := by omega
    have ee := eb i hi'
    have bl : (BL.flatMap Bt.e).length = BL.length * 2 := flat_len Bt.el _
    have fit : i * 2 + 2 ≤ (BL.flatMap Bt.e).length := by omega
    obtain ⟨z, hz⟩ : ∃ z, z = s.bo.getD r default := ⟨_, rfl⟩
    have bp := bt_put2 (l := BL) (i := i) (by omega) z.c z.p
    have st' := turn_step hBL hi' hat
    rw [← hr, ← hz] at st'
    obtain ⟨row, hrow⟩ : ∃ row, row = BL.flatMap Bt.e := ⟨_, rfl⟩
    rw [← hrow] at fit bp ib
    simp (disch := first | assumption | omega | (simp only [az]; done)) only [ru, eq_self, if_true, if_false, BEq.rfl, binI, AO.row?, splice, fillL, mmAll, loadV, storeV, zeros, Am.rowAt, Am.part, addOff, Nat.reduceAdd, Nat.reduceMul, Nat.reduceLeDiff, Nat.reduceSub, Nat.reduceLT, Int.reduceEq, Int.reduceLT, Int.reduceLE, Int.reduceGT, Int.reduceGE, Int.reduceAdd, Int.reduceSub, Int.reduceMul, Int.reduceNeg, Int.reduceToNat, reduceCtorEq, reduceIte, lenV_sl H.p, lenV_sl H.b, elem_sp H.p, elem_bt H.b, view_sl H.p, view_sl H.b, scalar_sl H.p, scalar_sl H.b, cells_sl H.p, cells_sl H.b, pure_sl H.p, pure_sl H.b, Int.toNat_natCast, i0, io, ib, hlt, kz, em, rl', ee, ← hz, fit]
    refine ih (s.bo.length - (i + 1)) _ _ _ (by omega) ⟨i + 1, BL.set i z, by omega, rfl, st'.1, st'.2, rfl, rfl, rfl, rfl, rfl, by simpa using hlen, ?_, ?_, ?_, ?_, rfl⟩
    · rw [List.getElem?_set_ne (by omega)]; exact i0
    · rw [List.getElem?_set_ne (by omega)]; exact io
    · rw [List.getElem?_set_ne (by omega)]; exact ip
    · rw [List.getElem?_set_self (by omega), bp]
  obtain rfl : i = s.bo.length := by omega
  have eB := turn_all hBL hat
  subst eB
  clear ih
  have CPh : CpH (rots s (a % s.pl.length) (c % s.bo.length)) h op ob pv bv := ⟨hne, by rw [epv]; show _ = AV.ms 2 op 0 (rot _ _).length; rw [rot_len], by rw [ebv]; show _ = AV.ms 2 ob 0 (rot _ _).length; rw [rot_len], ip, ib⟩
  have sam := same_rots K (a := a % s.pl.length) (b := c % s.bo.length) (Nat.mod_lt _ k1) (by
    by_cases c0 : s.bo.length = 0
    · exact .inr c0
    · exact .inl (Nat.mod_lt _ (by omega)))
  have ew : (rots s (a % s.pl.length) (c % s.bo.length)).w = s.w := rfl
  have hv2 : (rots s (a % s.pl.length) (c % s.bo.length)).valid = true := rots_valid K hc
  obtain ⟨R, hR⟩ : ∃ R, R = rots s (a % s.pl.length) (c % s.bo.length) := ⟨_, rfl⟩
  rw [← hR] at CPh sam hv2 ew
  have K2 := (valid_good hv2).1
  have HR : SeaOk R (slV 2 Spn.e R.pl) (slV 2 Bt.e R.bo) := ⟨⟨slV_is, slV_is⟩, by have := K2.sp.le; omega, by have := K2.nb; omega⟩
  have vw := CPh.view false (n := 6)
  have a1 := fun st => s39 H hv st
  have a2 := fun st => s33 H hv st
  have a3 := fun st => s39 HR hv2 st
  have a4 := fun st => s33 HR hv2 st
  simp only [seaV, cpV, sam.1, sam.2, ew] at a1 a2 a3 a4 vw
  obtain ⟨P2, hP2⟩ : ∃ P2, P2 = slV 2 Spn.e R.pl := ⟨_, rfl⟩
  obtain ⟨B2, hB2⟩ : ∃ B2, B2 = slV 2 Bt.e R.bo := ⟨_, rfl⟩
  rw [← hP2, ← hB2] at vw HR
  simp only [← hP2, ← hB2] at a3 a4
  have v1 : view false h 7 pv = some P2 := by rw [hP2]; exact RdC.view (enc := Spn.e) ⟨op, CPh.ep, CPh.p⟩ Spn.el Spn.iv
  have v2 : view false h 7 bv = some B2 := by rw [hB2]; exact RdC.view (enc := Bt.e) ⟨ob, CPh.eb, CPh.b⟩ Bt.el Bt.iv
  simp (disch := first | assumption | omega | (simp only [az]; done)) only [ru, eq_self, if_true, if_false, BEq.rfl, binI, AO.row?, splice, fillL, mmAll, loadV, storeV, zeros, Am.rowAt, Am.part, addOff, Nat.reduceAdd, Nat.reduceMul, Nat.reduceLeDiff, Nat.reduceSub, Nat.reduceLT, Int.reduceEq, Int.reduceLT, Int.reduceLE, Int.reduceGT, Int.reduceGE, Int.reduceAdd, Int.reduceSub, Int.reduceMul, Int.reduceNeg, Int.reduceToNat, reduceCtorEq, reduceIte, lenV_sl H.p, lenV_sl H.b, elem_sp H.p, elem_bt H.b, view_sl H.p, view_sl H.b, scalar_sl H.p, scalar_sl H.b, cells_sl H.p, cells_sl H.b, pure_sl H.p, pure_sl H.b, Int.toNat_natCast, i0, io, hlt, a1, a2, a3, a4, v1, v2, s19, decide_true]
end
end Go.Proofs.Ytdmhbefdidmliaa.S

