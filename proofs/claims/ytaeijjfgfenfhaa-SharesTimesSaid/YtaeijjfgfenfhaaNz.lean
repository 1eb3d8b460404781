/-
Old payments, as the specification says.
-/
import Derived.Test.YtaeijjfgfenfhaaNy
namespace Go.Proofs.Ytaeijjfgfenfhaa.S
open Go Go.Am Go.Proofs.Ytaeijjfgfenfhaa.T
set_option maxRecDepth 100000
set_option linter.unusedSimpArgs false
set_option linter.unusedVariables false

theorem t37 {L : List Py} {v : AV} (hv : IsSl 3 Py.e L v) (hl : L.length ≤ 1000) (st : Bool) : Iso E 37 [v] st = some (slV 3 Py.e L) := by
  refine Iso_of (es _ _ _ _) e37 ?_
  simp only [f37]
  obtain ⟨o, h', A, fr, oge, hc⟩ := cpyO (eb := 24) (lim := 0) (h := []) hv Py.el Py.sc (by omega) (by omega) (Nat.zero_le _)
  simp only [List.length_cons, List.length_nil, Nat.zero_add, Nat.reduceAdd, List.cons_append, List.nil_append] at A oge
  have vw : ∀ st n, Am.view st h' (n + 1) (.ms 3 o 0 L.length) = some (slV 3 Py.e L) := fun st n => RdC.view (enc := Py.e) ⟨o, rfl, hc⟩ Py.el Py.iv
  simp (disch := first | assumption | omega | (simp only [az]; done)) only [ru, eq_self, if_true, if_false, BEq.rfl, binI, AO.row?, splice, fillL, mmAll, loadV, storeV, zeros, Am.rowAt, Am.part, addOff, Nat.reduceAdd, Nat.reduceMul, Nat.reduceLeDiff, Nat.reduceSub, Nat.reduceLT, Int.reduceEq, Int.reduceLT, Int.reduceLE, Int.reduceGT, Int.reduceGE, Int.reduceAdd, Int.reduceSub, Int.reduceMul, Int.reduceNeg, Int.reduceToNat, reduceCtorEq, reduceIte, lenV_sl hv, view_sl hv, scalar_sl hv, cells_sl hv, pure_sl hv, A, vw]
/-- a number in a list -/
theorem t55 {l : List Int} {v : AV} (V : IsSl 1 intL l v) (hl : l.length ≤ 1000) (c : Int) (st : Bool) : Iso E 55 [v, I c] st = some (Bo (decide (c ∈ l))) := by
  refine Iso_of (es _ _ _ _) e55 ?_
  simp only [f55]
  simp (disch := first | assumption | omega | (simp only [az]; done)) only [ru, eq_self, if_true, if_false, BEq.rfl, binI, AO.row?, splice, fillL, mmAll, loadV, storeV, zeros, Am.rowAt, Am.part, addOff, Nat.reduceAdd, Nat.reduceMul, Nat.reduceLeDiff, Nat.reduceSub, Nat.reduceLT, Int.reduceEq, Int.reduceLT, Int.reduceLE, Int.reduceGT, Int.reduceGE, Int.reduceAdd, Int.reduceSub, Int.reduceMul, Int.reduceNeg, Int.reduceToNat, reduceCtorEq, reduceIte, lenV_sl V, view_sl V, scalar_sl V, cells_sl V, pure_sl V]
  refine G_loop_ind (fun y ts hk mk => ∃ i : Nat, i ≤ l.length ∧ y = l.length - i ∧ ¬ c ∈ l.take i ∧ hk = [] ∧ ts.length = 18 ∧ ts.getD 0 .undef = v ∧ ts.getD 1 .undef = I c ∧ ts.getD 5 .undef = I i ∧ mk = []) ?_ l.length _ _ _ ⟨0, Nat.zero_le _, rfl, by simp, rfl, rfl, rfl, rfl, rfl, rfl⟩
  rintro y ts hk mk ih ⟨i, hi, rfl, hnm, rfl, hl', q0, q1, q5, rfl⟩
  rw [lit_all hl']
  simp only [lit0, litS, Nat.reduceAdd, q0, q1, q5]
  by_cases hlt : (i : Int) < l.length
  · have hi' : i < l.length := by omega
    by_cases e : l.getD i 0 = c
    · have hm : decide (c ∈ l) = true := by rw [decide_eq_true_eq, ← e]; exact getD_memI hi'
      have eb : (l.getD i 0 == c) = true := beq_iff_eq.2 e
      simp (disch := first | assumption | omega | (simp only [az]; done)) only [ru, eq_self, if_true, if_false, BEq.rfl, binI, AO.row?, splice, fillL, mmAll, loadV, storeV, zeros, Am.rowAt, Am.part, addOff, Nat.reduceAdd, Nat.reduceMul, Nat.reduceLeDiff, Nat.reduceSub, Nat.reduceLT, Int.reduceEq, Int.reduceLT, Int.reduceLE, Int.reduceGT, Int.reduceGE, Int.reduceAdd, Int.reduceSub, Int.reduceMul, Int.reduceNeg, Int.reduceToNat, reduceCtorEq, reduceIte, hlt, lenV_sl V, elem_in V, view_sl V, scalar_sl V, cells_sl V, pure_sl V, Int.toNat_natCast, eb, hm]
    · have eb : (l.getD i 0 == c) = false := by simpa using e
      have nx : ¬ c ∈ l.take (i + 1) := by
        rw [take_snoc (d := 0) hi', List.mem_append, List.mem_singleton]
        rintro (h | h)
        · exact hnm h
        · exact e h.symm
      simp (disch := first | assumption | omega | (simp only [az]; done)) only [ru, eq_self, if_true, if_false, BEq.rfl, binI, AO.row?, splice, fillL, mmAll, loadV, storeV, zeros, Am.rowAt, Am.part, addOff, Nat.reduceAdd, Nat.reduceMul, Nat.reduceLeDiff, Nat.reduceSub, Nat.reduceLT, Int.reduceEq, Int.reduceLT, Int.reduceLE, Int.reduceGT, Int.reduceGE, Int.reduceAdd, Int.reduceSub, Int.reduceMul, Int.reduceNeg, Int.reduceToNat, reduceCtorEq, reduceIte, hlt, lenV_sl V, elem_in V, view_sl V, scalar_sl V, cells_sl V, pure_sl V, Int.toNat_natCast, eb]
      exact ih (l.length - (i + 1)) _ _ _ (by omega) ⟨i + 1, by omega, rfl, nx, rfl, rfl, rfl, rfl, rfl, rfl⟩
  · obtain rfl : i = l.length := by omega
    rw [List.take_length] at hnm
    simp (disch := first | assumption | omega | (simp only [az]; done)) only [ru, eq_self, if_true, if_false, BEq.rfl, binI, AO.row?, splice, fillL, mmAll, loadV, storeV, zeros, Am.rowAt, Am.part, addOff, Nat.reduceAdd, Nat.reduceMul, Nat.reduceLeDiff, Nat.reduceSub, Nat.reduceLT, Int.reduceEq, Int.reduceLT, Int.reduceLE, Int.reduceGT, Int.reduceGE, Int.reduceAdd, Int.reduceSub, Int.reduceMul, Int.reduceNeg, Int.reduceToNat, reduceCtorEq, reduceIte, hlt, lenV_sl V, view_sl V, scalar_sl V, cells_sl V, pure_sl V, decide_eq_false hnm]
theorem nd_get {C : List Nd} {j : Nat} (hj : j < C.length) : ((C.flatMap Nd.e).drop (j * 3)).take 3 = [I (ndA C j).up, I (ndA C j).w, I (ndA C j).f] := by
  unfold ndA
  induction C generalizing j with
  | nil => simp at hj
  | cons a C ih =>
    cases j with
    | zero => rfl
    | succ j =>
      have := ih (j := j) (by simpa using hj)
      rw [show (j + 1) * 3 = j * 3 + 3 by omega]
      simp only [List.flatMap_cons, Nd.e, List.cons_append, List.nil_append, List.drop_succ_cons, List.getD_cons_succ] at this ⊢
      exact this
theorem nd_put3 {C : List Nd} {j : Nat} {w : Int} (hj : j < C.length) : (C.flatMap Nd.e).take (j * 3) ++ [I (ndA C j).up, I w, I (ndA C j).f] ++ (C.flatMap Nd.e).drop (j * 3 + 3) = (wth C j w).flatMap Nd.e := by
  unfold wth ndA
  induction C generalizing j with
  | nil => simp at hj
  | cons a C ih =>
    cases j with
    | zero => rfl
    | succ j =>
      have := ih (j := j) (by simpa using hj)
      rw [show (j + 1) * 3 = j * 3 + 3 by omega]
      simp only [List.flatMap_cons, Nd.e, List.cons_append, List.nil_append, List.take_succ_cons, List.drop_succ_cons, List.set_cons_succ, List.getD_cons_succ] at this ⊢
      rw [← this]
section
variable {C : List Nd} {v : AV} (hv : IsSl 3 Nd.e C v)
include hv
theorem r18 (hl : C.length ≤ 1000) (h : List AO) : ∃ o J, C2 E 18 [cuV v] h = some (.agg [.ms 3 (o + h.length) 0 C.length], h ++ J) ∧ (h ++ J)[o + h.length]? = some (.cells (C.flatMap Nd.e) false) := by
  have key : ∃ r J, R E (.fn 18) [cuV v] [] 0 = some (r, J) ∧ ∃ o, r = .agg [.ms 3 o 0 C.length] ∧ J[o]? = some (.cells (C.flatMap Nd.e) false) := by
    refine R_of _ (es _ _ _ _) e18 ?_
    simp only [f18]
    obtain ⟨o, h', A, fr, oge, hc⟩ := cpyO (eb := 24) (lim := 0) (h := [.cells [v] false, .cells [.nils] false]) hv Nd.el Nd.sc (by omega) (by omega) (Nat.zero_le _)
    simp only [List.length_cons, List.length_nil, Nat.zero_add, Nat.reduceAdd, List.cons_append, List.nil_append] at A oge
    have h0 : h'[0]? = some (.cells [v] false) := fr.at rfl
    have h1 : h'[1]? = some (.cells [.nils] false) := fr.at rfl
    have k1 : (h'.set 1 (.cells [.ms 3 o 0 C.length] false))[1]? = some (.cells [.ms 3 o 0 C.length] false) := set_own h1
    have k2 : (h'.set 1 (.cells [.ms 3 o 0 C.length] false))[o]? = some (.cells (C.flatMap Nd.e) false) := set_oth hc (by omega)
    simp (disch := first | assumption | omega | (simp only [az]; done)) only [ru, eq_self, if_true, if_false, BEq.rfl, binI, AO.row?, splice, fillL, mmAll, loadV, storeV, zeros, Am.rowAt, Am.part, addOff, Nat.reduceAdd, Nat.reduceMul, Nat.reduceLeDiff, Nat.reduceSub, Nat.reduceLT, Int.reduceEq, Int.reduceLT, Int.reduceLE, Int.reduceGT, Int.reduceGE, Int.reduceAdd, Int.reduceSub, Int.reduceMul, Int.reduceNeg, Int.reduceToNat, reduceCtorEq, reduceIte, lenV_sl hv, view_sl hv, scalar_sl hv, cells_sl hv, pure_sl hv, A, h0, h1, k1, finC, getRes, Option.some.injEq, exists_eq_left']
    exact ⟨o, rfl, k2⟩
  obtain ⟨r, J, hr, o, rfl, ho⟩ := key
  have hpu : AV.pureV.go [cuV v] = true := by
    have := pure_sl hv
    simp only [AV.pureV.go, AV.pureV, this, Bool.and_true]
  refine ⟨o, _, C2_of hpu hr, ?_⟩
  rw [Nat.add_comm, List.getElem?_append_right (by omega), Nat.add_sub_cancel_left, List.getElem?_map, ho]
  show some (AO.cells ((C.flatMap Nd.e).map (AV.shift h.length)) false) = _
  congr 2
  have : ∀ (C : List Nd), (C.flatMap Nd.e).map (AV.shift h.length) = C.flatMap Nd.e := by
    intro C
    induction C with
    | nil => rfl
    | cons a C ih => rw [List.flatMap_cons, List.map_append, ih]; rfl
  exact this C
set_option maxHeartbeats 1000000 in
theorem t87 (H : CuOk C) {j : Nat} (hj : j < C.length) (w : Int) (st : Bool) : Iso E 87 [cuV v, I j, I w] st = some (cuV (slV 3 Nd.e (wth C j w))) := by
  refine Iso_of (es _ _ _ _) e87 ?_
  simp only [f87]
  have n1 := H.n1
  have n8 := H.n8
  obtain ⟨o, J, hc, ho⟩ := r18 hv (by omega) [AO.cells [v] false, .cells [.nils] false]
  have el : elemAt 3 (.ms 3 (o + 2) 0 C.length) (I j) = some (.ptr (o + 2) (j * 3)) := by
    have : (j : Int) < C.length := by omega
    simp [elemAt, this]
  have hJ : J[o]? = some (.cells (C.flatMap Nd.e) false) := by simpa using ho
  have fl : j * 3 + 3 ≤ (C.flatMap Nd.e).length := by rw [flat_len Nd.el]; omega
  have ol := (List.getElem?_eq_some_iff.1 hJ).1
  have p1 : ∀ a b : AO, (J ++ [a] ++ [b])[J.length + 1]? = some b := fun a b => by simp
  have p2 : ∀ a b c : AO, (J ++ [a] ++ [b]).set (J.length + 1) c = J ++ [a] ++ [c] := fun a b c => by simp
  have p3 : ∀ a b : AO, (J ++ [a] ++ [b])[J.length]? = some a := fun a b => by simp
  have p4 : ∀ m n : List AO, (J ++ m ++ n)[o]? = some (.cells (C.flatMap Nd.e) false) := fun m n => at_up (at_up hJ)
  have p4' : ∀ m : List AO, (J ++ m)[o]? = some (.cells (C.flatMap Nd.e) false) := fun m => at_up hJ
  have p5 : ∀ a b c : AO, (J ++ [a] ++ [b]).set o c = J.set o c ++ [a] ++ [b] := fun a b c => by
    rw [List.set_append_left _ _ (by simp; omega), List.set_append_left _ _ ol]
  have p6 : ∀ a b c : AO, (J.set o c ++ [a] ++ [b])[J.length]? = some a := fun a b c => by
    rw [List.append_assoc, List.getElem?_append_right (by simp)]; simp
  have hout : ∀ (x a b : AO), OutE Nd.e 3 0 (x :: AO.cells [AV.ms 3 (o + 2) 0 C.length] false :: (J.set o (AO.cells ((wth C j w).flatMap Nd.e) false) ++ [a] ++ [b])) (.ms 3 (o + 2) 0 C.length) (wth C j w) := fun x a b => by
    refine .inr ⟨fun e => ?_, o + 2, Nat.zero_le _, by rw [wth_len], ?_⟩
    · have h0 := congrArg List.length e; rw [wth_len] at h0; have h00 : C.length = 0 := h0; omega
    · show (J.set o _ ++ _ ++ _)[o]? = _
      exact at_up (at_up (at_se hJ))
  have hne : wth C j w ≠ [] := fun e => by have h0 := congrArg List.length e; rw [wth_len] at h0; have h00 : C.length = 0 := h0; omega
  have hvw : ∀ (g : List AO) (k : Nat) (a : Nd), (a.e).mapM (view st g (k + 1)) = some a.e := fun g k a => mapM_view fun x hx => by
    obtain ⟨q, i, rfl⟩ := Nd.iv a x hx
    exact view_int
  have hview := fun x a b => outE_view (k := 6) Nd.el (hout x a b) hne (st := st) (fun a => hvw _ _ a)
  simp (disch := first | assumption | omega | (simp only [az]; done)) only [ru, eq_self, if_true, if_false, BEq.rfl, binI, AO.row?, splice, fillL, mmAll, loadV, storeV, zeros, Am.rowAt, Am.part, addOff, Nat.reduceAdd, Nat.reduceMul, Nat.reduceLeDiff, Nat.reduceSub, Nat.reduceLT, Int.reduceEq, Int.reduceLT, Int.reduceLE, Int.reduceGT, Int.reduceGE, Int.reduceAdd, Int.reduceSub, Int.reduceMul, Int.reduceNeg, Int.reduceToNat, reduceCtorEq, reduceIte, lenV_sl hv, view_sl hv, scalar_sl hv, cells_sl hv, pure_sl hv, exOp_call2, List.length_cons, List.length_nil, hc, el, hJ, p1, p2, p3, p4, p4', p5, p6, fl, nd_get hj, lenE, setE, atE, atT0, setT0, atT, setT, nd_put3 hj, finC, getRes, Option.some.injEq, exists_eq_left', view_agg, hview]
  done
theorem t106 (H : CuOk C) {x : Py} (hx : payOk C.length x = true) (st : Bool) : Iso E 106 [cuV v, .agg [I x.p, I x.n, I x.c]] st = some (Bo (agr C x)) := by
  simp only [payOk, Bool.and_eq_true, inR_iff] at hx
  obtain ⟨⟨⟨n0, n1⟩, p0, p1⟩, _⟩ := hx
  have e : x.n = (x.n.toNat : Int) := by omega
  have hg := t68 hv H p0 (by omega) x.n.toNat (by omega)
  rw [← e] at hg
  refine Iso_of (es _ _ _ _) e106 ?_
  simp only [f106]
  have ea : (gG C x.p x.n.toNat == x.c) = agr C x := by unfold agr; by_cases c : gG C x.p x.n.toNat = x.c <;> simp [c]
  simp (disch := first | assumption | omega | (simp only [az]; done)) only [ru, eq_self, if_true, if_false, BEq.rfl, binI, AO.row?, splice, fillL, mmAll, loadV, storeV, zeros, Am.rowAt, Am.part, addOff, Nat.reduceAdd, Nat.reduceMul, Nat.reduceLeDiff, Nat.reduceSub, Nat.reduceLT, Int.reduceEq, Int.reduceLT, Int.reduceLE, Int.reduceGT, Int.reduceGE, Int.reduceAdd, Int.reduceSub, Int.reduceMul, Int.reduceNeg, Int.reduceToNat, reduceCtorEq, reduceIte, lenV_sl hv, view_sl hv, scalar_sl hv, cells_sl hv, pure_sl hv, hg, ea]
theorem t53 (hl : C.length ≤ 1000) {L : List Py} {pv : AV} (V : IsSl 3 Py.e L pv) (hL : L.length ≤ 1000) (st : Bool) : Iso E 53 [cuV v, pv] st = some (Bo (L.all (payOk C.length))) := by
  refine Iso_of (es _ _ _ _) e53 ?_
  simp only [f53]
  have eA : L.all (payOk C.length) = (List.range L.length).all fun i => payOk C.length (L.getD i default) := by
    rw [Bool.eq_iff_iff]
    simp only [List.all_eq_true, List.mem_range]
    constructor
    · intro h i hi; exact h _ (getD_mem hi)
    · intro h x hx; obtain ⟨i, hi, rfl⟩ := mem_getD (d := default) hx; exact h i hi
  simp (disch := first | assumption | omega | (simp only [az]; done)) only [ru, eq_self, if_true, if_false, BEq.rfl, binI, AO.row?, splice, fillL, mmAll, loadV, storeV, zeros, Am.rowAt, Am.part, addOff, Nat.reduceAdd, Nat.reduceMul, Nat.reduceLeDiff, Nat.reduceSub, Nat.reduceLT, Int.reduceEq, Int.reduceLT, Int.reduceLE, Int.reduceGT, Int.reduceGE, Int.reduceAdd, Int.reduceSub, Int.reduceMul, Int.reduceNeg, Int.reduceToNat, reduceCtorEq, reduceIte, lenV_sl hv, view_sl hv, scalar_sl hv, cells_sl hv, pure_sl hv, lenV_sl V, view_sl V, scalar_sl V, cells_sl V, pure_sl V]
  refine G_loop_ind (fun y ts hk mk => ∃ i : Nat, i ≤ L.length ∧ y = L.length - i ∧ ((List.range i).all fun i => payOk C.length (L.getD i default)) = true ∧ hk = [.cells [v] false] ∧ ts.length = 38 ∧ ts.getD 1 .undef = pv ∧ ts.getD 2 .undef = .ptr 0 0 ∧ ts.getD 5 .undef = I i ∧ mk = []) ?_ L.length _ _ _ ⟨0, Nat.zero_le _, rfl, rfl, rfl, rfl, rfl, rfl, rfl, rfl⟩
  rintro y ts hk mk ih ⟨i, hi, rfl, hall, rfl, hl', q1, q2, q5, rfl⟩
  rw [lit_all hl']
  simp only [lit0, litS, Nat.reduceAdd, q1, q2, q5]
  by_cases hlt : (i : Int) < L.length
  · have no := fun hp => range_not (N := L.length) (p := fun i => payOk C.length (L.getD i default)) (show i < L.length by omega) hp
    have nx := fun hp => range_all_succ (p := fun i => payOk C.length (L.getD i default)) hall hp
    obtain ⟨x, hx⟩ : ∃ x, x = L.getD i default := ⟨_, rfl⟩
    rw [← hx, ← eA] at no
    rw [← hx] at nx
    rw [show payOk C.length x = (inR x.n 0 (C.length - 1) && inR x.p 0 400 && inR x.c 0 400) from rfl] at no nx
    cases h1 : inR x.p 0 400
    · have := no (by rw [h1]; simp)
      simp (disch := first | assumption | omega | (simp only [az]; done)) only [ru, eq_self, if_true, if_false, BEq.rfl, binI, AO.row?, splice, fillL, mmAll, loadV, storeV, zeros, Am.rowAt, Am.part, addOff, Nat.reduceAdd, Nat.reduceMul, Nat.reduceLeDiff, Nat.reduceSub, Nat.reduceLT, Int.reduceEq, Int.reduceLT, Int.reduceLE, Int.reduceGT, Int.reduceGE, Int.reduceAdd, Int.reduceSub, Int.reduceMul, Int.reduceNeg, Int.reduceToNat, reduceCtorEq, reduceIte, hlt, lenV_sl hv, view_sl hv, scalar_sl hv, cells_sl hv, pure_sl hv, lenV_sl V, view_sl V, scalar_sl V, cells_sl V, pure_sl V, elem_py V, Int.toNat_natCast, ← hx, t46, h1, gUn, Bool.not_false]
      first | exact this | exact this.symm | rw [this]
    · cases h2 : inR x.n 0 (C.length - 1)
      · have := no (by rw [h2]; simp)
        simp (disch := first | assumption | omega | (simp only [az]; done)) only [ru, eq_self, if_true, if_false, BEq.rfl, binI, AO.row?, splice, fillL, mmAll, loadV, storeV, zeros, Am.rowAt, Am.part, addOff, Nat.reduceAdd, Nat.reduceMul, Nat.reduceLeDiff, Nat.reduceSub, Nat.reduceLT, Int.reduceEq, Int.reduceLT, Int.reduceLE, Int.reduceGT, Int.reduceGE, Int.reduceAdd, Int.reduceSub, Int.reduceMul, Int.reduceNeg, Int.reduceToNat, reduceCtorEq, reduceIte, hlt, lenV_sl hv, view_sl hv, scalar_sl hv, cells_sl hv, pure_sl hv, lenV_sl V, view_sl V, scalar_sl V, cells_sl V, pure_sl V, elem_py V, Int.toNat_natCast, ← hx, t46, t49 hv hl, h1, h2, gUn, Bool.not_false, Bool.not_true]
        first | exact this | exact this.symm | rw [this]
      · cases h3 : inR x.c 0 400
        · have := no (by rw [h3]; simp)
          simp (disch := first | assumption | omega | (simp only [az]; done)) only [ru, eq_self, if_true, if_false, BEq.rfl, binI, AO.row?, splice, fillL, mmAll, loadV, storeV, zeros, Am.rowAt, Am.part, addOff, Nat.reduceAdd, Nat.reduceMul, Nat.reduceLeDiff, Nat.reduceSub, Nat.reduceLT, Int.reduceEq, Int.reduceLT, Int.reduceLE, Int.reduceGT, Int.reduceGE, Int.reduceAdd, Int.reduceSub, Int.reduceMul, Int.reduceNeg, Int.reduceToNat, reduceCtorEq, reduceIte, hlt, lenV_sl hv, view_sl hv, scalar_sl hv, cells_sl hv, pure_sl hv, lenV_sl V, view_sl V, scalar_sl V, cells_sl V, pure_sl V, elem_py V, Int.toNat_natCast, ← hx, t46, t49 hv hl, h1, h2, h3, gUn, Bool.not_false, Bool.not_true]
          first | exact this | exact this.symm | rw [this]
        · have hn := nx (by rw [h1, h2, h3]; rfl)
          simp (disch := first | assumption | omega | (simp only [az]; done)) only [ru, eq_self, if_true, if_false, BEq.rfl, binI, AO.row?, splice, fillL, mmAll, loadV, storeV, zeros, Am.rowAt, Am.part, addOff, Nat.reduceAdd, Nat.reduceMul, Nat.reduceLeDiff, Nat.reduceSub, Nat.reduceLT, Int.reduceEq, Int.reduceLT, Int.reduceLE, Int.reduceGT, Int.reduceGE, Int.reduceAdd, Int.reduceSub, Int.reduceMul, Int.reduceNeg, Int.reduceToNat, reduceCtorEq, reduceIte, hlt, lenV_sl hv, view_sl hv, scalar_sl hv, cells_sl hv, pure_sl hv, lenV_sl V, view_sl V, scalar_sl V, cells_sl V, pure_sl V, elem_py V, Int.toNat_natCast, ← hx, t46, t49 hv hl, h1, h2, h3, gUn, Bool.not_false, Bool.not_true]
          exact ih (L.length - (i + 1)) _ _ _ (by omega) ⟨i + 1, by omega, rfl, hn, rfl, rfl, rfl, rfl, rfl, rfl⟩
  · obtain rfl : i = L.length := by omega
    rw [← eA] at hall
    simp (disch := first | assumption | omega | (simp only [az]; done)) only [ru, eq_self, if_true, if_false, BEq.rfl, binI, AO.row?, splice, fillL, mmAll, loadV, storeV, zeros, Am.rowAt, Am.part, addOff, Nat.reduceAdd, Nat.reduceMul, Nat.reduceLeDiff, Nat.reduceSub, Nat.reduceLT, Int.reduceEq, Int.reduceLT, Int.reduceLE, Int.reduceGT, Int.reduceGE, Int.reduceAdd, Int.reduceSub, Int.reduceMul, Int.reduceNeg, Int.reduceToNat, reduceCtorEq, reduceIte, hlt, lenV_sl V, view_sl V, scalar_sl V, cells_sl V, pure_sl V, hall]
theorem t84 (hl : C.length ≤ 1000) {L : List Py} {pv : AV} (V : IsSl 3 Py.e L pv) (hL : L.length ≤ 1000) (b st : Bool) : Iso E 84 [cuV v, pv, Bo b] st = some (I (fitE C b L)) := by
  refine Iso_of (es _ _ _ _) e84 ?_
  simp only [f84]
  unfold fitE
  cases hc : cuB C
  · have n : ((100 : Int) != 0) = true := rfl
    simp (disch := first | assumption | omega | (simp only [az]; done)) only [ru, eq_self, if_true, if_false, BEq.rfl, binI, AO.row?, splice, fillL, mmAll, loadV, storeV, zeros, Am.rowAt, Am.part, addOff, Nat.reduceAdd, Nat.reduceMul, Nat.reduceLeDiff, Nat.reduceSub, Nat.reduceLT, Int.reduceEq, Int.reduceLT, Int.reduceLE, Int.reduceGT, Int.reduceGE, Int.reduceAdd, Int.reduceSub, Int.reduceMul, Int.reduceNeg, Int.reduceToNat, reduceCtorEq, reduceIte, lenV_sl hv, view_sl hv, scalar_sl hv, cells_sl hv, pure_sl hv, lenV_sl V, view_sl V, scalar_sl V, cells_sl V, pure_sl V, t20 hv hl, hc, n]
  · have n : ((0 : Int) != 0) = false := rfl
    by_cases h6 : 6 < L.length
    · have h6' : (L.length : Int) > 6 := by omega
      simp (disch := first | assumption | omega | (simp only [az]; done)) only [ru, eq_self, if_true, if_false, BEq.rfl, binI, AO.row?, splice, fillL, mmAll, loadV, storeV, zeros, Am.rowAt, Am.part, addOff, Nat.reduceAdd, Nat.reduceMul, Nat.reduceLeDiff, Nat.reduceSub, Nat.reduceLT, Int.reduceEq, Int.reduceLT, Int.reduceLE, Int.reduceGT, Int.reduceGE, Int.reduceAdd, Int.reduceSub, Int.reduceMul, Int.reduceNeg, Int.reduceToNat, reduceCtorEq, reduceIte, lenV_sl hv, view_sl hv, scalar_sl hv, cells_sl hv, pure_sl hv, lenV_sl V, view_sl V, scalar_sl V, cells_sl V, pure_sl V, t20 hv hl, hc, n, h6, h6']
    · have h6' : ¬ (L.length : Int) > 6 := by omega
      cases b
      · simp (disch := first | assumption | omega | (simp only [az]; done)) only [ru, eq_self, if_true, if_false, BEq.rfl, binI, AO.row?, splice, fillL, mmAll, loadV, storeV, zeros, Am.rowAt, Am.part, addOff, Nat.reduceAdd, Nat.reduceMul, Nat.reduceLeDiff, Nat.reduceSub, Nat.reduceLT, Int.reduceEq, Int.reduceLT, Int.reduceLE, Int.reduceGT, Int.reduceGE, Int.reduceAdd, Int.reduceSub, Int.reduceMul, Int.reduceNeg, Int.reduceToNat, reduceCtorEq, reduceIte, lenV_sl hv, view_sl hv, scalar_sl hv, cells_sl hv, pure_sl hv, lenV_sl V, view_sl V, scalar_sl V, cells_sl V, pure_sl V, t20 hv hl, hc, n, h6, h6', gUn, Bool.not_false, Bool.false_and]
      · cases ha : L.all (payOk C.length)
        · simp (disch := first | assumption | omega | (simp only [az]; done)) only [ru, eq_self, if_true, if_false, BEq.rfl, binI, AO.row?, splice, fillL, mmAll, loadV, storeV, zeros, Am.rowAt, Am.part, addOff, Nat.reduceAdd, Nat.reduceMul, Nat.reduceLeDiff, Nat.reduceSub, Nat.reduceLT, Int.reduceEq, Int.reduceLT, Int.reduceLE, Int.reduceGT, Int.reduceGE, Int.reduceAdd, Int.reduceSub, Int.reduceMul, Int.reduceNeg, Int.reduceToNat, reduceCtorEq, reduceIte, lenV_sl hv, view_sl hv, scalar_sl hv, cells_sl hv, pure_sl hv, lenV_sl V, view_sl V, scalar_sl V, cells_sl V, pure_sl V, t20 hv hl, hc, n, h6, h6', gUn, Bool.not_false, Bool.not_true, Bool.true_and, t53 hv hl V hL, ha]
        · simp (disch := first | assumption | omega | (simp only [az]; done)) only [ru, eq_self, if_true, if_false, BEq.rfl, binI, AO.row?, splice, fillL, mmAll, loadV, storeV, zeros, Am.rowAt, Am.part, addOff, Nat.reduceAdd, Nat.reduceMul, Nat.reduceLeDiff, Nat.reduceSub, Nat.reduceLT, Int.reduceEq, Int.reduceLT, Int.reduceLE, Int.reduceGT, Int.reduceGE, Int.reduceAdd, Int.reduceSub, Int.reduceMul, Int.reduceNeg, Int.reduceToNat, reduceCtorEq, reduceIte, lenV_sl hv, view_sl hv, scalar_sl hv, cells_sl hv, pure_sl hv, lenV_sl V, view_sl V, scalar_sl V, cells_sl V, pure_sl V, t20 hv hl, hc, n, h6, h6', gUn, Bool.not_false, Bool.not_true, Bool.true_and, t53 hv hl V hL, ha]
set_option maxHeartbeats 1000000 in
/-- all with which a custom does not agree -/
theorem t85 (H : CuOk C) {L : List Py} {pv : AV} (V : IsSl 3 Py.e L pv) (hL : L.length ≤ 1000) (hp : ∀ x ∈ L, payOk C.length x = true) (st : Bool) : Iso E 85 [cuV v, pv] st = some (resL (wrL C L L.length)) := by
  refine Iso_of (es _ _ _ _) e85 ?_
  simp only [f85]
  simp (disch := first | assumption | omega | (simp only [az]; done)) only [ru, eq_self, if_true, if_false, BEq.rfl, binI, AO.row?, splice, fillL, mmAll, loadV, storeV, zeros, Am.rowAt, Am.part, addOff, Nat.reduceAdd, Nat.reduceMul, Nat.reduceLeDiff, Nat.reduceSub, Nat.reduceLT, Int.reduceEq, Int.reduceLT, Int.reduceLE, Int.reduceGT, Int.reduceGE, Int.reduceAdd, Int.reduceSub, Int.reduceMul, Int.reduceNeg, Int.reduceToNat, reduceCtorEq, reduceIte, lenV_sl hv, view_sl hv, scalar_sl hv, cells_sl hv, pure_sl hv, lenV_sl V, view_sl V, scalar_sl V, cells_sl V, pure_sl V]
  obtain ⟨pre, hpre⟩ : ∃ pre, pre = [AO.cells [v] false] := ⟨_, rfl⟩
  have hp0 : ∀ m : List AO, (pre ++ m)[0]? = some (.cells [v] false) := fun m => by rw [hpre]; rfl
  have hpl : pre.length = 1 := by rw [hpre]; rfl
  refine G_loop_ind (fun y ts hk mk => ∃ (i : Nat) (J : List AO), i ≤ L.length ∧ y = L.length - i ∧ hk = pre ++ J ∧ OutE intL 1 pre.length (pre ++ J) (ts.getD 5 .undef) (wrL C L i) ∧ ts.length = 25 ∧ ts.getD 1 .undef = pv ∧ ts.getD 2 .undef = .ptr 0 0 ∧ ts.getD 6 .undef = I i ∧ mk = []) ?_ L.length _ _ _ ⟨0, [], Nat.zero_le _, rfl, by rw [hpre]; rfl, .inl ⟨rfl, rfl⟩, rfl, rfl, rfl, rfl, rfl⟩
  rintro y ts hk mk ih ⟨i, J, hi, rfl, rfl, ho, hl', q1, q2, q6, rfl⟩
  rw [lit_all hl']
  obtain ⟨w, hw⟩ : ∃ w, w = ts.getD 5 .undef := ⟨_, rfl⟩
  rw [← hw] at ho
  have hw' := hw.symm
  simp only [lit0, litS, Nat.reduceAdd, q1, q2, q6, hw']
  by_cases hlt : (i : Int) < L.length
  · obtain ⟨x, hx⟩ : ∃ x, x = L.getD i default := ⟨_, rfl⟩
    have hxm : x ∈ L := by rw [hx]; exact getD_mem (by omega)
    have h106 := fun st => t106 hv H (hp x hxm) st
    have hlen : (wrL C L i).length ≤ 1000 := by unfold wrL; rw [ofN_len]; exact Nat.le_trans (List.length_filter_le _ _) (by simp; omega)
    cases hc : agr C x with
    | true =>
      rw [hc] at h106
      have e2 : wrL C L (i + 1) = wrL C L i := by rw [wrL_succ, ← hx, if_pos hc]
      simp (disch := first | assumption | omega | (simp only [az]; done)) only [ru, eq_self, if_true, if_false, BEq.rfl, binI, AO.row?, splice, fillL, mmAll, loadV, storeV, zeros, Am.rowAt, Am.part, addOff, Nat.reduceAdd, Nat.reduceMul, Nat.reduceLeDiff, Nat.reduceSub, Nat.reduceLT, Int.reduceEq, Int.reduceLT, Int.reduceLE, Int.reduceGT, Int.reduceGE, Int.reduceAdd, Int.reduceSub, Int.reduceMul, Int.reduceNeg, Int.reduceToNat, reduceCtorEq, reduceIte, hlt, lenV_sl hv, view_sl hv, scalar_sl hv, cells_sl hv, pure_sl hv, lenV_sl V, view_sl V, scalar_sl V, cells_sl V, pure_sl V, elem_py V, Int.toNat_natCast, ← hx, hp0, h106, Bool.not_true]
      exact ih (L.length - (i + 1)) _ _ _ (by omega) ⟨i + 1, J, by omega, rfl, rfl, by rw [e2]; exact ho, rfl, rfl, rfl, rfl, rfl⟩
    | false =>
      rw [hc] at h106
      have e2 : wrL C L (i + 1) = wrL C L i ++ [(i : Int)] := by rw [wrL_succ, ← hx, if_neg (by rw [hc]; simp)]
      obtain ⟨v', J', ha, ho'⟩ := outE_app (pre := pre) (J := J) (eb := 8) (lim := 0) intE intSc (by omega) (by omega) (by omega) ho (Nat.zero_le _) (by omega) (i : Int)
      simp (disch := first | assumption | omega | (simp only [az]; done)) only [ru, eq_self, if_true, if_false, BEq.rfl, binI, AO.row?, splice, fillL, mmAll, loadV, storeV, zeros, Am.rowAt, Am.part, addOff, Nat.reduceAdd, Nat.reduceMul, Nat.reduceLeDiff, Nat.reduceSub, Nat.reduceLT, Int.reduceEq, Int.reduceLT, Int.reduceLE, Int.reduceGT, Int.reduceGE, Int.reduceAdd, Int.reduceSub, Int.reduceMul, Int.reduceNeg, Int.reduceToNat, reduceCtorEq, reduceIte, hlt, lenV_sl hv, view_sl hv, scalar_sl hv, cells_sl hv, pure_sl hv, lenV_sl V, view_sl V, scalar_sl V, cells_sl V, pure_sl V, elem_py V, Int.toNat_natCast, ← hx, hp0, exOp_litS, h106, Bool.not_false, ha]
      exact ih (L.length - (i + 1)) _ _ _ (by omega) ⟨i + 1, J', by omega, rfl, rfl, by rw [e2]; exact ho', rfl, rfl, rfl, rfl, rfl⟩
  · obtain rfl : i = L.length := by omega
    simp (disch := first | assumption | omega | (simp only [az]; done)) only [ru, eq_self, if_true, if_false, BEq.rfl, binI, AO.row?, splice, fillL, mmAll, loadV, storeV, zeros, Am.rowAt, Am.part, addOff, Nat.reduceAdd, Nat.reduceMul, Nat.reduceLeDiff, Nat.reduceSub, Nat.reduceLT, Int.reduceEq, Int.reduceLT, Int.reduceLE, Int.reduceGT, Int.reduceGE, Int.reduceAdd, Int.reduceSub, Int.reduceMul, Int.reduceNeg, Int.reduceToNat, reduceCtorEq, reduceIte, hlt, lenV_sl V, view_sl V, scalar_sl V, cells_sl V, pure_sl V, ho.viewL]
end
end Go.Proofs.Ytaeijjfgfenfhaa.S

