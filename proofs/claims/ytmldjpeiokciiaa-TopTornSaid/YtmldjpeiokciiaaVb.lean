/-
The holes of the anchors that drag.
-/
import Derived.Test.YtmldjpeiokciiaaVa
namespace Go.Proofs.Ytmldjpeiokciiaa.A
open Go Go.Am Go.Proofs.Ytmldjpeiokciiaa.T
open Go.Proofs.Ytmldjpeiokciiaa.S (setT setT0 atT atT0 getT getT0 Hl pick OutE outE_apG outE_view elem_hl pick_len at_ap GO_mapp GO_mcall0 unhN unhC)
set_option maxRecDepth 100000
set_option linter.unusedSimpArgs false
set_option linter.unusedVariables false
attribute [local irreducible] Go.Am.G Go.Am.GO Go.Am.GG Go.Am.GC Go.Am.GP Go.Am.GX

def pckV (l : List Hl) : AV := if l = [] then .nils else slV 4 Hl.e l
theorem pckV_is (l : List Hl) : IsSl 4 Hl.e l (pckV l) := by
  unfold pckV; split
  · rename_i h; exact .inr ⟨rfl, h⟩
  · exact slV_is
theorem pck_view {b k : Nat} {h : List AO} {v : AV} {l : List Hl} (O : OutE Hl.e 4 b h v l) (st : Bool) : view st h (k + 2) v = some (pckV l) := by
  by_cases e : l = []
  · subst e
    rcases O with ⟨_, rfl⟩ | ⟨hne, _⟩
    · rfl
    · exact absurd rfl hne
  · rw [pckV, if_neg e]
    exact outE_view Hl.el O e fun a => by simp only [Hl.e, List.mapM_cons, List.mapM_nil, view_int]; rfl
theorem pick_snoc {H : List Hl} {K : List Int} {i : Nat} (hi : i < K.length) : pick H (K.take (i + 1)) = pick H (K.take i) ++ [H.getD (K.getD i default).toNat default] := by
  unfold pick
  have e : K.getD i default = K[i] := by rw [List.getD_eq_getElem?_getD, List.getElem?_eq_getElem hi]; rfl
  rw [List.take_succ_eq_append_getElem hi, List.map_append, List.map_cons, List.map_nil, e]

set_option maxHeartbeats 4000000 in
theorem sHoles {n : Net} {g a w : AV} (H : NetOk n g a w) {t : Tru} {v : AV} (V : TruOk t v) (G : Good n t) {L : List Hl} {hv : AV} (HV : IsSl 4 Hl.e L hv) (hl : L.length = n.ancs.length) (m a1 a2 b1 b2 : Int) {p1 p2 : List Int} {q1 q2 : AV} (Q1 : IsSl 1 (fun n => [I n]) p1 q1) (Q2 : IsSl 1 (fun n => [I n]) p2 q2) :
    Iso E 9 [netV n g a w, .agg [I t.wind, I t.cur, v], .agg [I a1, I a2, q1, I b1, I b2, q2, hv, I m]] false = some (.tup [.agg [I m, pckV (pick L (lst n (lfp n t none6))), .nils], Bo true]) := by
  have sa := H.sa
  have c1 := fun st => s25 V st
  have V2 : TruOk t (slV 1 (fun n => [I n]) t.grips) := ⟨slV_is, V.l⟩
  have c2 := s28 H V2
  have ge : givenE n t = 0 := by simp [givenE, G.v, G.tr]
  simp only [ansL, ge, errL, if_true] at c2
  have RK := resL_is (lst n (lfp n t none6))
  have lK : (lst n (lfp n t none6)).length ≤ n.ancs.length := lst_le
  have ri := lst_rises n (lfp n t none6)
  have c3 := fun st => s53 RK (by omega) ri st
  obtain ⟨K, hK⟩ : ∃ K, K = lst n (lfp n t none6) := ⟨_, rfl⟩
  obtain ⟨S1, hS1⟩ : ∃ S1, S1 = slV 1 (fun n => [I n]) t.grips := ⟨_, rfl⟩
  have VS : IsSl 1 (fun n => [I n]) t.grips S1 := by rw [hS1]; exact slV_is
  rw [← hK] at c2 c3 RK lK ri ⊢
  rw [← hS1] at c1 c2
  obtain ⟨kv, hkv⟩ : ∃ kv, kv = resL K := ⟨_, rfl⟩
  rw [← hkv] at c2 c3 RK
  simp only [netV] at c2
  refine Iso_of (es _ _ _ _) e9 ?_
  simp only [f9, netV]
  simp (disch := first | assumption | omega | (simp only [az]; done)) only [ru, eq_self, if_true, if_false, BEq.rfl, binI, AO.row?, splice, fillL, mmAll, loadV, storeV, zeros, Am.rowAt, Am.part, addOff, Nat.reduceAdd, Nat.reduceMul, Nat.reduceLeDiff, Nat.reduceSub, Nat.reduceLT, Int.reduceEq, Int.reduceLT, Int.reduceLE, Int.reduceGT, Int.reduceGE, Int.reduceAdd, Int.reduceSub, Int.reduceMul, Int.reduceNeg, Int.reduceToNat, reduceCtorEq, reduceIte, lenV_sl H.g, lenV_sl H.a, lenV_sl H.w, elem_sl Spn.el H.g, elem_sl Anc.el H.a, elem_sl Wal.el H.w, view_sl H.g, view_sl H.a, view_sl H.w, scalar_sl H.g, scalar_sl H.a, scalar_sl H.w, cells_sl H.g, cells_sl H.a, cells_sl H.w, pure_sl H.g, pure_sl H.a, pure_sl H.w, Spn.e, Anc.e, Wal.e, Spn.eta, Anc.eta, Wal.eta, Int.toNat_natCast, lenV_sl V.s, view_sl V.s, scalar_sl V.s, cells_sl V.s, pure_sl V.s, lenV_sl VS, view_sl VS, scalar_sl VS, cells_sl VS, pure_sl VS, view_sl Q1, scalar_sl Q1, cells_sl Q1, pure_sl Q1, view_sl Q2, scalar_sl Q2, cells_sl Q2, pure_sl Q2, lenV_sl HV, view_sl HV, scalar_sl HV, cells_sl HV, pure_sl HV, lenV_sl RK, view_sl RK, scalar_sl RK, cells_sl RK, pure_sl RK, c1, c2, c3, gUn]
  refine G_loop_ind (fun z ts h mk => ∃ (i : Nat) (u : AV), i ≤ K.length ∧ z = K.length - i ∧ ts.length = 54 ∧ ts.getD 5 .undef = .ptr 2 0 ∧ ts.getD 6 .undef = .ptr 3 0 ∧ ts.getD 8 .undef = .ptr 4 0 ∧ ts.getD 9 .undef = kv ∧ ts.getD 11 .undef = I i ∧
    h[2]? = some (.cells [I a1, I a2, q1, I b1, I b2, q2, hv, I m] false) ∧ h[3]? = some (.cells [I 0, .nils, .nils] false) ∧ h[4]? = some (.cells [I m, u, .nils] false) ∧ OutE Hl.e 4 5 h u (pick L (K.take i)) ∧ mk = []) ?_ _ _ _ _ ⟨0, .nils, Nat.zero_le _, rfl, rfl, rfl, rfl, rfl, rfl, rfl, rfl, rfl, rfl, .inl ⟨by simp [pick], rfl⟩, rfl⟩
  rintro z ts h mk ih ⟨i, u, hi, rfl, hlen, r5, r6, r8, r9, r11, h2, h3, h4, ho, rfl⟩
  rw [lit_all hlen]
  simp only [lit0, litS, Nat.reduceAdd, r5, r6, r8, r9, r11]
  have l5 : 5 ≤ h.length := by have := (List.getElem?_eq_some_iff.1 h4).1; omega
  have su : u.scalar = true := by
    rcases ho with ⟨_, rfl⟩ | ⟨_, o, _, rfl, _⟩ <;> rfl
  simp (disch := first | assumption | omega | (simp only [az]; done)) only [ru, eq_self, if_true, if_false, BEq.rfl, binI, AO.row?, splice, fillL, mmAll, loadV, storeV, zeros, Am.rowAt, Am.part, addOff, Nat.reduceAdd, Nat.reduceMul, Nat.reduceLeDiff, Nat.reduceSub, Nat.reduceLT, Int.reduceEq, Int.reduceLT, Int.reduceLE, Int.reduceGT, Int.reduceGE, Int.reduceAdd, Int.reduceSub, Int.reduceMul, Int.reduceNeg, Int.reduceToNat, reduceCtorEq, reduceIte, h2, h3, h4, lenV_sl RK]
  by_cases hlt : (i : Int) < K.length
  case neg =>
    obtain rfl : i = K.length := by omega
    rw [List.take_length] at ho
    have h4' : (h.set 3 (.cells [I m, u, .nils] false))[3]? = some (.cells [I m, u, .nils] false) := List.getElem?_set_self (by omega)
    have ho' : OutE Hl.e 4 5 (h.set 3 (.cells [I m, u, .nils] false)) u (pick L K) := by
      rcases ho with e | ⟨e1, o, ho5, e2, hc⟩
      · exact .inl e
      · exact .inr ⟨e1, o, ho5, e2, by rw [List.getElem?_set_ne (by omega)]; exact hc⟩
    have vw := pck_view (k := 4) ho' false
    have vw5 := pck_view (k := 5) ho' false
    have vw6 := pck_view (k := 6) ho' false
    simp (disch := first | assumption | omega | (simp only [az]; done)) only [ru, eq_self, if_true, if_false, BEq.rfl, binI, AO.row?, splice, fillL, mmAll, loadV, storeV, zeros, Am.rowAt, Am.part, addOff, Nat.reduceAdd, Nat.reduceMul, Nat.reduceLeDiff, Nat.reduceSub, Nat.reduceLT, Int.reduceEq, Int.reduceLT, Int.reduceLE, Int.reduceGT, Int.reduceGE, Int.reduceAdd, Int.reduceSub, Int.reduceMul, Int.reduceNeg, Int.reduceToNat, reduceCtorEq, reduceIte, hlt, h3, h4, su]
    rw [finG (vs := [.agg [I m, u, .nils], Bo true]) (by
      simp only [List.mapM_cons, List.mapM_nil]
      rw [getC (o := 3) (f := 0) (c := [I m, u, .nils]) rfl (by simp only [Am.rowAt, h4', Option.bind_some, AO.row?])]
      rfl)]
    show ([AV.agg [I m, u, .nils], Bo true].mapM (view false (h.set 3 (.cells [I m, u, .nils] false)) 7)).map AV.tup = _
    have va : view false (h.set 3 (.cells [I m, u, .nils] false)) 7 (.agg [I m, u, .nils]) = some (.agg [I m, pckV (pick L K), .nils]) := by
      show ([I m, u, .nils].mapM (view false (h.set 3 (.cells [I m, u, .nils] false)) 6)).map AV.agg = _
      simp only [List.mapM_cons, List.mapM_nil, vw, view_int]; rfl
    simp only [List.mapM_cons, List.mapM_nil, va]; rfl
  have hi' : i < K.length := by omega
  obtain ⟨x, hx⟩ : ∃ x, x = K.getD i default := ⟨_, rfl⟩
  have bx : 0 ≤ x ∧ x < L.length := by
    have := (ri i hi').1
    rw [inR_iff, ← hx] at this
    omega
  obtain ⟨y, hy⟩ : ∃ y, y = L.getD x.toNat default := ⟨_, rfl⟩
  have e1 : elemAt 1 kv (I i) = some (.cptr [I x]) := by
    rw [elem_sl intE RK (i : Int) (by omega) (by omega), hx]; rfl
  have e2 : elemAt 4 hv (I x) = some (.cptr [I y.f, I y.lo, I y.hi, I y.h]) := by
    rw [elem_hl HV x bx.1 bx.2, hy]
  obtain ⟨h7, A, ho7, l7, k7⟩ := outE_apG (eb := 32) (lim := 0) Hl.el Hl.sc (by omega) (by omega) ho l5 (Nat.zero_le _) (by rw [pick_len, List.length_take]; omega) y
  have no : ∀ j, j < 5 → ∀ o, u = .ms 4 o 0 (pick L (K.take i)).length → j ≠ o := fun j hj o e => by
    rcases ho with ⟨_, e2⟩ | ⟨_, o', h5, e2, _⟩
    · rw [e2] at e; cases e
    · rw [e2] at e; cases e; omega
  have n2 : h7[2]? = some (.cells [I a1, I a2, q1, I b1, I b2, q2, hv, I m] false) := by rw [k7 2 (by omega) (no 2 (by omega))]; exact h2
  have n3 : h7[3]? = some (.cells [I 0, .nils, .nils] false) := by rw [k7 3 (by omega) (no 3 (by omega))]; exact h3
  have n4 : h7[4]? = some (.cells [I m, u, .nils] false) := by rw [k7 4 (by omega) (no 4 (by omega))]; exact h4
  have t2 := fun X => (at_ap (m := [X]) (show 2 < h.length by omega)).trans h2
  have t4 := fun X => (at_ap (m := [X]) (show 4 < h.length by omega)).trans h4
  obtain ⟨P, hP⟩ : ∃ P, P = pick L (K.take i) := ⟨_, rfl⟩
  have hP2 : pick L (K.take (i + 1)) = P ++ [y] := by rw [pick_snoc hi', hP, ← hx, ← hy]
  rw [← hP] at A ho7
  simp only [Hl.e] at A
  simp (disch := first | assumption | omega | (simp only [az]; done)) only [ru, eq_self, if_true, if_false, BEq.rfl, binI, AO.row?, splice, fillL, mmAll, loadV, storeV, zeros, Am.rowAt, Am.part, addOff, Nat.reduceAdd, Nat.reduceMul, Nat.reduceLeDiff, Nat.reduceSub, Nat.reduceLT, Int.reduceEq, Int.reduceLT, Int.reduceLE, Int.reduceGT, Int.reduceGE, Int.reduceAdd, Int.reduceSub, Int.reduceMul, Int.reduceNeg, Int.reduceToNat, reduceCtorEq, reduceIte, hlt, t2, t4, h2, h4, n4, e1, e2, lenV_sl HV, view_sl HV, scalar_sl HV, cells_sl HV, lenV_sl RK, view_sl RK, scalar_sl RK, cells_sl RK, exOp_litS, GO_mapp, GO_mcall0, unhN, unhC, setT, setT0, getT, getT0, atT, atT0, A, List.drop_succ_cons, List.drop_zero, List.drop_nil, List.take_succ_cons, List.take_zero, List.nil_append, List.append_nil, List.cons_append]
  refine ih (K.length - (i + 1)) _ _ _ (by omega) ⟨i + 1, .ms 4 h.length 0 (P.length + 1), by omega, rfl, rfl, rfl, rfl, rfl, rfl, rfl, ?_, ?_, ?_, ?_, rfl⟩
  · rw [List.getElem?_set_ne (by omega)]; exact n2
  · rw [List.getElem?_set_ne (by omega)]; exact n3
  · rw [List.getElem?_set_self (by omega)]
  · rw [hP2]
    rcases ho7 with e | ⟨e1, o, ho5, e2, hc⟩
    · exact .inl e
    · exact .inr ⟨e1, o, ho5, e2, by rw [List.getElem?_set_ne (by omega)]; exact hc⟩
end Go.Proofs.Ytmldjpeiokciiaa.A
