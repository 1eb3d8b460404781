/-
The mathematics and the functions, one after another (S3).
-/
import Derived.Test.YtcdedbpmjhjehaaS2
import Derived.Test.YtcdedbpmjhjehaaS1
import Derived.Test.YtcdedbpmjhjehaaAmZ

/-
The program: choices of parts, stock.
-/
namespace Go.Proofs.Ytcdedbpmjhjehaa.S
open Go Go.Am Go.Proofs.Ytcdedbpmjhjehaa.T
set_option maxRecDepth 100000
set_option linter.unusedSimpArgs false
set_option linter.unusedVariables false

theorem b_shl {n : Nat} (hn : n ≤ 6) : wr .i64 (1 * 2 ^ (min n IntKind.i64.bits)) = ((2 ^ n : Nat) : Int) := by
  have : ∀ m : Fin 7, wr .i64 (1 * 2 ^ (min m.val IntKind.i64.bits)) = ((2 ^ m.val : Nat) : Int) := by decide
  exact this ⟨n, by omega⟩
theorem b_shr {m i : Nat} (hi : i ≤ 6) : (m : Int).fdiv (2 ^ (min i IntKind.i64.bits)) = ((m / 2 ^ i : Nat) : Int) := by
  have e : min i IntKind.i64.bits = i := by
    have : IntKind.i64.bits = 64 := rfl
    omega
  rw [e]
  have : ((2 : Int) ^ i) = ((2 ^ i : Nat) : Int) := by push_cast; rfl
  rw [this, Int.fdiv_eq_ediv_of_nonneg _ (Int.natCast_nonneg _)]
  rfl
theorem b_and {x : Nat} (hx : x < 64) : bitI .and .i64 x 1 = ((x % 2 : Nat) : Int) := by
  have : ∀ m : Fin 64, bitI .and .i64 m.val 1 = ((m.val % 2 : Nat) : Int) := by decide
  exact this ⟨x, hx⟩
theorem OutE.cs {α : Type} {enc : α → List AV} {esz b : Nat} {h : List AO} {v : AV} {l : List α} (H : OutE enc esz b h v l) : v.cells = [v] ∧ v.scalar = true := by
  rcases H with ⟨rfl, rfl⟩ | ⟨_, o, _, rfl, _⟩ <;> exact ⟨rfl, rfl⟩
section
variable {h : Hs} {k p b : AV}
set_option maxHeartbeats 4000000 in
/-- the choices, each handed over -/
theorem r101 (H : HsOk h k p b) (G : HG h) {o lim : Nat} (hlim : lim ≤ o) {P : Nat → List AO → Prop}
    (hP : ∀ m g g', P m g → Lo o g g' → P m g')
    (hstep : ∀ m pv g, m < 2 ^ h.ps.length → P m g → OutE Pr.e 2 (o + 1) g pv (selR h.ps m) → ∃ g', R E (.rnd o) [.agg [k, I h.fl, pv, b]] g lim = some (Bo true, g') ∧ P (m + 1) g' ∧ Fk (o + 1) g g')
    {g : List AO} (ho : o < g.length) (h0 : P 0 g) : ∃ r g', R E (.fn 101) [hsV h.fl k p b, .yld o] g lim = some (r, g') ∧ P (2 ^ h.ps.length) g' := by
  have np := G.np
  obtain ⟨N, hN⟩ : ∃ N, N = 2 ^ h.ps.length := ⟨_, rfl⟩
  have N64 : N ≤ 64 := by rw [hN]; exact Nat.le_trans (Nat.pow_le_pow_right (by decide) np) (by decide)
  have bs := b_shl np
  have nneg : ¬ (h.ps.length : Int) < 0 := by omega
  refine R_of (fun _ g' => P (2 ^ h.ps.length) g') (es _ _ _ _) e101 ?_
  simp only [f101, hsV]
  rw [← hN] at bs hstep ⊢
  simp (disch := first | assumption | omega | (simp only [az]; done)) only [ru, eq_self, if_true, if_false, BEq.rfl, binI, AO.row?, splice, fillL, mmAll, loadV, storeV, zeros, Am.rowAt, Am.part, addOff, Nat.reduceAdd, Nat.reduceMul, Nat.reduceLeDiff, Nat.reduceSub, Nat.reduceLT, Int.reduceEq, Int.reduceLT, Int.reduceLE, Int.reduceGT, Int.reduceGE, Int.reduceAdd, Int.reduceSub, Int.reduceMul, Int.reduceNeg, Int.reduceToNat, reduceCtorEq, reduceIte, lenV_sl H.k, lenV_sl H.p, lenV_sl H.b, elem_kd H.k, elem_pr H.p, elem_in H.b, view_sl H.k, view_sl H.p, view_sl H.b, scalar_sl H.k, scalar_sl H.p, scalar_sl H.b, cells_sl H.k, cells_sl H.p, cells_sl H.b, pure_sl H.k, pure_sl H.p, pure_sl H.b, Int.toNat_natCast, atE, lenE, nneg, bs]
  refine G_loop_ind (fun m ts hk mk => ∃ (j : Nat) (pv : AV), j ≤ N ∧ m = N - j ∧ P j hk ∧ hk[g.length]? = some (.cells [k, I h.fl, pv, b] false) ∧ ts.length = 41 ∧ ts.getD 1 .undef = .yld o ∧ ts.getD 2 .undef = .ptr g.length 0 ∧ ts.getD 4 .undef = p ∧ ts.getD 12 .undef = I N ∧ ts.getD 13 .undef = I j ∧ mk = []) ?_ N _ _ _ ?_
  rotate_left
  · have fr := Fr.app g [(HHC h k p b : AO)]
    exact ⟨0, p, Nat.zero_le _, rfl, hP _ _ _ h0 ⟨fr.l, fun j hj => fr.k j (by omega)⟩, by simp, rfl, rfl, rfl, rfl, rfl, rfl, rfl⟩
  rintro m ts hk mk ihk ⟨j, pv, hj, rfl, hpk, c0, hl', q1, q2, q4, q12, q13, rfl⟩
  rw [lit_all hl']
  simp only [lit0, litS, Nat.reduceAdd, q1, q2, q4, q12, q13]
  simp (disch := first | assumption | omega | (simp only [az]; done)) only [ru, eq_self, if_true, if_false, BEq.rfl, binI, AO.row?, splice, fillL, mmAll, loadV, storeV, zeros, Am.rowAt, Am.part, addOff, Nat.reduceAdd, Nat.reduceMul, Nat.reduceLeDiff, Nat.reduceSub, Nat.reduceLT, Int.reduceEq, Int.reduceLT, Int.reduceLE, Int.reduceGT, Int.reduceGE, Int.reduceAdd, Int.reduceSub, Int.reduceMul, Int.reduceNeg, Int.reduceToNat, reduceCtorEq, reduceIte]
  by_cases hlt : (j : Int) < N
  case neg =>
    obtain rfl : j = N := by omega
    simp (disch := first | assumption | omega | (simp only [az]; done)) only [ru, eq_self, if_true, if_false, BEq.rfl, binI, AO.row?, splice, fillL, mmAll, loadV, storeV, zeros, Am.rowAt, Am.part, addOff, Nat.reduceAdd, Nat.reduceMul, Nat.reduceLeDiff, Nat.reduceSub, Nat.reduceLT, Int.reduceEq, Int.reduceLT, Int.reduceLE, Int.reduceGT, Int.reduceGE, Int.reduceAdd, Int.reduceSub, Int.reduceMul, Int.reduceNeg, Int.reduceToNat, reduceCtorEq, reduceIte, hlt, fin0, fin0n]
    exact hpk
  have gl : g.length < hk.length := (List.getElem?_eq_some_iff.1 c0).1
  have lg : lim ≤ g.length := by omega
  simp (disch := first | assumption | omega | (simp only [az]; done)) only [ru, eq_self, if_true, if_false, BEq.rfl, binI, AO.row?, splice, fillL, mmAll, loadV, storeV, zeros, Am.rowAt, Am.part, addOff, Nat.reduceAdd, Nat.reduceMul, Nat.reduceLeDiff, Nat.reduceSub, Nat.reduceLT, Int.reduceEq, Int.reduceLT, Int.reduceLE, Int.reduceGT, Int.reduceGE, Int.reduceAdd, Int.reduceSub, Int.reduceMul, Int.reduceNeg, Int.reduceToNat, reduceCtorEq, reduceIte, lenV_sl H.k, lenV_sl H.p, lenV_sl H.b, elem_kd H.k, elem_pr H.p, elem_in H.b, view_sl H.k, view_sl H.p, view_sl H.b, scalar_sl H.k, scalar_sl H.p, scalar_sl H.b, cells_sl H.k, cells_sl H.p, cells_sl H.b, pure_sl H.k, pure_sl H.p, pure_sl H.b, Int.toNat_natCast, hlt, c0, lg]
  clear hl' q1 q2 q4 q12 q13
  obtain ⟨hm, hhm⟩ : ∃ hm, hm = hk.set g.length (.cells [k, I h.fl, .nils, b] false) := ⟨_, rfl⟩
  rw [← hhm]
  have d0 : hm[g.length]? = some (.cells [k, I h.fl, .nils, b] false) := by rw [hhm]; exact List.getElem?_set_self gl
  have dk : ∀ i, i < g.length → hm[i]? = hk[i]? := fun i hi => by rw [hhm, List.getElem?_set_ne (by omega)]
  have dl : hm.length = hk.length := by rw [hhm]; simp
  clear hhm
  refine G_loop_ind (fun m ts hh mk => ∃ (i : Nat) (pv : AV), i ≤ h.ps.length ∧ m = h.ps.length - i ∧ hm.length ≤ hh.length ∧ hh[g.length]? = some (.cells [k, I h.fl, pv, b] false) ∧ (∀ i, i < g.length → hh[i]? = hm[i]?) ∧ OutE Pr.e 2 hm.length hh pv (selI h.ps j i) ∧
    ts.length = 41 ∧ ts.getD 1 .undef = .yld o ∧ ts.getD 2 .undef = .ptr g.length 0 ∧ ts.getD 4 .undef = p ∧ ts.getD 5 .undef = I j ∧ ts.getD 12 .undef = I N ∧ ts.getD 13 .undef = I j ∧ ts.getD 17 .undef = p ∧ ts.getD 18 .undef = I h.ps.length ∧ ts.getD 19 .undef = I i ∧ mk = []) ?_ _ _ _ _
    ⟨0, .nils, Nat.zero_le _, rfl, Nat.le_refl _, d0, fun _ _ => rfl, .inl ⟨rfl, rfl⟩, rfl, rfl, rfl, rfl, rfl, rfl, rfl, rfl, rfl, rfl, rfl⟩
  rintro m ts hh mk ihi ⟨i, pw, hi, rfl, hhl, e0, ek, ho2, hl', q1, q2, q4, q5, q12, q13, q17, q18, q19, rfl⟩
  rw [lit_all hl']
  simp only [lit0, litS, Nat.reduceAdd, q1, q2, q4, q5, q12, q13, q17, q18, q19]
  simp (disch := first | assumption | omega | (simp only [az]; done)) only [ru, eq_self, if_true, if_false, BEq.rfl, binI, AO.row?, splice, fillL, mmAll, loadV, storeV, zeros, Am.rowAt, Am.part, addOff, Nat.reduceAdd, Nat.reduceMul, Nat.reduceLeDiff, Nat.reduceSub, Nat.reduceLT, Int.reduceEq, Int.reduceLT, Int.reduceLE, Int.reduceGT, Int.reduceGE, Int.reduceAdd, Int.reduceSub, Int.reduceMul, Int.reduceNeg, Int.reduceToNat, reduceCtorEq, reduceIte]
  have gh : g.length < hh.length := by omega
  by_cases hlt2 : (i : Int) < h.ps.length
  case neg =>
    obtain rfl : i = h.ps.length := by omega
    rw [selI_all] at ho2
    have Ph : P j hh := hP _ _ _ hpk ⟨by omega, fun i hi => by rw [ek i (by omega), dk i (by omega)]⟩
    have ho3 : OutE Pr.e 2 (o + 1) hh pw (selR h.ps j) := by
      rcases ho2 with h1 | ⟨hne, o', hb, e, hc⟩
      · exact .inl h1
      · exact .inr ⟨hne, o', by omega, e, hc⟩
    obtain ⟨g', hr, hp', fk⟩ := hstep j pw hh (by omega) Ph ho3
    simp (disch := first | assumption | omega | (simp only [az]; done)) only [ru, eq_self, if_true, if_false, BEq.rfl, binI, AO.row?, splice, fillL, mmAll, loadV, storeV, zeros, Am.rowAt, Am.part, addOff, Nat.reduceAdd, Nat.reduceMul, Nat.reduceLeDiff, Nat.reduceSub, Nat.reduceLT, Int.reduceEq, Int.reduceLT, Int.reduceLE, Int.reduceGT, Int.reduceGE, Int.reduceAdd, Int.reduceSub, Int.reduceMul, Int.reduceNeg, Int.reduceToNat, reduceCtorEq, reduceIte, hlt2, e0, exOp_callv0, hr, Bool.not_true]
    exact ihk (N - (j + 1)) _ _ _ (by omega) ⟨j + 1, pw, by omega, rfl, hp', fk.at (by omega) e0, rfl, rfl, rfl, rfl, rfl, rfl, rfl⟩
  have hi2 : i < h.ps.length := by omega
  have bh := b_shr (m := j) (i := i) (by omega)
  have lt64 : j / 2 ^ i < 64 := Nat.lt_of_le_of_lt (Nat.div_le_self _ _) (by omega)
  have ba := b_and lt64
  have es := selI_succ (ps := h.ps) (m := j) (i := i)
  have ineg : ¬ (i : Int) < 0 := by omega
  have lh : lim ≤ hh.length := by omega
  obtain ⟨y, hy⟩ : ∃ y, y = h.ps.getD i default := ⟨_, rfl⟩
  rw [← hy] at es
  obtain ⟨u, hu⟩ : ∃ u, u = j / 2 ^ i := ⟨_, rfl⟩
  rw [← hu] at bh ba es lt64
  have fr1 := Fr.app hh [AO.cells [I y.k, I y.p] false]
  have lsel : (selI h.ps j i).length ≤ 1000000 := by
    unfold selI; rw [List.length_map]
    exact Nat.le_trans (List.length_filter_le _ _) (by simp; omega)
  by_cases hc : u % 2 = 1
  · rw [if_pos hc] at es
    have hc1 : ((u % 2 : Nat) : Int) = 1 := by omega
    obtain ⟨v', h', A, ho', hl5, hk5⟩ := outE_ap (eb := 16) (lim := lim) Pr.el Pr.sc (by omega) (by omega) (by omega) (ho2.fr fr1) (by simp; omega) (by omega) lsel y
    have f0 : h'[g.length]? = some (.cells [k, I h.fl, pw, b] false) := by rw [hk5 _ (by omega), at_ap gh]; exact e0
    have gl5 : g.length < h'.length := by omega
    have A' : appV lim (hh ++ [AO.cells [I y.k, I y.p] false]) 2 16 pw (.cs 2 1 [I y.k, I y.p]) = some (v', h') := A
    obtain ⟨vc, vs⟩ := ho'.cs
    simp (disch := first | assumption | omega | (simp only [az]; done)) only [ru, eq_self, if_true, if_false, BEq.rfl, binI, AO.row?, splice, fillL, mmAll, loadV, storeV, zeros, Am.rowAt, Am.part, addOff, Nat.reduceAdd, Nat.reduceMul, Nat.reduceLeDiff, Nat.reduceSub, Nat.reduceLT, Int.reduceEq, Int.reduceLT, Int.reduceLE, Int.reduceGT, Int.reduceGE, Int.reduceAdd, Int.reduceSub, Int.reduceMul, Int.reduceNeg, Int.reduceToNat, reduceCtorEq, reduceIte, lenV_sl H.k, lenV_sl H.p, lenV_sl H.b, elem_kd H.k, elem_pr H.p, elem_in H.b, view_sl H.k, view_sl H.p, view_sl H.b, scalar_sl H.k, scalar_sl H.p, scalar_sl H.b, cells_sl H.k, cells_sl H.p, cells_sl H.b, pure_sl H.k, pure_sl H.p, pure_sl H.b, Int.toNat_natCast, hlt2, ← hy, lh, ineg, bh, ba, hc1, decide_true, e0, at_ap gh, atE, setE, A', f0, lg, vc, vs, Pr.e]
    refine ihi (h.ps.length - (i + 1)) _ _ _ (by omega) ⟨i + 1, v', by omega, rfl, ?_, ?_, ?_, ?_, rfl, rfl, rfl, rfl, rfl, rfl, rfl, rfl, rfl, rfl, rfl⟩
    · rw [List.length_set]; exact hl5
    · rw [List.getElem?_set_self gl5]
    · intro i hi
      rw [List.getElem?_set_ne (by omega), hk5 i (by omega), at_ap (by omega)]; exact ek i hi
    · rw [es]
      rcases ho' with h1 | ⟨hne, o', hb, e, hcc⟩
      · exact .inl h1
      · exact .inr ⟨hne, o', hb, e, by rw [List.getElem?_set_ne (by omega)]; exact hcc⟩
  · rw [if_neg hc, List.append_nil] at es
    have hc1 : ¬ ((u % 2 : Nat) : Int) = 1 := by omega
    simp (disch := first | assumption | omega | (simp only [az]; done)) only [ru, eq_self, if_true, if_false, BEq.rfl, binI, AO.row?, splice, fillL, mmAll, loadV, storeV, zeros, Am.rowAt, Am.part, addOff, Nat.reduceAdd, Nat.reduceMul, Nat.reduceLeDiff, Nat.reduceSub, Nat.reduceLT, Int.reduceEq, Int.reduceLT, Int.reduceLE, Int.reduceGT, Int.reduceGE, Int.reduceAdd, Int.reduceSub, Int.reduceMul, Int.reduceNeg, Int.reduceToNat, reduceCtorEq, reduceIte, lenV_sl H.k, lenV_sl H.p, lenV_sl H.b, elem_kd H.k, elem_pr H.p, elem_in H.b, view_sl H.k, view_sl H.p, view_sl H.b, scalar_sl H.k, scalar_sl H.p, scalar_sl H.b, cells_sl H.k, cells_sl H.p, cells_sl H.b, pure_sl H.k, pure_sl H.p, pure_sl H.b, Int.toNat_natCast, hlt2, ← hy, lh, ineg, bh, ba, hc1, decide_false, e0, at_ap gh, atE, setE, lg, Pr.e]
    refine ihi (h.ps.length - (i + 1)) _ _ _ (by omega) ⟨i + 1, pw, by omega, rfl, ?_, ?_, ?_, ?_, rfl, rfl, rfl, rfl, rfl, rfl, rfl, rfl, rfl, rfl, rfl⟩
    · simp; omega
    · rw [at_ap gh]; exact e0
    · intro i hi; rw [at_ap (by omega)]; exact ek i hi
    · rw [es]; exact ho2.fr fr1

def As86 : ACode := .region 0 [oQ 6 (.alloc [.nils, I 0, .nils, .nils]), ⟨none, .store 4 (.t 6) (.t 12), none, none, []⟩]
def Bd86 : ACode := .block 1 (.seq (.region 0 [oQ 14 (.load true 4 (.t 6)), oQ 15 (.call 1 76 [.t 14, .c (.fn 77 [] [])]), oP 13 (.move (.t 15)), oP 16 (.extract (.t 13) 0), oP 17 (.extract (.t 13) 1), oP 18 (.extract (.t 13) 2), oP 7 (.move (.t 16)), oP 8 (.move (.t 17)), oP 9 (.move (.t 18))])
  (.seq (.region 0 [oP 19 (.move (.t 9)), oP 20 (.bin .eql (.t 19) (.c (I 0))), oP 21 (.move (.t 20)), oG 22 21 true (.move (.t 8)), ⟨some 23, .load false 1 (.t 3), some (21, true), none, []⟩, oG 24 21 true (.bin .leq (.t 22) (.t 23)), oP 25 (.pick (.t 21) (.t 24) (.c (Bo false)))])
  (.cond (.t 25) (.region 0 [oQ 26 (.load false 1 (.t 5)), oQ 27 (.load true 4 (.t 6)), oQ 28 (.call 1 102 [.t 27]), oP 29 (.minmax true (.t 26) [.t 28]), ⟨none, .store 1 (.t 5) (.t 29), none, none, []⟩]) .skip)))
def prV (l : List Pr) : AV := if l = [] then .nils else slV 2 Pr.e l
theorem prV_is (l : List Pr) : IsSl 2 Pr.e l (prV l) := by
  unfold prV; split
  · exact .inr ⟨rfl, by assumption⟩
  · exact slV_is
theorem OutE.viewP {b : Nat} {h : List AO} {v : AV} {l : List Pr} (H : OutE Pr.e 2 b h v l) (st : Bool) (n : Nat) : Am.view st h (n + 1) v = some (prV l) := by
  by_cases hne : l = []
  · subst hne
    rcases H with ⟨_, rfl⟩ | ⟨h, _⟩
    · rfl
    · exact absurd rfl h
  · rw [prV, if_neg hne]
    exact outE_view Pr.el H hne fun a => mapM_view fun x hx => by
      obtain ⟨k, i, rfl⟩ := Pr.iv a x hx
      exact view_int
theorem OutE.fk {α : Type} {enc : α → List AV} {esz b : Nat} {h h' : List AO} {v : AV} {l : List α} (H : OutE enc esz b h v l) (F : Fk b h h') : OutE enc esz b h' v l := by
  rcases H with h1 | ⟨hne, o, hb, e, hc⟩
  · exact .inl h1
  · exact .inr ⟨hne, o, hb, e, F.at hb hc⟩
theorem vals_nonneg {s : Int} {n : Nat} : 0 ≤ h.vals s n := mxs_ge.1
set_option maxHeartbeats 8000000 in
theorem s86 (H : HsOk h k p b) (G : HG h) (s : Int) (st : Bool) : Iso E 86 [hsV h.fl k p b, I s] st = some (I (mst (h.sto s) h.po)) := by
  have np := G.np
  rw [← stock_eq G]
  refine Iso_of (es _ _ _ _) e86 ?_
  simp only [f86, hsV]
  simp (disch := first | assumption | omega | (simp only [az]; done)) only [ru, eq_self, if_true, if_false, BEq.rfl, binI, AO.row?, splice, fillL, mmAll, loadV, storeV, zeros, Am.rowAt, Am.part, addOff, Nat.reduceAdd, Nat.reduceMul, Nat.reduceLeDiff, Nat.reduceSub, Nat.reduceLT, Int.reduceEq, Int.reduceLT, Int.reduceLE, Int.reduceGT, Int.reduceGE, Int.reduceAdd, Int.reduceSub, Int.reduceMul, Int.reduceNeg, Int.reduceToNat, reduceCtorEq, reduceIte, lenV_sl H.k, lenV_sl H.p, lenV_sl H.b, elem_kd H.k, elem_pr H.p, elem_in H.b, view_sl H.k, view_sl H.p, view_sl H.b, scalar_sl H.k, scalar_sl H.p, scalar_sl H.b, cells_sl H.k, cells_sl H.p, cells_sl H.b, pure_sl H.k, pure_sl H.p, pure_sl H.b, Int.toNat_natCast]
  obtain ⟨TS, hTS⟩ : ∃ TS : List AV, TS = [.agg [k, I h.fl, p, b], I s, .ptr 0 0, .ptr 1 0, I 0, .ptr 2 0, .undef, .undef, .undef, .undef, .agg [k, I h.fl, p, b], .fn 101 [.agg [k, I h.fl, p, b]] [], .undef, .undef, .undef, .undef, .undef, .undef, .undef, .undef, .undef, .undef, .undef, .undef, .undef, .undef, .undef, .undef, .undef, .undef, .undef] := ⟨_, rfl⟩
  obtain ⟨H1, hH1⟩ : ∃ H1 : List AO, H1 = [.cells [k, I h.fl, p, b] false, .cells [I s] false, .cells [I 0] false, .dfr, .loop .ready none 86 TS [12] As86 Bd86 3] := ⟨_, rfl⟩
  have key := r101 H G (o := 4) (lim := 0) (by omega)
    (P := fun m g => g[1]? = some (.cells [I s] false) ∧ g[2]? = some (.cells [I (h.vals s m)] false) ∧ g[3]? = some .dfr ∧ g[4]? = some (.loop .ready none 86 TS [12] As86 Bd86 3))
    (by rintro D h h' ⟨a, b, c, d⟩ fr; exact ⟨fr.at (by omega) a, fr.at (by omega) b, fr.at (by omega) c, fr.at (by omega) d⟩) ?_ (g := H1) (by rw [hH1]; simp) (by rw [hH1]; exact ⟨rfl, rfl, rfl, rfl⟩)
  · refine G_range_of rfl rfl ?_
    rw [← hTS]
    obtain ⟨r, h3, hr, g0, g1, g2, g3⟩ := key
    rw [hH1] at hr
    refine ⟨r, h3, .ready, none, 86, TS, [12], As86, Bd86, 3, hr, g3, .inl rfl, ?_⟩
    simp only [Option.getD_none, GE_nrm]
    obtain ⟨h4, hh4⟩ : ∃ h4, h4 = h3.set (([.cells [k, I h.fl, p, b] false, .cells [I s] false, .cells [I 0] false] : List AO).length + 1) (AO.loop .exhausted none 86 TS [12] As86 Bd86 3) := ⟨_, rfl⟩
    rw [← hh4]
    have k1 : h4[2]? = some (.cells [I (h.vals s (2 ^ h.ps.length))] false) := by rw [hh4, List.getElem?_set_ne (by simp)]; exact g1
    have k2 : h4[3]? = some .dfr := by rw [hh4, List.getElem?_set_ne (by simp)]; exact g2
    obtain ⟨V, hV⟩ : ∃ V, V = h.vals s (2 ^ h.ps.length) := ⟨_, rfl⟩
    rw [← hV] at k1 ⊢
    rw [hTS]
    simp (disch := first | assumption | omega | (simp only [az]; done)) only [ru, eq_self, if_true, if_false, BEq.rfl, binI, AO.row?, splice, fillL, mmAll, loadV, storeV, zeros, Am.rowAt, Am.part, addOff, Nat.reduceAdd, Nat.reduceMul, Nat.reduceLeDiff, Nat.reduceSub, Nat.reduceLT, Int.reduceEq, Int.reduceLT, Int.reduceLE, Int.reduceGT, Int.reduceGE, Int.reduceAdd, Int.reduceSub, Int.reduceMul, Int.reduceNeg, Int.reduceToNat, reduceCtorEq, reduceIte, k1]
    refine finM (h' := h4.set 3 .tomb) (vs := [I V]) (.inr rfl) (by simp) ?_ ?_ ?_
    · simp only [takeMarks, List.length_cons, List.length_nil, k2]
    · simp (disch := first | assumption | omega | (simp only [az]; done)) only [ru, eq_self, if_true, if_false, BEq.rfl, binI, AO.row?, splice, fillL, mmAll, loadV, storeV, zeros, Am.rowAt, Am.part, addOff, Nat.reduceAdd, Nat.reduceMul, Nat.reduceLeDiff, Nat.reduceSub, Nat.reduceLT, Int.reduceEq, Int.reduceLT, Int.reduceLE, Int.reduceGT, Int.reduceGE, Int.reduceAdd, Int.reduceSub, Int.reduceMul, Int.reduceNeg, Int.reduceToNat, reduceCtorEq, reduceIte, List.mapM_cons, List.mapM_nil, getRes, Option.bind_eq_bind, Option.pure_def, Option.bind_some]
    · exact view_int
  · rintro m pv g hm ⟨g0, g1, g2, g3⟩ hO
    have := R_rnd_of (E := E) (lim := 0) (args := [.agg [k, I h.fl, pv, b]]) (P := fun r h' => r = Bo true ∧ (h'[1]? = some (.cells [I s] false) ∧ h'[2]? = some (.cells [I (h.vals s (m + 1))] false) ∧ h'[3]? = some .dfr ∧ h'[4]? = some (.loop .ready none 86 TS [12] As86 Bd86 3)) ∧ Fk 5 g h') g3 rfl (Nat.zero_le _) ?_
    · obtain ⟨r, h', hr, rfl, hp, fk⟩ := this
      exact ⟨h', hr, hp, fk⟩
    have GS := sub_G G m
    have HS : HsOk (h.sub m) k (prV (selR h.ps m)) b := { k := H.k, p := prV_is _, b := H.b, nk := H.nk, np := Nat.le_trans selR_sub.length_le H.np, nb := H.nb }
    have c76 := fun st => s76a HS GS st
    have c102 := fun st => s102 HS GS st
    have an := all_nonneg GS
    have eV := vals_succ (h := h) (s := s) (n := m)
    have v0 := vals_nonneg (h := h) (s := s) (n := m)
    have fls : (h.sub m).fl = h.fl := rfl
    simp only [hsV, fls] at c76 c102
    obtain ⟨vc, vs⟩ := hO.cs
    obtain ⟨pvv, hpv⟩ : ∃ pvv, pvv = prV (selR h.ps m) := ⟨_, rfl⟩
    rw [← hpv] at c76 c102
    rw [hTS]
    simp only [setAll, List.set_cons_succ, List.set_cons_zero]
    rw [← hTS]
    unfold As86
    have kc := cells_sl H.k; have ks := scalar_sl H.k; have bc := cells_sl H.b; have bs := scalar_sl H.b
    simp (disch := first | assumption | omega | (simp only [az]; done)) only [ru, eq_self, if_true, if_false, BEq.rfl, binI, AO.row?, splice, fillL, mmAll, loadV, storeV, zeros, Am.rowAt, Am.part, addOff, Nat.reduceAdd, Nat.reduceMul, Nat.reduceLeDiff, Nat.reduceSub, Nat.reduceLT, Int.reduceEq, Int.reduceLT, Int.reduceLE, Int.reduceGT, Int.reduceGE, Int.reduceAdd, Int.reduceSub, Int.reduceMul, Int.reduceNeg, Int.reduceToNat, reduceCtorEq, reduceIte, kc, ks, bc, bs, vc, vs, atE, setE]
    have ho : 4 < g.length := (List.getElem?_eq_some_iff.1 g3).1
    refine ⟨none, 86, TS, [12], As86, Bd86, 3, by rw [at_ap ho]; exact g3, ?_⟩
    obtain ⟨h6, hh6⟩ : ∃ h6, h6 = (g ++ [AO.cells [k, I h.fl, pv, b] false]).set 4 (AO.loop .busy none 86 TS [12] As86 Bd86 3) := ⟨_, rfl⟩
    rw [← hh6]
    have n0 : h6[1]? = some (.cells [I s] false) := by rw [hh6, List.getElem?_set_ne (by omega), at_ap (by omega)]; exact g0
    have n1 : h6[2]? = some (.cells [I (h.vals s m)] false) := by rw [hh6, List.getElem?_set_ne (by omega), at_ap (by omega)]; exact g1
    have n2 : h6[3]? = some .dfr := by rw [hh6, List.getElem?_set_ne (by omega), at_ap (by omega)]; exact g2
    have n3 : h6[4]? = some (AO.loop .busy none 86 TS [12] As86 Bd86 3) := by rw [hh6, List.getElem?_set_self (by simp; omega)]
    have n4 : h6[g.length]? = some (.cells [k, I h.fl, pv, b] false) := by rw [hh6, List.getElem?_set_ne (by omega)]; exact atE
    have l6 : h6.length = g.length + 1 := by rw [hh6]; simp
    have fk6 : Fk 5 g h6 := ⟨by omega, fun j hj hl => by rw [hh6, List.getElem?_set_ne (by omega), at_ap hl]⟩
    have hv := fun st n => (hO.fk fk6).viewP st n
    simp only [← hpv] at hv
    obtain ⟨W, hW⟩ : ∃ W, W = h.vals s m := ⟨_, rfl⟩
    rw [← hW] at n1 eV v0
    unfold Bd86
    by_cases hpk : (h.sub m).pk = []
    · have e0 : h.val s m = 0 := by unfold Hs.val; rw [if_neg fun hn => hn.1 hpk]
      have eW : h.vals s (m + 1) = W := by rw [eV, e0]; unfold mx; rw [if_neg (by omega)]
      rw [eW]
      simp only [hpk, if_true] at c76
      simp (disch := first | assumption | omega | (simp only [az]; done)) only [ru, eq_self, if_true, if_false, BEq.rfl, binI, AO.row?, splice, fillL, mmAll, loadV, storeV, zeros, Am.rowAt, Am.part, addOff, Nat.reduceAdd, Nat.reduceMul, Nat.reduceLeDiff, Nat.reduceSub, Nat.reduceLT, Int.reduceEq, Int.reduceLT, Int.reduceLE, Int.reduceGT, Int.reduceGE, Int.reduceAdd, Int.reduceSub, Int.reduceMul, Int.reduceNeg, Int.reduceToNat, reduceCtorEq, reduceIte, lenV_sl H.k, lenV_sl H.p, lenV_sl H.b, elem_kd H.k, elem_pr H.p, elem_in H.b, view_sl H.k, view_sl H.p, view_sl H.b, scalar_sl H.k, scalar_sl H.p, scalar_sl H.b, cells_sl H.k, cells_sl H.p, cells_sl H.b, pure_sl H.k, pure_sl H.p, pure_sl H.b, Int.toNat_natCast, vc, vs, hv, n0, n1, n4, c76, gUn]
      refine ⟨.busy, none, 86, TS, [12], As86, Bd86, 3, n3, ?_⟩
      refine ⟨⟨?_, ?_, ?_, ?_⟩, ⟨by simp [l6], fun j hj hl => ?_⟩⟩
      · rw [List.getElem?_set_ne (by omega)]; exact n0
      · rw [List.getElem?_set_ne (by omega)]; exact n1
      · rw [List.getElem?_set_ne (by omega)]; exact n2
      · rw [List.getElem?_set_self (by omega)]; rfl
      · rw [List.getElem?_set_ne (by omega)]; exact fk6.k j hj hl
    simp only [hpk, if_false] at c76
    obtain ⟨Ls, hLs⟩ : ∃ Ls : AV, Ls = slV 1 intL ((bsf (h.sub m).sa (h.sub m).pk).getD []) := ⟨_, rfl⟩
    rw [← hLs] at c76
    obtain ⟨ls, hls⟩ : ∃ ls, ls = lsf (h.sub m).sa (h.sub m).pk := ⟨_, rfl⟩
    rw [← hls] at c76
    by_cases hle : ls ≤ s
    · have e0 : h.val s m = (h.sub m).all := by unfold Hs.val; rw [if_pos ⟨hpk, by rw [← hls]; exact hle⟩]
      obtain ⟨al, hal⟩ : ∃ al, al = (h.sub m).all := ⟨_, rfl⟩
      rw [← hal] at e0 c102 an
      have em : mmx true W al = h.vals s (m + 1) := by rw [eV, e0]; rfl
      simp (disch := first | assumption | omega | (simp only [az]; done)) only [ru, eq_self, if_true, if_false, BEq.rfl, binI, AO.row?, splice, fillL, mmAll, loadV, storeV, zeros, Am.rowAt, Am.part, addOff, Nat.reduceAdd, Nat.reduceMul, Nat.reduceLeDiff, Nat.reduceSub, Nat.reduceLT, Int.reduceEq, Int.reduceLT, Int.reduceLE, Int.reduceGT, Int.reduceGE, Int.reduceAdd, Int.reduceSub, Int.reduceMul, Int.reduceNeg, Int.reduceToNat, reduceCtorEq, reduceIte, lenV_sl H.k, lenV_sl H.p, lenV_sl H.b, elem_kd H.k, elem_pr H.p, elem_in H.b, view_sl H.k, view_sl H.p, view_sl H.b, scalar_sl H.k, scalar_sl H.p, scalar_sl H.b, cells_sl H.k, cells_sl H.p, cells_sl H.b, pure_sl H.k, pure_sl H.p, pure_sl H.b, Int.toNat_natCast, vc, vs, hv, n0, n1, n4, c76, c102, hle, decide_true, em]
      refine ⟨.busy, none, 86, TS, [12], As86, Bd86, 3, by rw [List.getElem?_set_ne (by omega)]; exact n3, ?_⟩
      refine ⟨⟨?_, ?_, ?_, ?_⟩, ⟨by simp [l6], fun j hj hl => ?_⟩⟩
      · rw [List.getElem?_set_ne (by omega), List.getElem?_set_ne (by omega)]; exact n0
      · rw [List.getElem?_set_ne (by omega), List.getElem?_set_self (by rw [l6]; omega)]
      · rw [List.getElem?_set_ne (by omega), List.getElem?_set_ne (by omega)]; exact n2
      · rw [List.getElem?_set_self (by simp; omega)]; rfl
      · rw [List.getElem?_set_ne (by omega), List.getElem?_set_ne (by omega)]; exact fk6.k j hj hl
    · have e0 : h.val s m = 0 := by unfold Hs.val; rw [if_neg fun hn => hle (by rw [hls]; exact hn.2)]
      have eW : h.vals s (m + 1) = W := by rw [eV, e0]; unfold mx; rw [if_neg (by omega)]
      rw [eW]
      simp (disch := first | assumption | omega | (simp only [az]; done)) only [ru, eq_self, if_true, if_false, BEq.rfl, binI, AO.row?, splice, fillL, mmAll, loadV, storeV, zeros, Am.rowAt, Am.part, addOff, Nat.reduceAdd, Nat.reduceMul, Nat.reduceLeDiff, Nat.reduceSub, Nat.reduceLT, Int.reduceEq, Int.reduceLT, Int.reduceLE, Int.reduceGT, Int.reduceGE, Int.reduceAdd, Int.reduceSub, Int.reduceMul, Int.reduceNeg, Int.reduceToNat, reduceCtorEq, reduceIte, lenV_sl H.k, lenV_sl H.p, lenV_sl H.b, elem_kd H.k, elem_pr H.p, elem_in H.b, view_sl H.k, view_sl H.p, view_sl H.b, scalar_sl H.k, scalar_sl H.p, scalar_sl H.b, cells_sl H.k, cells_sl H.p, cells_sl H.b, pure_sl H.k, pure_sl H.p, pure_sl H.b, Int.toNat_natCast, vc, vs, hv, n0, n1, n4, c76, hle, decide_false]
      refine ⟨.busy, none, 86, TS, [12], As86, Bd86, 3, n3, ?_⟩
      refine ⟨⟨?_, ?_, ?_, ?_⟩, ⟨by simp [l6], fun j hj hl => ?_⟩⟩
      · rw [List.getElem?_set_ne (by omega)]; exact n0
      · rw [List.getElem?_set_ne (by omega)]; exact n1
      · rw [List.getElem?_set_ne (by omega)]; exact n2
      · rw [List.getElem?_set_self (by omega)]; rfl
      · rw [List.getElem?_set_ne (by omega)]; exact fk6.k j hj hl
theorem s42 (H : HsOk h k p b) (s : Int) (st : Bool) : Iso E 42 [hsV h.fl k p b, I s] st = some (ansN (askS h.valid (inR s 0 999)) (mst (h.sto s) h.po)) := by
  have a1 := fun st => s19 H st
  simp only [hsV] at a1
  refine Iso_of (es _ _ _ _) e42 ?_
  simp only [f42, hsV, ansN, askS]
  cases hv : h.valid
  · simp (disch := first | assumption | omega | (simp only [az]; done)) only [ru, eq_self, if_true, if_false, BEq.rfl, binI, AO.row?, splice, fillL, mmAll, loadV, storeV, zeros, Am.rowAt, Am.part, addOff, Nat.reduceAdd, Nat.reduceMul, Nat.reduceLeDiff, Nat.reduceSub, Nat.reduceLT, Int.reduceEq, Int.reduceLT, Int.reduceLE, Int.reduceGT, Int.reduceGE, Int.reduceAdd, Int.reduceSub, Int.reduceMul, Int.reduceNeg, Int.reduceToNat, reduceCtorEq, reduceIte, lenV_sl H.k, lenV_sl H.p, lenV_sl H.b, elem_kd H.k, elem_pr H.p, elem_in H.b, view_sl H.k, view_sl H.p, view_sl H.b, scalar_sl H.k, scalar_sl H.p, scalar_sl H.b, cells_sl H.k, cells_sl H.p, cells_sl H.b, pure_sl H.k, pure_sl H.p, pure_sl H.b, Int.toNat_natCast, a1, hv, vE, if_false, Bool.false_eq_true]
  have G : HG h := valid_iff.1 hv
  cases hD : inR s 0 999
  · simp (disch := first | assumption | omega | (simp only [az]; done)) only [ru, eq_self, if_true, if_false, BEq.rfl, binI, AO.row?, splice, fillL, mmAll, loadV, storeV, zeros, Am.rowAt, Am.part, addOff, Nat.reduceAdd, Nat.reduceMul, Nat.reduceLeDiff, Nat.reduceSub, Nat.reduceLT, Int.reduceEq, Int.reduceLT, Int.reduceLE, Int.reduceGT, Int.reduceGE, Int.reduceAdd, Int.reduceSub, Int.reduceMul, Int.reduceNeg, Int.reduceToNat, reduceCtorEq, reduceIte, lenV_sl H.k, lenV_sl H.p, lenV_sl H.b, elem_kd H.k, elem_pr H.p, elem_in H.b, view_sl H.k, view_sl H.p, view_sl H.b, scalar_sl H.k, scalar_sl H.p, scalar_sl H.b, cells_sl H.k, cells_sl H.p, cells_sl H.b, pure_sl H.k, pure_sl H.p, pure_sl H.b, Int.toNat_natCast, a1, s83, hD, hv, vE, if_true, if_false, Bool.false_eq_true, Bool.not_false]
  have a2 := fun st => s86 H G s st
  simp only [hsV] at a2
  simp (disch := first | assumption | omega | (simp only [az]; done)) only [ru, eq_self, if_true, if_false, BEq.rfl, binI, AO.row?, splice, fillL, mmAll, loadV, storeV, zeros, Am.rowAt, Am.part, addOff, Nat.reduceAdd, Nat.reduceMul, Nat.reduceLeDiff, Nat.reduceSub, Nat.reduceLT, Int.reduceEq, Int.reduceLT, Int.reduceLE, Int.reduceGT, Int.reduceGE, Int.reduceAdd, Int.reduceSub, Int.reduceMul, Int.reduceNeg, Int.reduceToNat, reduceCtorEq, reduceIte, lenV_sl H.k, lenV_sl H.p, lenV_sl H.b, elem_kd H.k, elem_pr H.p, elem_in H.b, view_sl H.k, view_sl H.p, view_sl H.b, scalar_sl H.k, scalar_sl H.p, scalar_sl H.b, cells_sl H.k, cells_sl H.p, cells_sl H.b, pure_sl H.k, pure_sl H.p, pure_sl H.b, Int.toNat_natCast, a1, a2, s83, hD, hv, vE, if_true, Bool.not_true]
end
end Go.Proofs.Ytcdedbpmjhjehaa.S

/-
The program: one more barrel, Buy.
-/
namespace Go.Proofs.Ytcdedbpmjhjehaa.S
open Go Go.Am Go.Proofs.Ytcdedbpmjhjehaa.T
set_option maxRecDepth 100000
set_option linter.unusedSimpArgs false
set_option linter.unusedVariables false

theorem c113 {l : List Int} {v : AV} (V : IsSl 1 intL l v) (hl : l.length ≤ 1000) (H : List AO) : ∃ z o H', C2 E 113 [v] H = some (z, H') ∧ Fr H H' ∧ ((z = .nils ∧ l = []) ∨ (z = .ms 1 o 0 l.length ∧ H.length ≤ o ∧ H'[o]? = some (.cells (l.flatMap intL) false))) := by
  rcases V with rfl | ⟨rfl, rfl⟩
  · obtain ⟨o, h', A, fr, ho, hc⟩ := cpyO (eb := 8) (lim := 0) (h := ([] : List AO)) (slV_is (esz := 1) (enc := intL) (l := l)) intE intSc (by omega) (by omega) (Nat.zero_le _)
    simp only [slV, apN, len0, List.nil_append, List.length_nil] at A
    have hr : ∃ r h1, R E (.fn 113) [.cs 1 l.length (l.flatMap intL)] [] 0 = some (r, h1) ∧ (r = .ms 1 o 0 l.length ∧ h1 = h') := by
      refine R_of (fun r h1 => r = .ms 1 o 0 l.length ∧ h1 = h') (es _ _ _ _) e113 ?_
      simp only [f113]
      simp (disch := first | assumption | omega | (simp only [az]; done)) only [ru, eq_self, if_true, if_false, BEq.rfl, binI, AO.row?, splice, fillL, mmAll, loadV, storeV, zeros, Am.rowAt, Am.part, addOff, Nat.reduceAdd, Nat.reduceMul, Nat.reduceLeDiff, Nat.reduceSub, Nat.reduceLT, Int.reduceEq, Int.reduceLT, Int.reduceLE, Int.reduceGT, Int.reduceGE, Int.reduceAdd, Int.reduceSub, Int.reduceMul, Int.reduceNeg, Int.reduceToNat, reduceCtorEq, reduceIte, pex_isNil, A]
    obtain ⟨_, _, hr, rfl, rfl⟩ := hr
    refine ⟨_, o + H.length, _, C2_of (by rfl) hr, Fr.app _ _, .inr ⟨rfl, by omega, ?_⟩⟩
    rw [List.getElem?_append_right (by omega), Nat.add_sub_cancel, List.getElem?_map, hc]
    simp only [Option.map_some, AO.shift, ints_shift]
  · have hr : ∃ r h1, R E (.fn 113) [.nils] [] 0 = some (r, h1) ∧ (r = .nils ∧ h1 = []) := by
      refine R_of (fun r h1 => r = .nils ∧ h1 = []) (es _ _ _ _) e113 ?_
      simp only [f113]
      simp (disch := first | assumption | omega | (simp only [az]; done)) only [ru, eq_self, if_true, if_false, BEq.rfl, binI, AO.row?, splice, fillL, mmAll, loadV, storeV, zeros, Am.rowAt, Am.part, addOff, Nat.reduceAdd, Nat.reduceMul, Nat.reduceLeDiff, Nat.reduceSub, Nat.reduceLT, Int.reduceEq, Int.reduceLT, Int.reduceLE, Int.reduceGT, Int.reduceGE, Int.reduceAdd, Int.reduceSub, Int.reduceMul, Int.reduceNeg, Int.reduceToNat, reduceCtorEq, reduceIte, pex_isNil]
    obtain ⟨_, _, hr, rfl, rfl⟩ := hr
    exact ⟨_, 0, _, C2_of (by rfl) hr, Fr.app _ _, .inl ⟨rfl, rfl⟩⟩
theorem ap113 {l : List Int} {z : AV} {o : Nat} {H : List AO} (h2 : 2 ≤ H.length) (hl : l.length ≤ 1000) (Z : (z = .nils ∧ l = []) ∨ (z = .ms 1 o 0 l.length ∧ 2 ≤ o ∧ H[o]? = some (.cells (l.flatMap intL) false))) (s : Int) :
    ∃ o2 H', appV 0 H 1 8 z (.cs 1 1 [I s]) = some (.ms 1 o2 0 (l.length + 1), H') ∧ 2 ≤ o2 ∧ H'[0]? = H[0]? ∧ H'[1]? = H[1]? ∧ H'[o2]? = some (.cells ((l ++ [s]).flatMap intL) false) := by
  rcases Z with ⟨rfl, rfl⟩ | ⟨rfl, ho, hc⟩
  · have A := appV_nil (lim := 0) (h := H) (esz := 1) (eb := 8) (n := 1) (x := .cs 1 1 [I s]) (xs := [I s]) rfl rfl rfl rfl (by omega) (by omega)
    rw [if_neg (by omega)] at A
    exact ⟨_, _, A, by omega, at_ap (by omega), at_ap (by omega), atE⟩
  · have A := appV_ms (lim := 0) (esz := 1) (eb := 8) (n := 1) (x := .cs 1 1 [I s]) (xs := [I s]) hc (by rw [flat_len intE]) rfl rfl rfl rfl (by omega) (by omega) (Nat.zero_le _)
    rw [if_neg (by omega)] at A
    have ll : H.length = (H.set o .tomb).length := by simp
    refine ⟨_, _, A, by omega, ?_, ?_, ?_⟩
    · rw [at_ap (by simp; omega), List.getElem?_set_ne (by omega)]
    · rw [at_ap (by simp; omega), List.getElem?_set_ne (by omega)]
    · rw [ll, atE, List.flatMap_append]; rfl
section
variable {h : Hs} {k p b : AV}
set_option maxHeartbeats 4000000 in
theorem s103 (H : HsOk h k p b) (s : Int) : Iso E 103 [hsV h.fl k p b, I s] false = some (hsV h.fl k p (slV 1 intL (h.bs ++ [s]))) := by
  have nb := H.nb
  obtain ⟨z, o, H1, C, fr, hz⟩ := c113 H.b (by omega) [.cells [k, I h.fl, p, b] false, .cells [.nils, I 0, .nils, .nils] false]
  simp only [List.length_cons, List.length_nil, Nat.zero_add, Nat.reduceAdd] at hz
  have a0 := fr.at (j := 0) rfl
  have a1 := fr.at (j := 1) rfl
  have l1 := (List.getElem?_eq_some_iff.1 a1).1
  obtain ⟨o2, H2, A, ho2, b0, b1, bo⟩ := ap113 (by omega) (by omega) hz s
  rw [a0] at b0
  rw [a1] at b1
  have l2 := (List.getElem?_eq_some_iff.1 b1).1
  obtain ⟨H3, e3⟩ : ∃ H3, H3 = H2.set 0 (.cells [k, I h.fl, p, .ms 1 o2 0 (h.bs.length + 1)] false) := ⟨_, rfl⟩
  have d0 : H3[0]? = some (.cells [k, I h.fl, p, .ms 1 o2 0 (h.bs.length + 1)] false) := by rw [e3]; exact set_at b0
  have d1 : H3[1]? = some (.cells [.nils, I 0, .nils, .nils] false) := by rw [e3]; exact set_of b1 (by omega)
  have do_ : H3[o2]? = some (.cells ((h.bs ++ [s]).flatMap intL) false) := by rw [e3]; exact set_of bo (by omega)
  obtain ⟨H4, e4⟩ : ∃ H4, H4 = H3.set 1 (.cells [k, I h.fl, p, .ms 1 o2 0 (h.bs.length + 1)] false) := ⟨_, rfl⟩
  have f1 : H4[1]? = some (.cells [k, I h.fl, p, .ms 1 o2 0 (h.bs.length + 1)] false) := by rw [e4]; exact set_at d1
  have fo : H4[o2]? = some (.cells ((h.bs ++ [s]).flatMap intL) false) := by rw [e4]; exact set_of do_ (by omega)
  have vB := fun n => viewB (l := h.bs ++ [s]) fo (st := false) (n := n)
  rw [List.length_append, List.length_singleton] at vB
  have c2 : ∀ {lim : Nat} {pl : Option Nat} {ρ : Opd → AV} {h : List AO} {f : Nat} {args : List Opd}, exOp (R E) lim pl ρ h (.call 2 f args) = C2 E f (args.map ρ) h := exOp_call2
  refine Iso_of (es _ _ _ _) e103 ?_
  simp only [f103, hsV]
  simp (disch := first | assumption | omega | (simp only [az]; done)) only [ru, eq_self, if_true, if_false, BEq.rfl, binI, AO.row?, splice, fillL, mmAll, loadV, storeV, zeros, Am.rowAt, Am.part, addOff, Nat.reduceAdd, Nat.reduceMul, Nat.reduceLeDiff, Nat.reduceSub, Nat.reduceLT, Int.reduceEq, Int.reduceLT, Int.reduceLE, Int.reduceGT, Int.reduceGE, Int.reduceAdd, Int.reduceSub, Int.reduceMul, Int.reduceNeg, Int.reduceToNat, reduceCtorEq, reduceIte, lenV_sl H.k, lenV_sl H.p, lenV_sl H.b, elem_kd H.k, elem_pr H.p, elem_in H.b, view_sl H.k, view_sl H.p, view_sl H.b, scalar_sl H.k, scalar_sl H.p, scalar_sl H.b, cells_sl H.k, cells_sl H.p, cells_sl H.b, pure_sl H.k, pure_sl H.p, pure_sl H.b, Int.toNat_natCast, c2, C, exOp_append, A, a0, a1, b0, b1, ← e3, d0, d1, ← e4, f1, finC, getRes, Option.some.injEq, exists_eq_left', vB]
theorem more_mem (G : HG h) (hb : h.bs.length < 4) {s : Int} (hs : 0 ≤ s ∧ s ≤ 99) {x : List Int} : x ∈ (h.more s).pk ↔ x ∈ (h.more 99).pk ∧ ndP h.ks h.fl (prs h.ps x h.bs.length) ≤ s := by
  rw [(more_G G hb hs).mem_pk, (more_G G hb (s := 99) (by omega)).mem_pk]
  have key : ∀ t : Int, (h.more t).ft x = true ↔ (∀ c : Nat, c < h.bs.length → ndP h.ks h.fl (prs h.ps x c) ≤ h.bs.getD c 0) ∧ ndP h.ks h.fl (prs h.ps x h.bs.length) ≤ t := fun t => by
    rw [Hs.ft_iff]
    have el : (h.more t).bs.length = h.bs.length + 1 := by simp [Hs.more]
    have e1 : ∀ c, c < h.bs.length → (h.more t).bs.getD c 0 = h.bs.getD c 0 := fun c hc => by
      show (h.bs ++ [t]).getD c 0 = _
      rw [List.getD_eq_getElem?_getD, List.getElem?_append_left hc, List.getD_eq_getElem?_getD]
    have e2 : (h.more t).bs.getD h.bs.length 0 = t := by
      show (h.bs ++ [t]).getD h.bs.length 0 = t
      simp [List.getD_eq_getElem?_getD]
    constructor
    · intro H
      refine ⟨fun c hc => ?_, ?_⟩
      · have := H c (by omega); rw [e1 c hc] at this; exact this
      · have := H h.bs.length (by omega); rw [e2] at this; exact this
    · rintro ⟨H1, H2⟩ c hc
      by_cases e : c < h.bs.length
      · rw [e1 c e]; exact H1 c e
      · obtain rfl : c = h.bs.length := by omega
        rw [e2]; exact H2
  have el : ∀ t : Int, (h.more t).bs.length = h.bs.length + 1 := fun t => by simp [Hs.more]
  constructor
  · intro P
    have k1 := (key s).1 P.f
    exact ⟨⟨P.l, fun c hc => by have := P.c c hc; rw [el] at this ⊢; exact this, (key 99).2 ⟨k1.1, by omega⟩⟩, k1.2⟩
  · rintro ⟨P, h2⟩
    exact ⟨P.l, fun c hc => by have := P.c c hc; rw [el] at this ⊢; exact this, (key s).2 ⟨((key 99).1 P.f).1, h2⟩⟩
def lastF (h : Hs) (x : List Int) : Int := ndP h.ks h.fl (prs h.ps x h.bs.length)
theorem buy_eq (G : HG h) (hb : h.bs.length < 4) : (buyF h 100).isSome = decide ((h.more 99).pk ≠ []) ∧ ((h.more 99).pk ≠ [] → buyN h = lsf (lastF h) (h.more 99).pk) := by
  by_cases hp : (h.more 99).pk = []
  · have : buyF h 100 = none := by
      unfold buyF
      rw [List.find?_eq_none]
      intro s hs
      have hs := List.mem_range.1 hs
      simp only [decide_eq_true_eq, Decidable.not_not]
      rw [List.eq_nil_iff_forall_not_mem]
      intro x hx
      have := (more_mem G hb (s := (s : Int)) (by omega)).1 hx
      rw [hp] at this; cases this.1
    rw [this]
    exact ⟨by simp [hp], fun h => absurd hp h⟩
  · obtain ⟨⟨x, hx, ex⟩, hl⟩ := lsf_spec (f := lastF h) hp
    have h99 := ((more_mem G hb (s := 99) (by omega)).1 hx).2
    have h0 : 0 ≤ lastF h x := by
      have h1 := lb_bd (G.pp x h.bs.length)
      have h2 := sl_bd G.g (G.pp x h.bs.length)
      unfold lastF ndP; omega
    have h99' : lastF h x ≤ 99 := h99
    obtain ⟨s, hs⟩ : ∃ s : Nat, lsf (lastF h) (h.more 99).pk = s := ⟨(lsf (lastF h) (h.more 99).pk).toNat, by omega⟩
    have : buyF h 100 = some s := by
      unfold buyF
      rw [List.find?_range_eq_some]
      refine ⟨?_, List.mem_range.2 (by omega), fun j hj => ?_⟩
      · simp only [decide_eq_true_eq]
        intro e
        have := (more_mem G hb (s := (s : Int)) (by omega)).2 ⟨hx, by rw [← hs, ← ex]; exact Int.le_refl _⟩
        rw [e] at this; cases this
      · simp only [Bool.not_eq_true', decide_eq_false_iff_not, Decidable.not_not]
        rw [List.eq_nil_iff_forall_not_mem]
        intro y hy
        have := (more_mem G hb (s := (j : Int)) (by omega)).1 hy
        have h3 := hl y this.1
        have h4 : lastF h y ≤ j := this.2
        omega
    refine ⟨by rw [this]; simp [hp], fun _ => ?_⟩
    unfold buyN; rw [this, hs]
set_option maxHeartbeats 4000000 in
theorem s44 (H : HsOk h k p b) (st : Bool) : Iso E 44 [hsV h.fl k p b] st = some (buyV h) := by
  have a1 := fun st => s19 H st
  simp only [hsV] at a1
  have key : HG h → ∀ st, Iso E 89 [.agg [k, I h.fl, p, b]] st = some (.tup [I (if h.pk ≠ [] then 0 else if h.bs.length = 4 then 0 else buyN h), I (if h.pk ≠ [] then 0 else if h.bs.length = 4 then 2 else if (buyF h 100).isSome then 0 else 3)]) := by
    intro G st
    have nb := G.nb
    have c98 := fun st => s98 H G st
    simp only [hsV] at c98
    refine Iso_of (es _ _ _ _) e89 ?_
    simp only [f89]
    by_cases hp : h.pk ≠ []
    · rw [if_pos hp, if_pos hp]
      rw [decide_eq_true hp] at c98
      simp (disch := first | assumption | omega | (simp only [az]; done)) only [ru, eq_self, if_true, if_false, BEq.rfl, binI, AO.row?, splice, fillL, mmAll, loadV, storeV, zeros, Am.rowAt, Am.part, addOff, Nat.reduceAdd, Nat.reduceMul, Nat.reduceLeDiff, Nat.reduceSub, Nat.reduceLT, Int.reduceEq, Int.reduceLT, Int.reduceLE, Int.reduceGT, Int.reduceGE, Int.reduceAdd, Int.reduceSub, Int.reduceMul, Int.reduceNeg, Int.reduceToNat, reduceCtorEq, reduceIte, lenV_sl H.k, lenV_sl H.p, lenV_sl H.b, elem_kd H.k, elem_pr H.p, elem_in H.b, view_sl H.k, view_sl H.p, view_sl H.b, scalar_sl H.k, scalar_sl H.p, scalar_sl H.b, cells_sl H.k, cells_sl H.p, cells_sl H.b, pure_sl H.k, pure_sl H.p, pure_sl H.b, Int.toNat_natCast, c98]
      done
    rw [if_neg hp, if_neg hp]
    rw [decide_eq_false hp] at c98
    by_cases h4 : h.bs.length = 4
    · rw [if_pos h4, if_pos h4]
      have h4' : (h.bs.length : Int) = 4 := by omega
      simp (disch := first | assumption | omega | (simp only [az]; done)) only [ru, eq_self, if_true, if_false, BEq.rfl, binI, AO.row?, splice, fillL, mmAll, loadV, storeV, zeros, Am.rowAt, Am.part, addOff, Nat.reduceAdd, Nat.reduceMul, Nat.reduceLeDiff, Nat.reduceSub, Nat.reduceLT, Int.reduceEq, Int.reduceLT, Int.reduceLE, Int.reduceGT, Int.reduceGE, Int.reduceAdd, Int.reduceSub, Int.reduceMul, Int.reduceNeg, Int.reduceToNat, reduceCtorEq, reduceIte, lenV_sl H.k, lenV_sl H.p, lenV_sl H.b, elem_kd H.k, elem_pr H.p, elem_in H.b, view_sl H.k, view_sl H.p, view_sl H.b, scalar_sl H.k, scalar_sl H.p, scalar_sl H.b, cells_sl H.k, cells_sl H.p, cells_sl H.b, pure_sl H.k, pure_sl H.p, pure_sl H.b, Int.toNat_natCast, c98, h4', decide_true]
      done
    rw [if_neg h4, if_neg h4]
    have h4' : ¬ (h.bs.length : Int) = 4 := by omega
    have G9 := more_G G (by omega) (s := 99) (by omega)
    have H9 : HsOk (h.more 99) k p (slV 1 intL (h.bs ++ [99])) := { k := H.k, p := H.p, b := slV_is, nk := H.nk, np := H.np, nb := by have := G9.nb; omega }
    have c103 := s103 H 99
    have c76 := fun st => s76 H9 G9 (K := 104) (f := lastF h) (fun x P => by
      have h1 := prs_bd G x h.bs.length
      unfold lastF ndP; omega) (fun x P g => q104 H9 G9 (c := h.bs.length) (by simp [Hs.more]) x g) st
    have fls : (h.more 99).fl = h.fl := rfl
    simp only [hsV, fls] at c103 c76
    obtain ⟨b9, hb9⟩ : ∃ b9, b9 = slV 1 intL (h.bs ++ [99]) := ⟨_, rfl⟩
    have V9 : IsSl 1 intL (h.bs ++ [99]) b9 := by rw [hb9]; exact slV_is
    rw [← hb9] at c103 c76
    obtain ⟨B1, B2⟩ := buy_eq G (by omega)
    by_cases h9 : (h.more 99).pk = []
    · simp only [h9, if_true] at c76
      have e1 : (buyF h 100).isSome = false := by rw [B1, h9]; rfl
      have e2 : buyN h = 0 := by
        unfold buyN
        cases hf : buyF h 100 with
        | none => rfl
        | some s => rw [hf] at e1; cases e1
      rw [e1, e2]
      simp (disch := first | assumption | omega | (simp only [az]; done)) only [ru, eq_self, if_true, if_false, BEq.rfl, binI, AO.row?, splice, fillL, mmAll, loadV, storeV, zeros, Am.rowAt, Am.part, addOff, Nat.reduceAdd, Nat.reduceMul, Nat.reduceLeDiff, Nat.reduceSub, Nat.reduceLT, Int.reduceEq, Int.reduceLT, Int.reduceLE, Int.reduceGT, Int.reduceGE, Int.reduceAdd, Int.reduceSub, Int.reduceMul, Int.reduceNeg, Int.reduceToNat, reduceCtorEq, reduceIte, lenV_sl H.k, lenV_sl H.p, lenV_sl H.b, elem_kd H.k, elem_pr H.p, elem_in H.b, view_sl H.k, view_sl H.p, view_sl H.b, scalar_sl H.k, scalar_sl H.p, scalar_sl H.b, cells_sl H.k, cells_sl H.p, cells_sl H.b, pure_sl H.k, pure_sl H.p, pure_sl H.b, Int.toNat_natCast, lenV_sl V9, elem_in V9, view_sl V9, scalar_sl V9, cells_sl V9, pure_sl V9, Int.toNat_natCast, c98, h4', c103, c76, Bool.false_eq_true, if_false, decide_false]
      done
    · simp only [h9, if_false] at c76
      have e1 : (buyF h 100).isSome = true := by rw [B1]; exact decide_eq_true h9
      rw [e1, B2 h9]
      obtain ⟨Ls, hLs⟩ : ∃ Ls : AV, Ls = slV 1 intL ((bsf (lastF h) (h.more 99).pk).getD []) := ⟨_, rfl⟩
      rw [← hLs] at c76
      simp (disch := first | assumption | omega | (simp only [az]; done)) only [ru, eq_self, if_true, if_false, BEq.rfl, binI, AO.row?, splice, fillL, mmAll, loadV, storeV, zeros, Am.rowAt, Am.part, addOff, Nat.reduceAdd, Nat.reduceMul, Nat.reduceLeDiff, Nat.reduceSub, Nat.reduceLT, Int.reduceEq, Int.reduceLT, Int.reduceLE, Int.reduceGT, Int.reduceGE, Int.reduceAdd, Int.reduceSub, Int.reduceMul, Int.reduceNeg, Int.reduceToNat, reduceCtorEq, reduceIte, lenV_sl H.k, lenV_sl H.p, lenV_sl H.b, elem_kd H.k, elem_pr H.p, elem_in H.b, view_sl H.k, view_sl H.p, view_sl H.b, scalar_sl H.k, scalar_sl H.p, scalar_sl H.b, cells_sl H.k, cells_sl H.p, cells_sl H.b, pure_sl H.k, pure_sl H.p, pure_sl H.b, Int.toNat_natCast, lenV_sl V9, elem_in V9, view_sl V9, scalar_sl V9, cells_sl V9, pure_sl V9, Int.toNat_natCast, c98, h4', c103, c76, if_true, decide_false]
  refine Iso_of (es _ _ _ _) e44 ?_
  simp only [f44, hsV, buyV, buyE]
  cases hv : h.valid
  · simp (disch := first | assumption | omega | (simp only [az]; done)) only [ru, eq_self, if_true, if_false, BEq.rfl, binI, AO.row?, splice, fillL, mmAll, loadV, storeV, zeros, Am.rowAt, Am.part, addOff, Nat.reduceAdd, Nat.reduceMul, Nat.reduceLeDiff, Nat.reduceSub, Nat.reduceLT, Int.reduceEq, Int.reduceLT, Int.reduceLE, Int.reduceGT, Int.reduceGE, Int.reduceAdd, Int.reduceSub, Int.reduceMul, Int.reduceNeg, Int.reduceToNat, reduceCtorEq, reduceIte, lenV_sl H.k, lenV_sl H.p, lenV_sl H.b, elem_kd H.k, elem_pr H.p, elem_in H.b, view_sl H.k, view_sl H.p, view_sl H.b, scalar_sl H.k, scalar_sl H.p, scalar_sl H.b, cells_sl H.k, cells_sl H.p, cells_sl H.b, pure_sl H.k, pure_sl H.p, pure_sl H.b, Int.toNat_natCast, a1, hv, vE, if_false, Bool.false_eq_true, Bool.false_and]
    done
  have G : HG h := valid_iff.1 hv
  have key := key G
  have e1 : (if (true && decide (h.pk = []) && decide (h.bs.length ≠ 4)) = true then buyN h else 0) = (if h.pk ≠ [] then 0 else if h.bs.length = 4 then 0 else buyN h) := by
    by_cases h1 : h.pk = []
    · by_cases h2 : h.bs.length = 4
      · simp [h1, h2]
      · simp [h1, h2]
    · simp [h1]
  rw [e1, if_pos rfl]
  obtain ⟨X, hX⟩ : ∃ X, X = (if h.pk ≠ [] then 0 else if h.bs.length = 4 then 0 else buyN h) := ⟨_, rfl⟩
  obtain ⟨Y, hY⟩ : ∃ Y : Int, Y = (if h.pk ≠ [] then 0 else if h.bs.length = 4 then 2 else if (buyF h 100).isSome then 0 else 3) := ⟨_, rfl⟩
  simp only [← hX, ← hY] at key ⊢
  simp (disch := first | assumption | omega | (simp only [az]; done)) only [ru, eq_self, if_true, if_false, BEq.rfl, binI, AO.row?, splice, fillL, mmAll, loadV, storeV, zeros, Am.rowAt, Am.part, addOff, Nat.reduceAdd, Nat.reduceMul, Nat.reduceLeDiff, Nat.reduceSub, Nat.reduceLT, Int.reduceEq, Int.reduceLT, Int.reduceLE, Int.reduceGT, Int.reduceGE, Int.reduceAdd, Int.reduceSub, Int.reduceMul, Int.reduceNeg, Int.reduceToNat, reduceCtorEq, reduceIte, lenV_sl H.k, lenV_sl H.p, lenV_sl H.b, elem_kd H.k, elem_pr H.p, elem_in H.b, view_sl H.k, view_sl H.p, view_sl H.b, scalar_sl H.k, scalar_sl H.p, scalar_sl H.b, cells_sl H.k, cells_sl H.p, cells_sl H.b, pure_sl H.k, pure_sl H.p, pure_sl H.b, Int.toNat_natCast, a1, hv, key, vE, if_true]
end
end Go.Proofs.Ytcdedbpmjhjehaa.S

/-
The chapter's examples.
-/
namespace Go.Proofs.Ytcdedbpmjhjehaa.S
open Go Go.Am Go.Proofs.Ytcdedbpmjhjehaa.T
set_option maxRecDepth 100000
set_option linter.unusedSimpArgs false
set_option linter.unusedVariables false

def exS : Hs := ⟨[⟨3, 10⟩, ⟨5, 4⟩], 2, [⟨0, 10⟩, ⟨0, 15⟩, ⟨1, 8⟩], [40, 20]⟩
def exT : Hs := ⟨[⟨3, 10⟩, ⟨5, 4⟩], 2, [⟨0, 10⟩, ⟨0, 15⟩, ⟨1, 8⟩], [40, 13]⟩
def exK : AV := .cs 2 2 [I 3, I 10, I 5, I 4]
def exP : AV := .cs 2 3 [I 0, I 10, I 0, I 15, I 1, I 8]
theorem exS_ok : HsOk exS exK exP (.cs 1 2 [I 40, I 20]) := { k := .inl rfl, p := .inl rfl, b := .inl rfl, nk := by decide, np := by decide, nb := by decide }
theorem exT_ok : HsOk exT exK exP (.cs 1 2 [I 40, I 13]) := { k := .inl rfl, p := .inl rfl, b := .inl rfl, nk := by decide, np := by decide, nb := by decide }
theorem finCC {lim i j s s' : Nat} {a a' : Bool} {P : AV → List AO → Prop} {ts : List AV} {h : List AO} : Done lim [.cell a s i, .cell a' s' j] P .ret ⟨ts, h, []⟩ = ∃ v, getRes ts h (.cell a s i) = some v ∧ ∃ w, getRes ts h (.cell a' s' j) = some w ∧ P (.tup [v, w]) h := by
  simp only [Done, finish, takeMarks, List.all_nil, if_true, List.mapM_cons, List.mapM_nil, Option.bind_eq_bind, Option.pure_def]
  cases getRes ts h (.cell a s i) <;> cases getRes ts h (.cell a' s' j) <;> simp
set_option maxHeartbeats 4000000 in
theorem s64 : Iso E 64 [] false = some (.tup [hsV 2 exK exP (.cs 1 2 [I 40, I 20]), hsV 2 exK exP (.cs 1 2 [I 40, I 13])]) := by
  refine Iso_of (es _ _ _ _) e64 ?_
  simp only [f64, hsV, exK, exP]
  have n10 : ((1 : Nat) != 0) = true := rfl
  have n01 : ((0 : Nat) != 1) = true := rfl
  simp (disch := first | assumption | omega | (simp only [az]; done)) only [ru, eq_self, if_true, if_false, BEq.rfl, binI, AO.row?, splice, fillL, mmAll, loadV, storeV, zeros, Am.rowAt, Am.part, addOff, Nat.reduceAdd, Nat.reduceMul, Nat.reduceLeDiff, Nat.reduceSub, Nat.reduceLT, Int.reduceEq, Int.reduceLT, Int.reduceLE, Int.reduceGT, Int.reduceGE, Int.reduceAdd, Int.reduceSub, Int.reduceMul, Int.reduceNeg, Int.reduceToNat, reduceCtorEq, reduceIte, rmr, exOp_litS, exOp_loadR, exOp_storeR, objIs, objNot, objIsA, objNotA, finCC, getRes, Option.some.injEq, exists_eq_left', List.all_cons, List.all_nil, Bool.and_true, n10, n01]
section
theorem x21 (st : Bool) : Iso E 21 [hsV 2 exK exP (.cs 1 2 [I 40, I 20]), .cs 1 2 [I 1, I 2]] st = some (.tup [I 14, I 0]) := by
  have a := s21 exS_ok (l := [1, 2]) (v := .cs 1 2 [I 1, I 2]) (.inl rfl) (by decide) st
  have f1 : askS exS.valid (risB [1, 2] 0 (exS.ps.length - 1)) = 0 := by decide +kernel
  have f2 : slP exS.ks exS.fl (exS.pts [1, 2]) = 14 := by decide +kernel
  rw [f1, f2] at a
  exact a
theorem x25 (st : Bool) : Iso E 25 [hsV 2 exK exP (.cs 1 2 [I 40, I 20]), .cs 1 3 [I 0, I 0, I 1], I 1] st = some (.tup [I 8, I 6, I 4, I 0]) := by
  have a := s25 exS_ok (x := [0, 0, 1]) (v := .cs 1 3 [I 0, I 0, I 1]) (.inl rfl) (by decide) 1 st
  have f1 : askS exS.valid (exS.isP [0, 0, 1] && inR 1 0 (exS.bs.length - 1)) = 0 := by decide +kernel
  have f2 : lbP (prs exS.ps [0, 0, 1] 1) = 8 := by decide +kernel
  have f3 : slP exS.ks exS.fl (prs exS.ps [0, 0, 1] 1) = 6 := by decide +kernel
  have f4 : dyP exS.ks (prs exS.ps [0, 0, 1] 1) = 4 := by decide +kernel
  rw [f1, f2, f3, f4] at a
  exact a
theorem x32 : Iso E 32 [hsV 2 exK exP (.cs 1 2 [I 40, I 20])] false = some (.tup [.cs 1 3 [I 0, I 0, I 1], I 0]) := by
  have a := s32 exS_ok
  have f1 : askE exS.valid true exS.pk = 0 := by decide +kernel
  have f2 : bsf exS.sa exS.pk = some [0, 0, 1] := by decide +kernel
  rw [f1, f2] at a
  exact a
theorem x38 (st : Bool) : Iso E 38 [hsV 2 exK exP (.cs 1 2 [I 40, I 20]), I 9] st = some (.tup [I 8, I 0]) := by
  have a := s38 exS_ok 9 st
  have f1 : askE exS.valid (inR 9 0 20) exS.pk = 0 := by decide +kernel
  have f2 : mst (exS.ea 9) exS.pk = 8 := by decide +kernel
  rw [f1, f2] at a
  exact a
theorem x42 (st : Bool) : Iso E 42 [hsV 2 exK exP (.cs 1 2 [I 40, I 20]), I 9] st = some (.tup [I 15, I 0]) := by
  have a := s42 exS_ok 9 st
  have f1 : askS exS.valid (inR 9 0 999) = 0 := by decide +kernel
  have f2 : mst (exS.sto 9) exS.po = 15 := by decide +kernel
  rw [f1, f2] at a
  exact a
theorem x44 (st : Bool) : Iso E 44 [hsV 2 exK exP (.cs 1 2 [I 40, I 13])] st = some (.tup [I 14, I 0]) := by
  have a := s44 exT_ok st
  have f1 : (if exT.valid && decide (exT.pk = []) && decide (exT.bs.length ≠ 4) then buyN exT else 0) = 14 := by decide +kernel
  have f2 : buyE exT = 0 := by decide +kernel
  unfold buyV at a
  rw [f1, f2] at a
  exact a
theorem x28 (st : Bool) : Iso E 28 [.cs 1 3 [I 0, I 0, I 1], .cs 1 3 [I 0, I 0, I 1]] st = some (Bo true) := s28 (l := [0, 0, 1]) (.inl rfl) (.inl rfl) (by decide) st
set_option maxHeartbeats 4000000 in
theorem s16 : Iso E 16 [] false = some (Bo true) := by
  have a64 := s64
  have a21 := fun st => x21 st
  have a25 := fun st => x25 st
  have a32 := x32
  have a38 := fun st => x38 st
  have a42 := fun st => x42 st
  have a44 := fun st => x44 st
  simp only [hsV, exK, exP] at a64 a21 a25 a32 a38 a42 a44
  refine Iso_of (es _ _ _ _) e16 ?_
  simp only [f16]
  simp (disch := first | assumption | omega | (simp only [az]; done)) only [ru, eq_self, if_true, if_false, BEq.rfl, binI, AO.row?, splice, fillL, mmAll, loadV, storeV, zeros, Am.rowAt, Am.part, addOff, Nat.reduceAdd, Nat.reduceMul, Nat.reduceLeDiff, Nat.reduceSub, Nat.reduceLT, Int.reduceEq, Int.reduceLT, Int.reduceLE, Int.reduceGT, Int.reduceGE, Int.reduceAdd, Int.reduceSub, Int.reduceMul, Int.reduceNeg, Int.reduceToNat, reduceCtorEq, reduceIte, rmr, exOp_litS, a64, a21, a25, a32, a38, a42, a44, x28, Bool.not_true]
end
end Go.Proofs.Ytcdedbpmjhjehaa.S

/-
The inputs of the laws of stage 8, as the abstract machine has them.
-/
namespace Go.Proofs.Ytcdedbpmjhjehaa.S
open Go Go.Am Go.Proofs.Ytcdedbpmjhjehaa.T
set_option linter.unusedVariables false
set_option maxRecDepth 100000

theorem z3 : Try.prog.cellsOf 3 = 1 := by kernel_rfl
theorem z22 : Try.prog.cellsOf 22 = 1 := by kernel_rfl
theorem z23 : Try.prog.cellsOf 23 = 1 := by kernel_rfl
theorem z24 : Try.prog.cellsOf 24 = 1 := by kernel_rfl
theorem z26 : Try.prog.cellsOf 26 = 4 := by kernel_rfl
theorem z28 : Try.prog.cellsOf 28 = 3 := by kernel_rfl
theorem z63 : Try.prog.cellsOf 63 = 3 := by kernel_rfl
theorem z68 : Try.prog.cellsOf 68 = 2 := by kernel_rfl
theorem z71 : Try.prog.cellsOf 71 = 4 := by kernel_rfl
theorem z77 : Try.prog.cellsOf 77 = 2 := by kernel_rfl

theorem wfIc {d : Nat} {c : List AV} (h : WfC Try.prog (d + 1) 3 c) : ∃ i, c = [I i] ∧ True := by
  obtain ⟨i, e, hw⟩ := wf_int Try.underlying3 h
  exact ⟨i, e, trivial⟩
theorem wfI {d : Nat} {a : AV} (h : WfC Try.prog (d + 1) 3 [a]) : ∃ i, a = I i ∧ True := by
  obtain ⟨i, e, _⟩ := wfIc h
  simp only [List.cons.injEq, and_true] at e
  exact ⟨i, e, trivial⟩
theorem wfU {d : Nat} {c : List AV} (h : WfC Try.prog (d + 1) 5 c) : ∃ i, c = [.int .u8 i] ∧ (Lit.int .u8 i).wf = true := wf_int Try.underlying5 h
theorem wfKd {d : Nat} {c : List AV} (h : WfC Try.prog (d + 2) 77 c) : ∃ s : Kd, c = s.e ∧ True := by
  obtain ⟨hl, hf⟩ := wf_struct Try.underlying77 h
  rw [z77] at hl
  match c, hl with
  | [x, y], _ =>
    have h0 : WfC Try.prog (d + 1) 3 (([x, y].drop 0).take (Try.prog.cellsOf 3)) := hf 0 _ rfl
    have h1 : WfC Try.prog (d + 1) 3 (([x, y].drop 1).take (Try.prog.cellsOf 3)) := hf 1 _ rfl
    rw [z3] at h0 h1
    obtain ⟨i, rfl, _⟩ := wfI (show WfC Try.prog (d + 1) 3 [x] from h0)
    obtain ⟨j, rfl, _⟩ := wfI (show WfC Try.prog (d + 1) 3 [y] from h1)
    exact ⟨⟨i, j⟩, rfl, trivial⟩
theorem wfPr {d : Nat} {c : List AV} (h : WfC Try.prog (d + 2) 68 c) : ∃ s : Pr, c = s.e ∧ True := by
  obtain ⟨hl, hf⟩ := wf_struct Try.underlying68 h
  rw [z68] at hl
  match c, hl with
  | [x, y], _ =>
    have h0 : WfC Try.prog (d + 1) 3 (([x, y].drop 0).take (Try.prog.cellsOf 3)) := hf 0 _ rfl
    have h1 : WfC Try.prog (d + 1) 3 (([x, y].drop 1).take (Try.prog.cellsOf 3)) := hf 1 _ rfl
    rw [z3] at h0 h1
    obtain ⟨i, rfl, _⟩ := wfI (show WfC Try.prog (d + 1) 3 [x] from h0)
    obtain ⟨j, rfl, _⟩ := wfI (show WfC Try.prog (d + 1) 3 [y] from h1)
    exact ⟨⟨i, j⟩, rfl, trivial⟩
theorem wfNums {d : Nat} {c : List AV} (h : WfC Try.prog (d + 2) 24 c) : ∃ (l : List Int) (v : AV), c = [v] ∧ IsSl 1 intL l v := by
  obtain ⟨l, v, e, iv, _⟩ := wf_sl (d := d + 1) (enc := intL) (p := fun _ => True) Try.underlying24 z3 (fun c hc => wfIc hc) h
  exact ⟨l, v, e, iv⟩
theorem wfHouse {d : Nat} {c : List AV} (h : WfC Try.prog (d + 4) 26 c) : ∃ (s : Hs) (k p b : AV), AV.agg c = hsV s.fl k p b ∧ HsIn s k p b := by
  obtain ⟨hl, hf⟩ := wf_struct Try.underlying26 h
  rw [z26] at hl
  match c, hl with
  | [x, y, z, u], _ =>
    have h0 : WfC Try.prog (d + 3) 22 (([x, y, z, u].drop 0).take (Try.prog.cellsOf 22)) := hf 0 _ rfl
    have h1 : WfC Try.prog (d + 3) 3 (([x, y, z, u].drop 1).take (Try.prog.cellsOf 3)) := hf 1 _ rfl
    have h2 : WfC Try.prog (d + 3) 23 (([x, y, z, u].drop 2).take (Try.prog.cellsOf 23)) := hf 2 _ rfl
    have h3 : WfC Try.prog (d + 3) 24 (([x, y, z, u].drop 3).take (Try.prog.cellsOf 24)) := hf 3 _ rfl
    rw [z22] at h0
    rw [z3] at h1
    rw [z23] at h2
    rw [z24] at h3
    obtain ⟨lk, k, e0, ik, _⟩ := wf_sl (d := d + 2) (enc := Kd.e) (p := fun _ => True) Try.underlying22 z77 (fun c hc => wfKd hc) (show WfC Try.prog (d + 3) 22 [x] from h0)
    obtain ⟨i, rfl, _⟩ := wfI (show WfC Try.prog (d + 2 + 1) 3 [y] from h1)
    obtain ⟨lp, p, e2, ip, _⟩ := wf_sl (d := d + 2) (enc := Pr.e) (p := fun _ => True) Try.underlying23 z68 (fun c hc => wfPr hc) (show WfC Try.prog (d + 3) 23 [z] from h2)
    obtain ⟨lb, b, e3, ib⟩ := wfNums (d := d + 1) (show WfC Try.prog (d + 3) 24 [u] from h3)
    simp only [List.cons.injEq, and_true] at e0 e2 e3
    subst e0; subst e2; subst e3
    exact ⟨⟨lk, i, lp, lb⟩, x, z, u, rfl, ⟨ik, ip, ib⟩⟩
theorem wfAsk {d : Nat} {c : List AV} (h : WfC Try.prog (d + 3) 28 c) : ∃ (l m : List Int) (v w : AV) (i : Int), c = [v, w, I i] ∧ IsSl 1 intL l v ∧ IsSl 1 intL m w := by
  obtain ⟨hl, hf⟩ := wf_struct Try.underlying28 h
  rw [z28] at hl
  match c, hl with
  | [x, y, z], _ =>
    have h0 : WfC Try.prog (d + 2) 24 (([x, y, z].drop 0).take (Try.prog.cellsOf 24)) := hf 0 _ rfl
    have h1 : WfC Try.prog (d + 2) 24 (([x, y, z].drop 1).take (Try.prog.cellsOf 24)) := hf 1 _ rfl
    have h2 : WfC Try.prog (d + 2) 3 (([x, y, z].drop 2).take (Try.prog.cellsOf 3)) := hf 2 _ rfl
    rw [z24] at h0 h1
    rw [z3] at h2
    obtain ⟨l, v, e, iv⟩ := wfNums (show WfC Try.prog (d + 2) 24 [x] from h0)
    obtain ⟨m, w, e2, iw⟩ := wfNums (show WfC Try.prog (d + 2) 24 [y] from h1)
    obtain ⟨i, rfl, _⟩ := wfI (show WfC Try.prog (d + 1 + 1) 3 [z] from h2)
    simp only [List.cons.injEq, and_true] at e e2
    subst e; subst e2
    exact ⟨l, m, x, y, i, rfl, iv, iw⟩
theorem wfRoom {d : Nat} {c : List AV} (h : WfC Try.prog (d + 3) 63 c) : ∃ a b e : Int, c = [I a, I b, I e] := by
  obtain ⟨hl, hf⟩ := wf_struct Try.underlying63 h
  rw [z63] at hl
  match c, hl with
  | [x, y, z], _ =>
    have h0 : WfC Try.prog (d + 2) 3 (([x, y, z].drop 0).take (Try.prog.cellsOf 3)) := hf 0 _ rfl
    have h1 : WfC Try.prog (d + 2) 3 (([x, y, z].drop 1).take (Try.prog.cellsOf 3)) := hf 1 _ rfl
    have h2 : WfC Try.prog (d + 2) 3 (([x, y, z].drop 2).take (Try.prog.cellsOf 3)) := hf 2 _ rfl
    rw [z3] at h0 h1 h2
    obtain ⟨i, rfl, _⟩ := wfI (show WfC Try.prog (d + 1 + 1) 3 [x] from h0)
    obtain ⟨j, rfl, _⟩ := wfI (show WfC Try.prog (d + 1 + 1) 3 [y] from h1)
    obtain ⟨e, rfl, _⟩ := wfI (show WfC Try.prog (d + 1 + 1) 3 [z] from h2)
    exact ⟨i, j, e, rfl⟩
theorem wfTurn {d : Nat} {c : List AV} (h : WfC Try.prog (d + 3) 71 c) : ∃ a b e f : Int, c = [I a, I b, I e, I f] := by
  obtain ⟨hl, hf⟩ := wf_struct Try.underlying71 h
  rw [z71] at hl
  match c, hl with
  | [x, y, z, u], _ =>
    have h0 : WfC Try.prog (d + 2) 3 (([x, y, z, u].drop 0).take (Try.prog.cellsOf 3)) := hf 0 _ rfl
    have h1 : WfC Try.prog (d + 2) 3 (([x, y, z, u].drop 1).take (Try.prog.cellsOf 3)) := hf 1 _ rfl
    have h2 : WfC Try.prog (d + 2) 3 (([x, y, z, u].drop 2).take (Try.prog.cellsOf 3)) := hf 2 _ rfl
    have h3 : WfC Try.prog (d + 2) 3 (([x, y, z, u].drop 3).take (Try.prog.cellsOf 3)) := hf 3 _ rfl
    rw [z3] at h0 h1 h2 h3
    obtain ⟨i, rfl, _⟩ := wfI (show WfC Try.prog (d + 1 + 1) 3 [x] from h0)
    obtain ⟨j, rfl, _⟩ := wfI (show WfC Try.prog (d + 1 + 1) 3 [y] from h1)
    obtain ⟨e, rfl, _⟩ := wfI (show WfC Try.prog (d + 1 + 1) 3 [z] from h2)
    obtain ⟨f, rfl, _⟩ := wfI (show WfC Try.prog (d + 1 + 1) 3 [u] from h3)
    exact ⟨i, j, e, f, rfl⟩
theorem own : ownKnob Try.prog.godebug = none := by kernel_rfl
theorem laidOut : laidOutB Try.prog = true := by kernel_rfl
def houseW : Value := .agg #[.slice none 0 0, .int .i64 0, .slice none 0 0, .slice none 0 0]
def askW : Value := .agg #[.slice none 0 0, .slice none 0 0, .int .i64 0]
def threeW : Value := .agg #[.int .i64 0, .int .i64 0, .int .i64 0]
def fourW : Value := .agg #[.int .i64 0, .int .i64 0, .int .i64 0, .int .i64 0]
end Go.Proofs.Ytcdedbpmjhjehaa.S

