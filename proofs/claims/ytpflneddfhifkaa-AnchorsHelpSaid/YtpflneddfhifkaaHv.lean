/-
All lists of grips, as the specification makes them.
-/
import Derived.Test.YtpflneddfhifkaaHu
namespace Go.Proofs.Ytpflneddfhifkaa.S
open Go Go.Am Go.Proofs.Ytpflneddfhifkaa.T
set_option maxRecDepth 100000
set_option linter.unusedSimpArgs false
set_option linter.unusedVariables false

/-- the lists with the first k values of a grip -/
def part6 (n : Net) (d : Nat) (F : List Int) (lo : Int) (k : Nat) : List (List Int) := ((List.range k).map fun (i : Nat) => lo + (i : Int)).flatMap fun x => exts n d (F ++ [x])
theorem part6_succ {n : Net} {d : Nat} {F : List Int} {lo : Int} {k : Nat} : part6 n d F lo (k + 1) = part6 n d F lo k ++ exts n d (F ++ [lo + (k : Int)]) := by
  unfold part6; rw [List.range_succ, List.map_append, List.flatMap_append]; simp
theorem part6_len {n : Net} (hv : n.valid = true) {d : Nat} {F : List Int} {lo : Int} (h : F.length + (d + 1) = n.grips.length) : ∀ {k : Nat}, (part6 n d F lo k).length ≤ k * 100
  | 0 => by simp [part6]
  | k + 1 => by
    have := part6_len hv (lo := lo) h (k := k)
    have e := (exts_len hv (d := d) (F := F ++ [lo + (k : Int)]) (by simp; omega)).1
    have hd : d ≤ 2 := by have := (netB hv).lg; omega
    have : 10 ^ d ≤ 100 := by
      match d, hd with
      | 0, _ => decide
      | 1, _ => decide
      | 2, _ => decide
    rw [part6_succ, List.length_append]; omega

theorem OutLL.deep {b b' : Nat} {h : List AO} {v : AV} {L : List (List Int)} (H : OutLL b h v L) (hb : b' ≤ b) : OutLL b' h v L := by
  rcases H with h1 | ⟨hne, o, vs, ho, rfl, hc, hl, hr⟩
  · exact .inl h1
  · exact .inr ⟨hne, o, vs, by omega, rfl, hc, hl, hr⟩

set_option maxHeartbeats 1000000 in
theorem r118 {n : Net} {g a w : AV} (H : NetOk n g a w) (hv : n.valid = true) : ∀ (d : Nat) (F : List Int) (fv : AV) (h : List AO) (lim : Nat), F.length + d = n.grips.length → RdS h fv F → lim ≤ h.length →
    ∃ v h', R E (.fn 118) [netV n g a w, fv] h lim = some (v, h') ∧ Fr h h' ∧ OutLL h.length h' v (exts n d F) := by
  have sg := H.sg
  have lg := (netB hv).lg
  intro d
  induction d with
  | zero =>
    intro F fv h lim hd hF hlim
    have hl : (F.length : Int) = n.grips.length := by omega
    obtain ⟨f1, f2, f3⟩ := hF.len
    have key : ∃ r h', R E (.fn 118) [netV n g a w, fv] h lim = some (r, h') ∧ (Fr h h' ∧ OutLL h.length h' r (exts n 0 F)) := by
      refine R_of _ (es _ _ _ _) e118 ?_
      simp only [f118, netV]
      simp (disch := first | assumption | omega | (simp only [az]; done)) only [ru, eq_self, if_true, if_false, BEq.rfl, binI, AO.row?, splice, fillL, mmAll, loadV, storeV, zeros, Am.rowAt, Am.part, addOff, Nat.reduceAdd, Nat.reduceMul, Nat.reduceLeDiff, Nat.reduceSub, Nat.reduceLT, Int.reduceEq, Int.reduceLT, Int.reduceLE, Int.reduceGT, Int.reduceGE, Int.reduceAdd, Int.reduceSub, Int.reduceMul, Int.reduceNeg, Int.reduceToNat, reduceCtorEq, reduceIte, lenV_sl H.g, lenV_sl H.a, lenV_sl H.w, elem_sl Spn.el H.g, elem_sl Anc.el H.a, elem_sl Wal.el H.w, view_sl H.g, view_sl H.a, view_sl H.w, scalar_sl H.g, scalar_sl H.a, scalar_sl H.w, cells_sl H.g, cells_sl H.a, cells_sl H.w, pure_sl H.g, pure_sl H.a, pure_sl H.w, Spn.e, Anc.e, Wal.e, Spn.eta, Anc.eta, Wal.eta, Int.toNat_natCast, f1, f2, f3, hl]
      refine ⟨by rw [List.append_assoc]; exact Fr.app _ _, .inr ⟨by simp [exts], (h ++ [(.cells [I n.wind.lo, I n.wind.hi, I n.cur.lo, I n.cur.hi, g, a, w] false : AO)]).length, [fv], by simp, rfl, by simp, rfl, fun i hi => ?_⟩⟩
      have hi0 : i = 0 := by simp [exts] at hi; omega
      subst hi0
      simp only [exts, get0]
      exact hF.fr (by rw [List.append_assoc]; exact Fr.app _ _)
    exact key
  | succ d ih =>
    intro F fv h lim hd hF hlim
    have hl : ¬ (F.length : Int) = n.grips.length := by omega
    have hFl : (F.length : Int) < n.grips.length := by omega
    have hF0 : (0 : Int) ≤ F.length := by omega
    obtain ⟨f1, f2, f3⟩ := hF.len
    have key : ∃ r h', R E (.fn 118) [netV n g a w, fv] h lim = some (r, h') ∧ (Fr h h' ∧ OutLL h.length h' r (exts n (d + 1) F)) := by
      refine R_of _ (es _ _ _ _) e118 ?_
      simp only [f118, netV]
      obtain ⟨s, hs⟩ : ∃ s, s = n.grips.getD F.length default := ⟨_, rfl⟩
      have B := (netB hv).g _ (getD_mem (l := n.grips) (i := F.length) (by omega))
      rw [← hs] at B
      obtain ⟨N, hN⟩ : ∃ N, N = (s.hi - s.lo + 1).toNat := ⟨_, rfl⟩
      have hex : exts n (d + 1) F = part6 n d F s.lo N := by rw [exts, ← hs, hN]; rfl
      have hlim1 : lim ≤ (h ++ [(.cells [I n.wind.lo, I n.wind.hi, I n.cur.lo, I n.cur.hi, g, a, w] false : AO)]).length := by simp; omega
      simp (disch := first | assumption | omega | (simp only [az]; done)) only [ru, eq_self, if_true, if_false, BEq.rfl, binI, AO.row?, splice, fillL, mmAll, loadV, storeV, zeros, Am.rowAt, Am.part, addOff, Nat.reduceAdd, Nat.reduceMul, Nat.reduceLeDiff, Nat.reduceSub, Nat.reduceLT, Int.reduceEq, Int.reduceLT, Int.reduceLE, Int.reduceGT, Int.reduceGE, Int.reduceAdd, Int.reduceSub, Int.reduceMul, Int.reduceNeg, Int.reduceToNat, reduceCtorEq, reduceIte, lenV_sl H.g, lenV_sl H.a, lenV_sl H.w, elem_sl Spn.el H.g, elem_sl Anc.el H.a, elem_sl Wal.el H.w, view_sl H.g, view_sl H.a, view_sl H.w, scalar_sl H.g, scalar_sl H.a, scalar_sl H.w, cells_sl H.g, cells_sl H.a, cells_sl H.w, pure_sl H.g, pure_sl H.a, pure_sl H.w, Spn.e, Anc.e, Wal.e, Spn.eta, Anc.eta, Wal.eta, Int.toNat_natCast, f1, hl, hFl, hF0, Int.toNat_natCast, ← hs, hlim1]
      obtain ⟨p6, hp6⟩ : ∃ p6, p6 = (h ++ [(.cells [I n.wind.lo, I n.wind.hi, I n.cur.lo, I n.cur.hi, g, a, w] false : AO)]).length := ⟨_, rfl⟩
      have hp6' : p6 = h.length + 1 := by rw [hp6]; simp
      rw [← hp6]
      refine G_loop_ind (fun m ts hk mk => ∃ (k : Nat) (o : AV), k ≤ N ∧ m = N - k ∧ Fr h hk ∧ hk[h.length]? = some (.cells [I n.wind.lo, I n.wind.hi, I n.cur.lo, I n.cur.hi, g, a, w] false) ∧ hk[p6]? = some (.cells [I s.lo, I s.hi] false) ∧ OutLL (h.length + 2) hk o (part6 n d F s.lo k) ∧
        ts.length = 41 ∧ ts.getD 1 .undef = fv ∧ ts.getD 2 .undef = .ptr h.length 0 ∧ ts.getD 5 .undef = o ∧ ts.getD 6 .undef = .ptr p6 0 ∧ ts.getD 7 .undef = I (s.lo + (k : Int)) ∧ mk = []) ?_ _ _ _ _
        ⟨0, .nils, Nat.zero_le _, rfl, by rw [List.append_assoc]; exact Fr.app _ _, by simp, by rw [hp6]; exact atE, .inl ⟨rfl, rfl⟩, rfl, rfl, rfl, rfl, rfl, by simp, rfl⟩
      rintro m ts hk mk ihk ⟨k, o, hkN, rfl, fr, c2, c6, ho, hl', q1, q2, q5, q6, q7, rfl⟩
      rw [lit_all hl']
      simp only [lit0, litS, Nat.reduceAdd, q1, q2, q5, q6, q7]
      simp (disch := first | assumption | omega | (simp only [az]; done)) only [ru, eq_self, if_true, if_false, BEq.rfl, binI, AO.row?, splice, fillL, mmAll, loadV, storeV, zeros, Am.rowAt, Am.part, addOff, Nat.reduceAdd, Nat.reduceMul, Nat.reduceLeDiff, Nat.reduceSub, Nat.reduceLT, Int.reduceEq, Int.reduceLT, Int.reduceLE, Int.reduceGT, Int.reduceGE, Int.reduceAdd, Int.reduceSub, Int.reduceMul, Int.reduceNeg, Int.reduceToNat, reduceCtorEq, reduceIte, c6]
      by_cases hlt : s.lo + (k : Int) ≤ s.hi
      case pos =>
        have n2 := (List.getElem?_eq_some_iff.1 c2).1
        have n6 := (List.getElem?_eq_some_iff.1 c6).1
        obtain ⟨y, hy⟩ : ∃ y, y = s.lo + (k : Int) := ⟨_, rfl⟩
        have hF' := hF.fr fr
        have hlk : lim ≤ hk.length := by have := fr.l; omega
        obtain ⟨q, x0, x1, hq, A1, hx⟩ := app_one (lim := lim) hF' (by omega) hlk
        obtain ⟨y0, y1, sh, A2⟩ := app_two (lim := lim) (h := hk) (y := y) hq hx (by omega) hlk
        obtain ⟨H5, hH5⟩ : ∃ H5, H5 = hk ++ [y0, y1, .cells [I y] false, .cells ((F ++ [y]).flatMap fun n => [I n]) sh, .tomb] := ⟨_, rfl⟩
        rw [← hH5] at A2
        have l5 : H5.length = hk.length + 5 := by rw [hH5]; simp
        have t5 : H5[hk.length + 4]? = some .tomb := by rw [hH5, atT]; rfl
        have fr5 : Fr hk H5 := by rw [hH5]; exact Fr.app _ _
        have rd : RdS H5 (.ms 1 (hk.length + 3) 0 (F.length + 1)) (F ++ [y]) := .inr ⟨by simp, hk.length + 3, sh, by simp, by rw [hH5, atT]; rfl⟩
        obtain ⟨v', h', hr, fr', ho'⟩ := ih (F ++ [y]) (.ms 1 (hk.length + 3) 0 (F.length + 1)) H5 lim (by simp; omega) rd (by omega)
        have t5' : h'[hk.length + 4]? = some .tomb := fr'.at t5
        have u1 : H5.set (hk.length + 4) .tomb = H5 := set_same t5
        have u2 : h'.set (hk.length + 4) (H5.getD (hk.length + 4) .tomb) = h' := by
          rw [List.getD_eq_getElem?_getD, t5]; exact set_same t5'
        have lp := part6_len hv (lo := s.lo) hd (k := k + 1)
        rw [part6_succ, List.length_append, ← hy] at lp
        have hkb : k ≤ 10 := by omega
        have hne := (exts_len hv (d := d) (F := F ++ [y]) (by simp; omega)).2
        obtain ⟨h'', A3, e1, e2, e3⟩ := app_ll (lim := lim) (p := hk.length + 4) (ho.fr (fr5.trans fr')) (ho'.deep (by have := fr.l; omega)) hne t5' (by have := fr.l; omega) (by omega) (by omega)
        have fr'' : Fr h h'' := ⟨by have := fr.l; have := fr'.l; omega, fun j hj => by rw [e2 j (by omega)]; exact (fr.trans (fr5.trans fr')).k j hj⟩
        rw [← hy] at hlt ⊢
        simp (disch := first | assumption | omega | (simp only [az]; done)) only [ru, eq_self, if_true, if_false, BEq.rfl, binI, AO.row?, splice, fillL, mmAll, loadV, storeV, zeros, Am.rowAt, Am.part, addOff, Nat.reduceAdd, Nat.reduceMul, Nat.reduceLeDiff, Nat.reduceSub, Nat.reduceLT, Int.reduceEq, Int.reduceLT, Int.reduceLE, Int.reduceGT, Int.reduceGE, Int.reduceAdd, Int.reduceSub, Int.reduceMul, Int.reduceNeg, Int.reduceToNat, reduceCtorEq, reduceIte, hlt, GO_mapp, GO_mcall0, unhN, unhC, setT, setT0, getT, getT0, atT, atT0, c2, at_ap, n2, A1, A2, hr, u1, u2, A3]
        have lk := fr.l
        refine ihk (N - (k + 1)) _ _ _ (by omega) ⟨k + 1, _, by omega, rfl, fr'', ?_, ?_, ?_, rfl, rfl, rfl, rfl, rfl, ?_, rfl⟩
        · rw [e2 _ (by omega)]; exact (fr5.trans fr').at c2
        · rw [e2 _ (by omega)]; exact (fr5.trans fr').at c6
        · rw [part6_succ, ← hy]; exact e3
        · show I _ = I _; congr 1; omega
      obtain rfl : k = N := by omega
      simp (disch := first | assumption | omega | (simp only [az]; done)) only [ru, eq_self, if_true, if_false, BEq.rfl, binI, AO.row?, splice, fillL, mmAll, loadV, storeV, zeros, Am.rowAt, Am.part, addOff, Nat.reduceAdd, Nat.reduceMul, Nat.reduceLeDiff, Nat.reduceSub, Nat.reduceLT, Int.reduceEq, Int.reduceLT, Int.reduceLE, Int.reduceGT, Int.reduceGE, Int.reduceAdd, Int.reduceSub, Int.reduceMul, Int.reduceNeg, Int.reduceToNat, reduceCtorEq, reduceIte, hlt]
      rw [hex]
      exact ⟨fr, ho.deep (by omega)⟩
    exact key
where
  at_ap {α : Type} {l m : List α} {k : Nat} (h : k < l.length) : (l ++ m)[k]? = l[k]? := List.getElem?_append_left h
end Go.Proofs.Ytpflneddfhifkaa.S
