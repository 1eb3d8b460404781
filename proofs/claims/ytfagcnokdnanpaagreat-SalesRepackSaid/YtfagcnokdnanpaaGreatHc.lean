/-
The specification's packings (for SalesRepack, SalesPacked).
-/
import Derived.Test.YtfagcnokdnanpaaGreatGd
namespace Go.Proofs.YtfagcnokdnanpaaGreat.S
open Go Go.Am Go.Proofs.YtfagcnokdnanpaaGreat.T
set_option maxRecDepth 100000
set_option linter.unusedSimpArgs false
set_option linter.unusedVariables false
def pkL (ok : List Int → Bool) (n : Nat) : Nat → List Int → List (List Int)
  | 0, F => if ok F then [F] else []
  | d + 1, F => (List.range n).flatMap fun (b : Nat) => pkL ok n d (F ++ [(b : Int)])
def pkX (ok : List Int → Bool) (n d : Nat) (F : List Int) (j : Nat) : List (List Int) := (List.range j).flatMap fun (b : Nat) => pkL ok n d (F ++ [(b : Int)])
theorem pkX_succ {ok : List Int → Bool} {n d : Nat} {F : List Int} {j : Nat} : pkX ok n d F (j + 1) = pkX ok n d F j ++ pkL ok n d (F ++ [(j : Int)]) := by
  unfold pkX; rw [List.range_succ, List.flatMap_append]; simp
theorem pkL_len {ok : List Int → Bool} {n : Nat} : ∀ {d : Nat} {F : List Int}, (pkL ok n d F).length ≤ n ^ d
  | 0, F => by simp only [pkL]; split <;> simp
  | d + 1, F => by
    simp only [pkL]
    rw [Nat.pow_succ, Nat.mul_comm]
    have key : ∀ {l : List Nat} {m : Nat}, (∀ x ∈ l, (pkL ok n d (F ++ [(x : Int)])).length ≤ m) → (l.flatMap fun (b : Nat) => pkL ok n d (F ++ [(b : Int)])).length ≤ l.length * m := by
      intro l m
      induction l with
      | nil => simp
      | cons a l ih =>
        intro h
        have := h a (by simp)
        have := ih fun x hx => h x (by simp [hx])
        simp only [List.flatMap_cons, List.length_append, List.length_cons, Nat.succ_mul]; omega
    have := key (l := List.range n) (m := n ^ d) fun c _ => pkL_len
    rwa [List.length_range] at this
theorem pow46_le {n d : Nat} (hn : n ≤ 4) (hd : d ≤ 6) : n ^ d ≤ 4096 := by
  have h1 := Nat.pow_le_pow_left hn d
  have h2 := Nat.pow_le_pow_right (n := 4) (by omega) hd
  have : 4 ^ 6 = 4096 := by decide
  omega
theorem pkX_len {ok : List Int → Bool} {n d : Nat} {F : List Int} (hn : n ≤ 4) (hd : d ≤ 6) : ∀ {j : Nat}, (pkX ok n d F j).length ≤ j * 4096
  | 0 => by simp [pkX]
  | j + 1 => by
    have := pkX_len (ok := ok) (F := F) hn hd (j := j)
    have := Nat.le_trans (pkL_len (ok := ok) (n := n) (d := d) (F := F ++ [(j : Int)])) (pow46_le hn hd)
    rw [pkX_succ, List.length_append]; omega
section
variable {f : Fs} {k p b pv bv : AV} {w : Nat → AV}
set_option maxHeartbeats 4000000 in
theorem r95 (H : FsOk f k p b pv bv w) (G : FG f) : ∀ (d : Nat) (F : List Int) (fv : AV) (g : List AO) (lim : Nat), F.length + d = f.h.ps.length → RdS g fv F → lim ≤ g.length →
    ∃ v g', R E (.fn 95) [frV f k p b pv bv, fv] g lim = some (v, g') ∧ Fr g g' ∧ OutLL g.length g' v (pkL f.h.isP f.h.bs.length d F) := by
  have np := G.h.np; have nb := G.h.nb
  intro d
  induction d with
  | zero =>
    intro F fv g lim hd hF hlim
    have hl : (F.length : Int) = f.h.ps.length := by omega
    obtain ⟨f1, f2, f3⟩ := hF.len
    have a1 := fun st => s47 H.ho G.h (resL_is F) (by omega) st
    simp only [hsV] at a1
    have fw := (hF.fr (Fr.app g [(.cells [k, I f.h.fl, p, b, pv, I f.d, I f.n, bv] false : AO)])).view (st := false) (k := 7)
    have key : ∃ r g', R E (.fn 95) [frV f k p b pv bv, fv] g lim = some (r, g') ∧ (Fr g g' ∧ OutLL g.length g' r (pkL f.h.isP f.h.bs.length 0 F)) := by
      refine R_of _ (es _ _ _ _) e95 ?_
      simp only [f95, frV]
      cases c : f.h.isP F
      · have e0 : pkL f.h.isP f.h.bs.length 0 F = [] := by simp only [pkL, c]; rfl
        rw [e0]
        simp (disch := first | assumption | omega | (simp only [az]; done)) only [ru, eq_self, if_true, if_false, BEq.rfl, binI, AO.row?, splice, fillL, mmAll, loadV, storeV, zeros, Am.rowAt, Am.part, addOff, Nat.reduceAdd, Nat.reduceMul, Nat.reduceLeDiff, Nat.reduceSub, Nat.reduceLT, Int.reduceEq, Int.reduceLT, Int.reduceLE, Int.reduceGT, Int.reduceGE, Int.reduceAdd, Int.reduceSub, Int.reduceMul, Int.reduceNeg, Int.reduceToNat, reduceCtorEq, reduceIte, H.fai, Int.toNat_natCast, f1, f2, f3, fw, a1, c, hl, decide_true, Bool.not_false]
        exact ⟨Fr.app _ _, .inl ⟨rfl, rfl⟩⟩
      have e0 : pkL f.h.isP f.h.bs.length 0 F = [F] := by simp only [pkL, c, if_true]
      rw [e0]
      simp (disch := first | assumption | omega | (simp only [az]; done)) only [ru, eq_self, if_true, if_false, BEq.rfl, binI, AO.row?, splice, fillL, mmAll, loadV, storeV, zeros, Am.rowAt, Am.part, addOff, Nat.reduceAdd, Nat.reduceMul, Nat.reduceLeDiff, Nat.reduceSub, Nat.reduceLT, Int.reduceEq, Int.reduceLT, Int.reduceLE, Int.reduceGT, Int.reduceGE, Int.reduceAdd, Int.reduceSub, Int.reduceMul, Int.reduceNeg, Int.reduceToNat, reduceCtorEq, reduceIte, H.fai, Int.toNat_natCast, f1, f2, f3, fw, a1, c, hl, Bool.not_true, decide_true]
      refine ⟨by rw [List.append_assoc]; exact Fr.app _ _, .inr ⟨by simp, (g ++ [(.cells [k, I f.h.fl, p, b, pv, I f.d, I f.n, bv] false : AO)]).length, [fv], by simp, rfl, by simp, rfl, fun i hi => ?_⟩⟩
      have hi0 : i = 0 := by simp at hi; omega
      subst hi0
      simp only [get0]
      exact hF.fr (by rw [List.append_assoc]; exact Fr.app _ _)
    exact key
  | succ d ih =>
    intro F fv g lim hd hF hlim
    have hl : ¬ (F.length : Int) = f.h.ps.length := by omega
    obtain ⟨f1, f2, f3⟩ := hF.len
    have key : ∃ r g', R E (.fn 95) [frV f k p b pv bv, fv] g lim = some (r, g') ∧ (Fr g g' ∧ OutLL g.length g' r (pkL f.h.isP f.h.bs.length (d + 1) F)) := by
      refine R_of _ (es _ _ _ _) e95 ?_
      simp only [f95, frV]
      have e0 : pkL f.h.isP f.h.bs.length (d + 1) F = pkX f.h.isP f.h.bs.length d F f.h.bs.length := rfl
      rw [e0]
      obtain ⟨N, hN⟩ : ∃ N, N = f.h.bs.length := ⟨_, rfl⟩
      simp (disch := first | assumption | omega | (simp only [az]; done)) only [ru, eq_self, if_true, if_false, BEq.rfl, binI, AO.row?, splice, fillL, mmAll, loadV, storeV, zeros, Am.rowAt, Am.part, addOff, Nat.reduceAdd, Nat.reduceMul, Nat.reduceLeDiff, Nat.reduceSub, Nat.reduceLT, Int.reduceEq, Int.reduceLT, Int.reduceLE, Int.reduceGT, Int.reduceGE, Int.reduceAdd, Int.reduceSub, Int.reduceMul, Int.reduceNeg, Int.reduceToNat, reduceCtorEq, reduceIte, H.fai, Int.toNat_natCast, f1, f2, f3, hl, Bool.not_true, decide_false]
      refine G_loop_ind (fun m ts gk mk => ∃ (j : Nat) (o : AV), j ≤ f.h.bs.length ∧ m = f.h.bs.length - j ∧ Fr g gk ∧ gk[g.length]? = some (.cells [k, I f.h.fl, p, b, pv, I f.d, I f.n, bv] false) ∧ OutLL (g.length + 1) gk o (pkX f.h.isP f.h.bs.length d F j) ∧
        ts.length = 39 ∧ ts.getD 1 .undef = fv ∧ ts.getD 2 .undef = .ptr g.length 0 ∧ ts.getD 5 .undef = o ∧ ts.getD 6 .undef = I (j : Int) ∧ mk = []) ?_ _ _ _ _
        ⟨0, .nils, Nat.zero_le _, rfl, Fr.app _ _, by simp, .inl ⟨rfl, rfl⟩, rfl, rfl, rfl, rfl, rfl, rfl⟩
      rintro m ts gk mk ihk ⟨j, o, hjN, rfl, fr, c2, ho, hl', q1, q2, q5, q6, rfl⟩
      rw [lit_all hl']
      simp only [lit0, litS, Nat.reduceAdd, q1, q2, q5, q6]
      simp (disch := first | assumption | omega | (simp only [az]; done)) only [ru, eq_self, if_true, if_false, BEq.rfl, binI, AO.row?, splice, fillL, mmAll, loadV, storeV, zeros, Am.rowAt, Am.part, addOff, Nat.reduceAdd, Nat.reduceMul, Nat.reduceLeDiff, Nat.reduceSub, Nat.reduceLT, Int.reduceEq, Int.reduceLT, Int.reduceLE, Int.reduceGT, Int.reduceGE, Int.reduceAdd, Int.reduceSub, Int.reduceMul, Int.reduceNeg, Int.reduceToNat, reduceCtorEq, reduceIte, H.fai, Int.toNat_natCast, c2]
      by_cases hlt : (j : Int) < f.h.bs.length
      case pos =>
        have n2 := (List.getElem?_eq_some_iff.1 c2).1
        have hF' := hF.fr fr
        have fw := hF'.view (st := false) (k := 7)
        have hlk : lim ≤ gk.length := by have := fr.l; omega
        have lk := fr.l
        obtain ⟨q, x0, x1, hq, A1, hx'⟩ := app_one (lim := lim) hF' (by omega) hlk
        obtain ⟨y0, y1, sh, A2⟩ := app_two (lim := lim) (h := gk) (y := (j : Int)) hq hx' (by omega) hlk
        obtain ⟨H5, hH5⟩ : ∃ H5, H5 = gk ++ [y0, y1, .cells [I (j : Int)] false, .cells ((F ++ [(j : Int)]).flatMap fun n => [I n]) sh, .tomb] := ⟨_, rfl⟩
        rw [← hH5] at A2
        have l5 : H5.length = gk.length + 5 := by rw [hH5]; simp
        have t5 : H5[gk.length + 4]? = some .tomb := by rw [hH5, atT]; rfl
        have fr5 : Fr gk H5 := by rw [hH5]; exact Fr.app _ _
        have rd : RdS H5 (.ms 1 (gk.length + 3) 0 (F.length + 1)) (F ++ [(j : Int)]) := .inr ⟨by simp, gk.length + 3, sh, by simp, by rw [hH5, atT]; rfl⟩
        obtain ⟨v', h', hr, fr', ho'⟩ := ih (F ++ [(j : Int)]) (.ms 1 (gk.length + 3) 0 (F.length + 1)) H5 lim (by simp; omega) rd (by omega)
        have t5' : h'[gk.length + 4]? = some .tomb := fr'.at t5
        have u1 : H5.set (gk.length + 4) .tomb = H5 := set_same t5
        have u2 : h'.set (gk.length + 4) (H5.getD (gk.length + 4) .tomb) = h' := by
          rw [List.getD_eq_getElem?_getD, t5]; exact set_same t5'
        have lp := pkX_len (ok := f.h.isP) (n := f.h.bs.length) (d := d) (F := F) (by omega) (by omega) (j := j)
        have lc := Nat.le_trans (pkL_len (ok := f.h.isP) (n := f.h.bs.length) (d := d) (F := F ++ [(j : Int)])) (pow46_le (by omega) (by omega))
        obtain ⟨v'', h'', A3, e1, e2, e3⟩ := app_ll0 (lim := lim) (p := gk.length + 4) (ho.fr (fr5.trans fr')) (ho'.deep (by omega)) t5' (by omega) (by omega) (by omega)
        have fr'' : Fr g h'' := ⟨by have := fr'.l; omega, fun j hj => by rw [e2 j (by omega)]; exact (fr.trans (fr5.trans fr')).k j hj⟩
        simp only [frV] at hr
        simp (disch := first | assumption | omega | (simp only [az]; done)) only [ru, eq_self, if_true, if_false, BEq.rfl, binI, AO.row?, splice, fillL, mmAll, loadV, storeV, zeros, Am.rowAt, Am.part, addOff, Nat.reduceAdd, Nat.reduceMul, Nat.reduceLeDiff, Nat.reduceSub, Nat.reduceLT, Int.reduceEq, Int.reduceLT, Int.reduceLE, Int.reduceGT, Int.reduceGE, Int.reduceAdd, Int.reduceSub, Int.reduceMul, Int.reduceNeg, Int.reduceToNat, reduceCtorEq, reduceIte, H.fai, Int.toNat_natCast, hlt, fw, GO_mapp, GO_mcall0, unhN, unhC, setT, setT0, getT, getT0, atT, atT0, c2, at_ap, n2, A1, A2, hr, u1, u2, A3]
        refine ihk (f.h.bs.length - (j + 1)) _ _ _ (by omega) ⟨j + 1, _, by omega, rfl, fr'', ?_, ?_, rfl, rfl, rfl, rfl, rfl, rfl⟩
        · rw [e2 _ (by omega)]; exact (fr5.trans fr').at c2
        · rw [pkX_succ]; exact e3
      obtain rfl : j = f.h.bs.length := by omega
      simp (disch := first | assumption | omega | (simp only [az]; done)) only [ru, eq_self, if_true, if_false, BEq.rfl, binI, AO.row?, splice, fillL, mmAll, loadV, storeV, zeros, Am.rowAt, Am.part, addOff, Nat.reduceAdd, Nat.reduceMul, Nat.reduceLeDiff, Nat.reduceSub, Nat.reduceLT, Int.reduceEq, Int.reduceLT, Int.reduceLE, Int.reduceGT, Int.reduceGE, Int.reduceAdd, Int.reduceSub, Int.reduceMul, Int.reduceNeg, Int.reduceToNat, reduceCtorEq, reduceIte, hlt]
      exact ⟨fr, ho.deep (by omega)⟩
    exact key
theorem t95 (H : FsOk f k p b pv bv w) (G : FG f) (st : Bool) : Iso E 95 [frV f k p b pv bv, .nils] st = some (resLL (pkL f.h.isP f.h.bs.length f.h.ps.length [])) := by
  obtain ⟨v, g', hr, _, ho⟩ := r95 H G f.h.ps.length [] .nils [] 0 (by simp) (.inl ⟨rfl, rfl⟩) (Nat.zero_le _)
  simp only [Iso, hr]
  exact ho.view st
end
end Go.Proofs.YtfagcnokdnanpaaGreat.S
