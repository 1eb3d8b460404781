/-
The specification's lists of numbers.
-/
import Derived.Test.YtfagcnokdnanpaaGreatGa
namespace Go.Proofs.YtfagcnokdnanpaaGreat.S
open Go Go.Am Go.Proofs.YtfagcnokdnanpaaGreat.T
set_option maxRecDepth 100000
set_option linter.unusedSimpArgs false
set_option linter.unusedVariables false
def ris (k : Nat) (l : List Int) : Prop := (∀ x ∈ l, 0 ≤ x ∧ x < k) ∧ l.Pairwise (· < ·)
def frm (F : List Int) : Nat := if F.length = 0 then 0 else (F.getD (F.length - 1) 0).toNat + 1
def asc (k : Nat) : Nat → List Int → List (List Int)
  | 0, F => [F]
  | d + 1, F => (List.range' (frm F) (k - frm F)).flatMap fun (n : Nat) => asc k d (F ++ [(n : Int)])
theorem ris_snoc {k : Nat} {F : List Int} {x : Int} : ris k (F ++ [x]) ↔ ris k F ∧ ((frm F : Nat) : Int) ≤ x ∧ x < k := by
  have e : ris k F → (((frm F : Nat) : Int) ≤ x ↔ 0 ≤ x ∧ ∀ y ∈ F, y < x) := by
    intro hF
    unfold frm
    split
    · rename_i h
      rw [List.eq_nil_of_length_eq_zero h]; simp
    · rename_i h
      have hl : F.length - 1 < F.length := by omega
      have hm : F.getD (F.length - 1) 0 ∈ F := by rw [List.getD_eq_getElem?_getD, List.getElem?_eq_getElem hl]; exact List.getElem_mem hl
      have h0 := hF.1 _ hm
      constructor
      · intro hx
        refine ⟨by omega, fun y hy => ?_⟩
        obtain ⟨i, hi, rfl⟩ := mem_getD (d := 0) hy
        by_cases c : i = F.length - 1
        · subst c; omega
        · have := List.pairwise_iff_getElem.1 hF.2 i (F.length - 1) hi hl (by omega)
          simp only [List.getD_eq_getElem?_getD, List.getElem?_eq_getElem hi, List.getElem?_eq_getElem hl, Option.getD_some] at hx h0 ⊢
          omega
      · rintro ⟨_, h2⟩
        have := h2 _ hm
        omega
  simp only [ris, List.mem_append, List.mem_singleton, List.pairwise_append, List.pairwise_cons, List.not_mem_nil, false_implies, implies_true, List.Pairwise.nil, and_true, true_and, forall_eq]
  constructor
  · rintro ⟨h1, h2, h3⟩
    have hF : ris k F := ⟨fun y hy => h1 y (.inl hy), h2⟩
    have := h1 x (.inr rfl)
    exact ⟨hF, (e hF).2 ⟨this.1, fun y hy => h3 y hy⟩, this.2⟩
  · rintro ⟨hF, h2, h3⟩
    have := (e hF).1 h2
    refine ⟨fun y hy => ?_, hF.2, fun y hy => this.2 y hy⟩
    rcases hy with hy | rfl
    · exact hF.1 y hy
    · exact ⟨this.1, h3⟩
theorem asc_len {k : Nat} : ∀ {d : Nat} {F : List Int}, (asc k d F).length ≤ k ^ d
  | 0, F => by simp [asc]
  | d + 1, F => by
    have : ∀ l : List Nat, (l.flatMap fun (b : Nat) => asc k d (F ++ [(b : Int)])).length ≤ l.length * k ^ d := by
      intro l
      induction l with
      | nil => simp
      | cons a l il =>
        have := asc_len (k := k) (d := d) (F := F ++ [(a : Int)])
        simp only [List.flatMap_cons, List.length_append, List.length_cons, Nat.succ_mul]; omega
    have h1 := this (List.range' (frm F) (k - frm F))
    rw [List.length_range'] at h1
    have h2 := Nat.mul_le_mul_right (k ^ d) (Nat.sub_le k (frm F))
    rw [asc, Nat.pow_succ, Nat.mul_comm]; omega
theorem pow8_le {nb d : Nat} (hb : nb ≤ 8) (hd : d ≤ 4) : nb ^ d ≤ 4096 := by
  have h1 := Nat.pow_le_pow_left hb d
  have h2 := Nat.pow_le_pow_right (n := 8) (by omega) hd
  have : 8 ^ 4 = 4096 := by decide
  omega
theorem flat_headB {F : List Int} {i : Nat} (hi : i < F.length) : ((F.flatMap fun n => [I n]).drop i).head? = some (I (F.getD i 0)) := by
  induction F generalizing i with
  | nil => simp at hi
  | cons a F ih =>
    cases i with
    | zero => rfl
    | succ i => simpa using ih (i := i) (by simpa using hi)
def asP (below d : Nat) (F : List Int) (k : Nat) : List (List Int) := (List.range' (frm F) k).flatMap fun (n : Nat) => asc below d (F ++ [(n : Int)])
theorem asP_succ {below d : Nat} {F : List Int} {k : Nat} : asP below d F (k + 1) = asP below d F k ++ asc below d (F ++ [((frm F + k : Nat) : Int)]) := by
  unfold asP; rw [List.range'_concat, List.flatMap_append]; simp
theorem asP_len {below d : Nat} {F : List Int} (hb : below ≤ 8) (hd : d ≤ 4) : ∀ {k : Nat}, (asP below d F k).length ≤ k * 4096
  | 0 => by simp [asP]
  | k + 1 => by
    have := asP_len (F := F) hb hd (k := k)
    have := asc_len (k := below) (d := d) (F := F ++ [((frm F + k : Nat) : Int)])
    have := pow8_le hb hd
    rw [asP_succ, List.length_append]; omega
set_option maxHeartbeats 2000000 in
theorem r120 {many below : Nat} (hm : many ≤ 4) (hb : below ≤ 8) : ∀ (d : Nat) (F : List Int) (fv : AV) (h : List AO) (lim : Nat), F.length + d = many → ris below F → RdS h fv F → lim ≤ h.length →
    ∃ v h', R E (.fn 120) [fv, I many, I below] h lim = some (v, h') ∧ Fr h h' ∧ OutLL h.length h' v (asc below d F) := by
  intro d
  induction d with
  | zero =>
    intro F fv h lim hd hris hF hlim
    have hl : (F.length : Int) = many := by omega
    obtain ⟨f1, f2, f3⟩ := hF.len
    have key : ∃ r h', R E (.fn 120) [fv, I many, I below] h lim = some (r, h') ∧ (Fr h h' ∧ OutLL h.length h' r (asc below 0 F)) := by
      refine R_of _ (es _ _ _ _) e120 ?_
      simp only [f120]
      simp (disch := first | assumption | omega | (simp only [az]; done)) only [ru, eq_self, if_true, if_false, BEq.rfl, binI, AO.row?, splice, fillL, mmAll, loadV, storeV, zeros, Am.rowAt, Am.part, addOff, Nat.reduceAdd, Nat.reduceMul, Nat.reduceLeDiff, Nat.reduceSub, Nat.reduceLT, Int.reduceEq, Int.reduceLT, Int.reduceLE, Int.reduceGT, Int.reduceGE, Int.reduceAdd, Int.reduceSub, Int.reduceMul, Int.reduceNeg, Int.reduceToNat, reduceCtorEq, reduceIte, f1, f2, f3, hl, decide_true]
      refine ⟨Fr.app _ _, .inr ⟨by simp [asc], h.length, [fv], Nat.le_refl _, rfl, atE, rfl, fun i hi => ?_⟩⟩
      have hi0 : i = 0 := by simp [asc] at hi; omega
      subst hi0
      simp only [asc, get0]
      exact hF.fr (Fr.app _ _)
    exact key
  | succ d ih =>
    intro F fv h lim hd hris hF hlim
    have hl : ¬ (F.length : Int) = many := by omega
    obtain ⟨f1, f2, f3⟩ := hF.len
    have key : ∃ r h', R E (.fn 120) [fv, I many, I below] h lim = some (r, h') ∧ (Fr h h' ∧ OutLL h.length h' r (asc below (d + 1) F)) := by
      refine R_of _ (es _ _ _ _) e120 ?_
      simp only [f120]
      have hfrm : frm F ≤ below := by
        unfold frm; split
        · omega
        · have hmm : F.getD (F.length - 1) 0 ∈ F := getD_memI (by omega)
          have := hris.1 _ hmm
          omega
      simp (disch := first | assumption | omega | (simp only [az]; done)) only [ru, eq_self, if_true, if_false, BEq.rfl, binI, AO.row?, splice, fillL, mmAll, loadV, storeV, zeros, Am.rowAt, Am.part, addOff, Nat.reduceAdd, Nat.reduceMul, Nat.reduceLeDiff, Nat.reduceSub, Nat.reduceLT, Int.reduceEq, Int.reduceLT, Int.reduceLE, Int.reduceGT, Int.reduceGE, Int.reduceAdd, Int.reduceSub, Int.reduceMul, Int.reduceNeg, Int.reduceToNat, reduceCtorEq, reduceIte, f1, hl, decide_false]
      refine GC_join (fun ts hk mk => hk = h ∧ mk = [] ∧ ts.length = 44 ∧ ts.getD 0 .undef = fv ∧ ts.getD 1 .undef = I many ∧ ts.getD 2 .undef = I below ∧ ts.getD 7 .undef = I (frm F)) (fun hg => ?_) (fun hg => ?_) ?_
      · have hg' := of_decide_eq_true hg
        have hp : (0 : Int) ≤ (F.length : Int) - 1 := by omega
        have hp2 : (F.length : Int) - 1 < F.length := by omega
        have hmm : F.getD (F.length - 1) 0 ∈ F := getD_memI (by omega)
        have hb1 := hris.1 _ hmm
        have ef : (frm F : Int) = F.getD (F.length - 1) 0 + 1 := by unfold frm; rw [if_neg (by omega)]; omega
        have et : ((F.length : Int) - 1).toNat = F.length - 1 := by omega
        rcases hF with ⟨rfl, _⟩ | ⟨hne, oo, sh, rfl, hc⟩
        · simp at hg'
        have hh := flat_headB (F := F) (i := F.length - 1) (by omega)
        simp (disch := first | assumption | omega | (simp only [az]; done)) only [ru, eq_self, if_true, if_false, BEq.rfl, binI, AO.row?, splice, fillL, mmAll, loadV, storeV, zeros, Am.rowAt, Am.part, addOff, Nat.reduceAdd, Nat.reduceMul, Nat.reduceLeDiff, Nat.reduceSub, Nat.reduceLT, Int.reduceEq, Int.reduceLT, Int.reduceLE, Int.reduceGT, Int.reduceGE, Int.reduceAdd, Int.reduceSub, Int.reduceMul, Int.reduceNeg, Int.reduceToNat, reduceCtorEq, reduceIte, f1, hp, hp2, et, hc, hh, Nat.mul_one, G_skip_nil]
        rw [ef]
      · have hg' := of_decide_eq_false hg
        have ef : frm F = 0 := by unfold frm; rw [if_pos (by omega)]
        simp (disch := first | assumption | omega | (simp only [az]; done)) only [ru, eq_self, if_true, if_false, BEq.rfl, binI, AO.row?, splice, fillL, mmAll, loadV, storeV, zeros, Am.rowAt, Am.part, addOff, Nat.reduceAdd, Nat.reduceMul, Nat.reduceLeDiff, Nat.reduceSub, Nat.reduceLT, Int.reduceEq, Int.reduceLT, Int.reduceLE, Int.reduceGT, Int.reduceGE, Int.reduceAdd, Int.reduceSub, Int.reduceMul, Int.reduceNeg, Int.reduceToNat, reduceCtorEq, reduceIte, G_skip_nil]
        rw [ef]; rfl
      rintro ts hk0 mk0 ⟨e1, e2, tl, t0, t1, t2, t7⟩
      rw [e1, e2]
      clear e1 e2 hk0 mk0
      rw [lit_all tl]
      simp only [lit0, litS, Nat.reduceAdd, t0, t1, t2, t7]
      simp (disch := first | assumption | omega | (simp only [az]; done)) only [ru, eq_self, if_true, if_false, BEq.rfl, binI, AO.row?, splice, fillL, mmAll, loadV, storeV, zeros, Am.rowAt, Am.part, addOff, Nat.reduceAdd, Nat.reduceMul, Nat.reduceLeDiff, Nat.reduceSub, Nat.reduceLT, Int.reduceEq, Int.reduceLT, Int.reduceLE, Int.reduceGT, Int.reduceGE, Int.reduceAdd, Int.reduceSub, Int.reduceMul, Int.reduceNeg, Int.reduceToNat, reduceCtorEq, reduceIte]
      refine G_loop_ind (fun m ts hk mk => ∃ (k : Nat) (o : AV), k ≤ below - frm F ∧ m = below - frm F - k ∧ Fr h hk ∧ OutLL h.length hk o (asP below d F k) ∧
        ts.length = 44 ∧ ts.getD 0 .undef = fv ∧ ts.getD 1 .undef = I many ∧ ts.getD 2 .undef = I below ∧ ts.getD 8 .undef = o ∧ ts.getD 9 .undef = I (frm F + k : Nat) ∧ mk = []) ?_ _ _ _ _
        ⟨0, .nils, Nat.zero_le _, rfl, Fr.refl h, .inl ⟨rfl, rfl⟩, rfl, rfl, rfl, rfl, rfl, rfl, rfl⟩
      clear tl t0 t1 t2 t7 ts
      rintro m ts hk mk ihk ⟨k, o, hkN, rfl, fr, ho, hl', q0, q1, q2, q8, q9, rfl⟩
      rw [lit_all hl']
      simp only [lit0, litS, Nat.reduceAdd, q0, q1, q2, q8, q9]
      obtain ⟨y, hy⟩ : ∃ y : Nat, y = frm F + k := ⟨_, rfl⟩
      rw [← hy]
      by_cases hlt : (y : Int) < below
      case neg =>
        simp (disch := first | assumption | omega | (simp only [az]; done)) only [ru, eq_self, if_true, if_false, BEq.rfl, binI, AO.row?, splice, fillL, mmAll, loadV, storeV, zeros, Am.rowAt, Am.part, addOff, Nat.reduceAdd, Nat.reduceMul, Nat.reduceLeDiff, Nat.reduceSub, Nat.reduceLT, Int.reduceEq, Int.reduceLT, Int.reduceLE, Int.reduceGT, Int.reduceGE, Int.reduceAdd, Int.reduceSub, Int.reduceMul, Int.reduceNeg, Int.reduceToNat, reduceCtorEq, reduceIte, hlt]
        have hk' : k = below - frm F := by omega
        subst hk'
        exact ⟨fr, ho⟩
      have lk := fr.l
      have hF' := hF.fr fr
      obtain ⟨w, h1, A1, fr1, hl1, o1, ho1, rfl, hc1⟩ := cpyR (lim := lim) hF' (by omega) (by omega)
      have A2 := appV_ms (lim := lim) (h := h1 ++ [.cells [I (y : Int)] false]) (esz := 1) (eb := 8) (o := o1) (len := F.length) (n := 1) (x := .ms 1 h1.length 0 1) (c := F.flatMap intL) (xs := [I (y : Int)]) (sh := false) (by rw [at_ap (List.getElem?_eq_some_iff.1 hc1).1]; exact hc1) (by rw [flat_len intE]) rfl
        (by simp only [rowOf_ms, Am.rowAt, atE]; rfl) rfl rfl (by omega) (by omega) (by omega)
      rw [if_neg (by omega)] at A2
      obtain ⟨h2, hh2⟩ : ∃ h2, h2 = (h1 ++ [AO.cells [I (y : Int)] false]).set o1 .tomb ++ [AO.cells (F.flatMap intL ++ [I (y : Int)]) false] := ⟨_, rfl⟩
      rw [← hh2] at A2
      have l2 : h2.length = h1.length + 2 := by rw [hh2]; simp
      have e2 : (h1 ++ [AO.cells [I (y : Int)] false]).length = h1.length + 1 := by simp
      rw [e2] at A2
      have fr2 : Fr hk h2 := ⟨by omega, fun j hj => by rw [hh2, List.getElem?_append_left (by simp; omega), List.getElem?_set_ne (by omega), List.getElem?_append_left (by omega)]; exact fr1.k j hj⟩
      have rd : RdS h2 (.ms 1 (h1.length + 1) 0 (F.length + 1)) (F ++ [(y : Int)]) := .inr ⟨by simp, h1.length + 1, false, by simp, by
        rw [hh2, List.getElem?_append_right (by simp)]; simp [List.flatMap_append]⟩
      obtain ⟨v', h', hr, fr', ho'⟩ := ih (F ++ [(y : Int)]) (.ms 1 (h1.length + 1) 0 (F.length + 1)) h2 lim (by simp; omega) (ris_snoc.2 ⟨hris, by omega, hlt⟩) rd (by omega)
      have lp := asP_len (F := F) (d := d) (below := below) (by omega) (by omega) (k := k)
      have lc := Nat.le_trans (asc_len (k := below) (d := d) (F := F ++ [(y : Int)])) (pow8_le (by omega) (by omega))
      obtain ⟨v'', h'', A3, e3, e4, e5⟩ := app_llV (lim := lim) (ho.fr (fr2.trans fr')) (ho'.deep (by omega)) (by have := fr'.l; omega) (by omega) (by omega)
      simp (disch := first | assumption | omega | (simp only [az]; done)) only [ru, eq_self, if_true, if_false, BEq.rfl, binI, AO.row?, splice, fillL, mmAll, loadV, storeV, zeros, Am.rowAt, Am.part, addOff, Nat.reduceAdd, Nat.reduceMul, Nat.reduceLeDiff, Nat.reduceSub, Nat.reduceLT, Int.reduceEq, Int.reduceLT, Int.reduceLE, Int.reduceGT, Int.reduceGE, Int.reduceAdd, Int.reduceSub, Int.reduceMul, Int.reduceNeg, Int.reduceToNat, reduceCtorEq, reduceIte, hlt, A1, A2, exOp_call0, hr, A3]
      refine ihk (below - frm F - (k + 1)) _ _ _ (by omega) ⟨k + 1, _, by omega, rfl, ⟨by have := fr'.l; omega, fun j hj => ?_⟩, ?_, rfl, rfl, rfl, rfl, rfl, ?_, rfl⟩
      · rw [e4 j hj]; exact (fr.trans (fr2.trans fr')).k j hj
      · rw [asP_succ, ← hy]; exact e5
      · show I _ = I _; congr 1; omega
    exact key
end Go.Proofs.YtfagcnokdnanpaaGreat.S
