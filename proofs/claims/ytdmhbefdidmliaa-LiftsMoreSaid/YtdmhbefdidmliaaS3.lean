/-
The functions of both sides of stage 5, one after another (S3).
-/
import Derived.Test.YtdmhbefdidmliaaS2
import Derived.Test.YtdmhbefdidmliaaTab
import Derived.Test.YtdmhbefdidmliaaAmY
import Derived.Test.YtdmhbefdidmliaaS1

/-
Who is short: all lists of places, as the specification makes them.
-/
namespace Go.Proofs.Ytdmhbefdidmliaa.S
open Go Go.Am Go.Proofs.Ytdmhbefdidmliaa.T
set_option maxRecDepth 100000
set_option linter.unusedSimpArgs false
set_option linter.unusedVariables false

/-- a copy of a list that lies in the heap -/
theorem cpyR {h : List AO} {fv : AV} {F : List Int} {lim : Nat} (hF : RdS h fv F) (hb : F.length ≤ 1000) (hlim : lim ≤ h.length) :
    ∃ w h', appV lim (h ++ [.cells [] false]) 1 8 (.ms 1 h.length 0 0) fv = some (w, h') ∧ Fr h h' ∧ h.length < h'.length ∧ ∃ o, h.length ≤ o ∧ w = .ms 1 o 0 F.length ∧ h'[o]? = some (.cells (F.flatMap intL) false) := by
  have hr := (hF.fr (Fr.app h [.cells [] false])).row
  rw [appV_ms (n := F.length) (c := []) atE (by simp) hr.1 hr.2 (by rw [flat1]; omega) (flat_sc F) (by omega) (by omega) hlim]
  by_cases hz : F.length = 0
  · rw [if_pos hz]
    refine ⟨_, _, rfl, Fr.app _ _, by simp, h.length, Nat.le_refl _, by rw [hz], ?_⟩
    rw [List.eq_nil_of_length_eq_zero hz]; exact atE
  · rw [if_neg hz]
    refine ⟨_, _, rfl, ⟨by simp, fun j hj => ?_⟩, by simp, (h ++ [AO.cells [] false]).length, by simp, by rw [Nat.zero_add], ?_⟩
    · rw [List.getElem?_append_left (by simp; omega), List.getElem?_set_ne (by omega), List.getElem?_append_left hj]
    · rw [List.getElem?_append_right (by simp)]; simp
/-- lists behind lists -/
theorem app_llV {lim b : Nat} {h : List AO} {v x : AV} {L M : List (List Int)} (hL : OutLL b h v L) (hM : OutLL b h x M) (hb : b ≤ h.length) (hlim : lim ≤ b) (hlen : L.length + M.length ≤ 100000) :
    ∃ v' h', appV lim h 1 24 v x = some (v', h') ∧ h.length ≤ h'.length ∧ (∀ j, j < b → h'[j]? = h[j]?) ∧ OutLL b h' v' (L ++ M) := by
  have hsc : ∀ {vs : List AV} {K : List (List Int)}, vs.length = K.length → (∀ i, i < K.length → RdS h (vs.getD i .undef) (K.getD i [])) → vs.all AV.scalar = true := by
    intro vs K hl hr
    rw [List.all_eq_true]
    intro y hy
    obtain ⟨i, hi, rfl⟩ := List.mem_iff_getElem.1 hy
    have := (hr i (by omega)).len.2.2
    simpa [List.getD_eq_getElem?_getD, hi] using this
  rcases hM with ⟨rfl, rfl⟩ | ⟨hMn, o2, vs2, ho2, rfl, hc2, hl2, hr2⟩
  · refine ⟨v, h, ?_, Nat.le_refl _, fun _ _ => rfl, by simpa using hL⟩
    rcases hL with ⟨rfl, rfl⟩ | ⟨_, o, vs, _, rfl, _⟩
    · rfl
    · simp only [appV, lenOf_ms, lenOf_nils, rowOf_nils, List.length_nil, Nat.zero_mul, if_true]
  have hn : M.length ≠ 0 := fun e => hMn (List.eq_nil_of_length_eq_zero e)
  have hrow : Am.rowOf h (.ms 1 o2 0 M.length) = some vs2 := by
    simp only [rowOf_ms, Am.rowAt, hc2, Option.bind_some, AO.row?, List.drop_zero, Nat.mul_one, ← hl2, List.take_length, if_true]
  rcases hL with ⟨rfl, rfl⟩ | ⟨hne, o, vs, ho, rfl, hc, hl, hr⟩
  · refine ⟨_, _, by rw [appV_nil (n := M.length) rfl hrow (by omega) (hsc hl2 hr2) (by simp at hlen; omega) (by omega), if_neg hn], by simp, fun j hj => List.getElem?_append_left (by omega), .inr ⟨by simpa using hMn, h.length, vs2, hb, by simp, atE, by simpa using hl2, fun i hi => ?_⟩⟩
    simp only [List.nil_append] at hi ⊢
    exact (hr2 i hi).fr (Fr.app _ _)
  · have hnL : L.length ≠ 0 := fun e => hne (List.eq_nil_of_length_eq_zero e)
    have hz : ∃ z, vs.head? = some z ∧ ∀ i, z ≠ I i := by
      match vs, hl with
      | [], hl => simp at hl; omega
      | z :: vs, hl =>
        refine ⟨z, rfl, fun i e => ?_⟩
        have := hr 0 (by omega)
        simp only [get0] at this
        subst e
        rcases this with ⟨_, h⟩ | ⟨_, _, _, h, _⟩ <;> cases h
    obtain ⟨z, hz1, hz2⟩ := hz
    have ol := (List.getElem?_eq_some_iff.1 hc).1
    have k2 : ∀ {u : AV} {l : List Int}, RdS h u l → RdS (h.set o .tomb ++ [.cells (vs ++ vs2) false]) u l := by
      intro u l hu
      rcases hu with h1 | ⟨hne', o', sh, rfl, hc'⟩
      · exact .inl h1
      · refine .inr ⟨hne', o', sh, rfl, ?_⟩
        have ol' := (List.getElem?_eq_some_iff.1 hc').1
        have hoo : o ≠ o' := by
          rintro rfl
          rw [hc] at hc'
          simp only [Option.some.injEq, AO.cells.injEq] at hc'
          obtain ⟨rfl, _⟩ := hc'
          match l, hne' with
          | i :: l, _ => simp at hz1; exact hz2 i hz1.symm
        rw [List.getElem?_append_left (by simpa using ol'), List.getElem?_set_ne hoo, hc']
    refine ⟨_, _, by rw [appV_ms (c := vs) (n := M.length) hc (by omega) rfl hrow (by omega) (hsc hl2 hr2) (by omega) (by omega) (by omega), if_neg hn], by simp, fun j hj => by rw [List.getElem?_append_left (by simp; omega), List.getElem?_set_ne (by omega)],
      .inr ⟨by simp [hne], h.length, vs ++ vs2, hb, by simp, by rw [List.getElem?_append_right (by simp)]; simp, by simp [hl, hl2], fun i hi => ?_⟩⟩
    simp only [List.getD_eq_getElem?_getD]
    by_cases h1 : i < L.length
    · rw [List.getElem?_append_left (by omega), List.getElem?_append_left h1, ← List.getD_eq_getElem?_getD, ← List.getD_eq_getElem?_getD]
      exact k2 (hr i h1)
    · rw [List.getElem?_append_right (by omega), List.getElem?_append_right (by omega), ← List.getD_eq_getElem?_getD, ← List.getD_eq_getElem?_getD, hl]
      exact k2 (hr2 (i - L.length) (by simp at hi; omega))

theorem GC_join {X : Cx} {k : List KF} {ts : List AV} {h : List AO} {mk : List Nat} {a b : ACode} {v : Bool} (I : List AV → List AO → List Nat → Prop) (h1 : v = true → G { X with Q := fun ex s => ex = .nrm ∧ I s.tmps s.heap s.marks } a [] ts h mk)
    (h2 : v = false → G { X with Q := fun ex s => ex = .nrm ∧ I s.tmps s.heap s.marks } b [] ts h mk) (h3 : ∀ ts h mk, I ts h mk → G X .skip k ts h mk) : GC X (.bool v) a b k ts h mk := by
  cases v
  · exact G_cut I (h2 rfl) h3
  · exact G_cut I (h1 rfl) h3
/-- the lists with the next k numbers -/
def asP (below d : Nat) (F : List Int) (k : Nat) : List (List Int) := (List.range' (frm F) k).flatMap fun (n : Nat) => asc below d (F ++ [(n : Int)])
theorem asP_succ {below d : Nat} {F : List Int} {k : Nat} : asP below d F (k + 1) = asP below d F k ++ asc below d (F ++ [((frm F + k : Nat) : Int)]) := by
  unfold asP; rw [List.range'_concat, List.flatMap_append]; simp
theorem asP_len {below d : Nat} {F : List Int} (hb : below ≤ 6) (hd : d ≤ 4) : ∀ {k : Nat}, (asP below d F k).length ≤ k * 1296
  | 0 => by simp [asP]
  | k + 1 => by
    have := asP_len (F := F) hb hd (k := k)
    have := asc_len (k := below) (d := d) (F := F ++ [((frm F + k : Nat) : Int)])
    have := pow_le hb hd
    rw [asP_succ, List.length_append]; omega

set_option maxHeartbeats 2000000 in
theorem r105 {many below : Nat} (hm : many ≤ 4) (hb : below ≤ 4) : ∀ (d : Nat) (F : List Int) (fv : AV) (h : List AO) (lim : Nat), F.length + d = many → ris below F → RdS h fv F → lim ≤ h.length →
    ∃ v h', R E (.fn 105) [fv, I many, I below] h lim = some (v, h') ∧ Fr h h' ∧ OutLL h.length h' v (asc below d F) := by
  intro d
  induction d with
  | zero =>
    intro F fv h lim hd hris hF hlim
    have hl : (F.length : Int) = many := by omega
    obtain ⟨f1, f2, f3⟩ := hF.len
    have key : ∃ r h', R E (.fn 105) [fv, I many, I below] h lim = some (r, h') ∧ (Fr h h' ∧ OutLL h.length h' r (asc below 0 F)) := by
      refine R_of _ (es _ _ _ _) e105 ?_
      simp only [f105]
      simp (disch := first | assumption | omega | (simp only [az]; done)) only [ru, eq_self, if_true, if_false, BEq.rfl, binI, AO.row?, splice, fillL, mmAll, loadV, storeV, zeros, Am.rowAt, Am.part, addOff, Nat.reduceAdd, Nat.reduceMul, Nat.reduceLeDiff, Nat.reduceSub, Nat.reduceLT, Int.reduceEq, Int.reduceLT, Int.reduceLE, Int.reduceGT, Int.reduceGE, Int.reduceAdd, Int.reduceSub, Int.reduceMul, Int.reduceNeg, Int.reduceToNat, reduceCtorEq, reduceIte, f1, f2, f3, hl, decide_true]
      refine ⟨Fr.app _ _, .inr ⟨by simp [asc], h.length, [fv], Nat.le_refl _, rfl, atE, rfl, fun i hi => ?_⟩⟩
      have hi0 : i = 0 := by simp [asc] at hi; omega
      subst hi0
      simp only [asc, get0]
      exact hF.fr (Fr.app _ _)
    exact key
  | succ d ih =>
    intro F fv h lim hd hris hF hlim
    have hl : ¬ (F.length : Int) = many := by omega
    obtain ⟨f1, f2, f3⟩ := hF.len
    have key : ∃ r h', R E (.fn 105) [fv, I many, I below] h lim = some (r, h') ∧ (Fr h h' ∧ OutLL h.length h' r (asc below (d + 1) F)) := by
      refine R_of _ (es _ _ _ _) e105 ?_
      simp only [f105]
      have hfrm : frm F ≤ below := by
        unfold frm; split
        · omega
        · have hmm : F.getD (F.length - 1) 0 ∈ F := getD_memI (by omega)
          have := hris.1 _ hmm
          omega
      simp (disch := first | assumption | omega | (simp only [az]; done)) only [ru, eq_self, if_true, if_false, BEq.rfl, binI, AO.row?, splice, fillL, mmAll, loadV, storeV, zeros, Am.rowAt, Am.part, addOff, Nat.reduceAdd, Nat.reduceMul, Nat.reduceLeDiff, Nat.reduceSub, Nat.reduceLT, Int.reduceEq, Int.reduceLT, Int.reduceLE, Int.reduceGT, Int.reduceGE, Int.reduceAdd, Int.reduceSub, Int.reduceMul, Int.reduceNeg, Int.reduceToNat, reduceCtorEq, reduceIte, f1, hl, decide_false]
      refine GC_join (fun ts hk mk => hk = h ∧ mk = [] ∧ ts.length = 44 ∧ ts.getD 0 .undef = fv ∧ ts.getD 1 .undef = I many ∧ ts.getD 2 .undef = I below ∧ ts.getD 7 .undef = I (frm F)) (fun hg => ?_) (fun hg => ?_) ?_
      · have hg' := of_decide_eq_true hg
        have hp : (0 : Int) ≤ (F.length : Int) - 1 := by omega
        have hp2 : (F.length : Int) - 1 < F.length := by omega
        have hmm : F.getD (F.length - 1) 0 ∈ F := getD_memI (by omega)
        have hb1 := hris.1 _ hmm
        have ef : (frm F : Int) = F.getD (F.length - 1) 0 + 1 := by unfold frm; rw [if_neg (by omega)]; omega
        have et : ((F.length : Int) - 1).toNat = F.length - 1 := by omega
        rcases hF with ⟨rfl, _⟩ | ⟨hne, oo, sh, rfl, hc⟩
        · simp at hg'
        have hh := flat_head (F := F) (i := F.length - 1) (by omega)
        simp (disch := first | assumption | omega | (simp only [az]; done)) only [ru, eq_self, if_true, if_false, BEq.rfl, binI, AO.row?, splice, fillL, mmAll, loadV, storeV, zeros, Am.rowAt, Am.part, addOff, Nat.reduceAdd, Nat.reduceMul, Nat.reduceLeDiff, Nat.reduceSub, Nat.reduceLT, Int.reduceEq, Int.reduceLT, Int.reduceLE, Int.reduceGT, Int.reduceGE, Int.reduceAdd, Int.reduceSub, Int.reduceMul, Int.reduceNeg, Int.reduceToNat, reduceCtorEq, reduceIte, f1, hp, hp2, et, hc, hh, Nat.mul_one, G_skip_nil]
        rw [ef]
      · have hg' := of_decide_eq_false hg
        have ef : frm F = 0 := by unfold frm; rw [if_pos (by omega)]
        simp (disch := first | assumption | omega | (simp only [az]; done)) only [ru, eq_self, if_true, if_false, BEq.rfl, binI, AO.row?, splice, fillL, mmAll, loadV, storeV, zeros, Am.rowAt, Am.part, addOff, Nat.reduceAdd, Nat.reduceMul, Nat.reduceLeDiff, Nat.reduceSub, Nat.reduceLT, Int.reduceEq, Int.reduceLT, Int.reduceLE, Int.reduceGT, Int.reduceGE, Int.reduceAdd, Int.reduceSub, Int.reduceMul, Int.reduceNeg, Int.reduceToNat, reduceCtorEq, reduceIte, G_skip_nil]
        rw [ef]; rfl
      rintro ts hk0 mk0 ⟨e1, e2, tl, t0, t1, t2, t7⟩
      rw [e1, e2]
      clear e1 e2 hk0 mk0
      rw [lit_all tl]
      simp only [lit0, litS, Nat.reduceAdd, t0, t1, t2, t7]
      simp (disch := first | assumption | omega | (simp only [az]; done)) only [ru, eq_self, if_true, if_false, BEq.rfl, binI, AO.row?, splice, fillL, mmAll, loadV, storeV, zeros, Am.rowAt, Am.part, addOff, Nat.reduceAdd, Nat.reduceMul, Nat.reduceLeDiff, Nat.reduceSub, Nat.reduceLT, Int.reduceEq, Int.reduceLT, Int.reduceLE, Int.reduceGT, Int.reduceGE, Int.reduceAdd, Int.reduceSub, Int.reduceMul, Int.reduceNeg, Int.reduceToNat, reduceCtorEq, reduceIte]
      refine G_loop_ind (fun m ts hk mk => ∃ (k : Nat) (o : AV), k ≤ below - frm F ∧ m = below - frm F - k ∧ Fr h hk ∧ OutLL h.length hk o (asP below d F k) ∧
        ts.length = 44 ∧ ts.getD 0 .undef = fv ∧ ts.getD 1 .undef = I many ∧ ts.getD 2 .undef = I below ∧ ts.getD 8 .undef = o ∧ ts.getD 9 .undef = I (frm F + k : Nat) ∧ mk = []) ?_ _ _ _ _
        ⟨0, .nils, Nat.zero_le _, rfl, Fr.refl h, .inl ⟨rfl, rfl⟩, rfl, rfl, rfl, rfl, rfl, rfl, rfl⟩
      clear tl t0 t1 t2 t7 ts
      rintro m ts hk mk ihk ⟨k, o, hkN, rfl, fr, ho, hl', q0, q1, q2, q8, q9, rfl⟩
      rw [lit_all hl']
      simp only [lit0, litS, Nat.reduceAdd, q0, q1, q2, q8, q9]
      obtain ⟨y, hy⟩ : ∃ y : Nat, y = frm F + k := ⟨_, rfl⟩
      rw [← hy]
      by_cases hlt : (y : Int) < below
      case neg =>
        simp (disch := first | assumption | omega | (simp only [az]; done)) only [ru, eq_self, if_true, if_false, BEq.rfl, binI, AO.row?, splice, fillL, mmAll, loadV, storeV, zeros, Am.rowAt, Am.part, addOff, Nat.reduceAdd, Nat.reduceMul, Nat.reduceLeDiff, Nat.reduceSub, Nat.reduceLT, Int.reduceEq, Int.reduceLT, Int.reduceLE, Int.reduceGT, Int.reduceGE, Int.reduceAdd, Int.reduceSub, Int.reduceMul, Int.reduceNeg, Int.reduceToNat, reduceCtorEq, reduceIte, hlt]
        have hk' : k = below - frm F := by omega
        subst hk'
        exact ⟨fr, ho⟩
      have lk := fr.l
      have hF' := hF.fr fr
      obtain ⟨w, h1, A1, fr1, hl1, o1, ho1, rfl, hc1⟩ := cpyR (lim := lim) hF' (by omega) (by omega)
      have A2 := appV_ms (lim := lim) (h := h1 ++ [.cells [I (y : Int)] false]) (esz := 1) (eb := 8) (o := o1) (len := F.length) (n := 1) (x := .ms 1 h1.length 0 1) (c := F.flatMap intL) (xs := [I (y : Int)]) (sh := false) (by rw [at_ap (List.getElem?_eq_some_iff.1 hc1).1]; exact hc1) (by rw [flat_len intE]) rfl
        (by simp only [rowOf_ms, Am.rowAt, atE]; rfl) rfl rfl (by omega) (by omega) (by omega)
      rw [if_neg (by omega)] at A2
      obtain ⟨h2, hh2⟩ : ∃ h2, h2 = (h1 ++ [AO.cells [I (y : Int)] false]).set o1 .tomb ++ [AO.cells (F.flatMap intL ++ [I (y : Int)]) false] := ⟨_, rfl⟩
      rw [← hh2] at A2
      have l2 : h2.length = h1.length + 2 := by rw [hh2]; simp
      have e2 : (h1 ++ [AO.cells [I (y : Int)] false]).length = h1.length + 1 := by simp
      rw [e2] at A2
      have fr2 : Fr hk h2 := ⟨by omega, fun j hj => by rw [hh2, List.getElem?_append_left (by simp; omega), List.getElem?_set_ne (by omega), List.getElem?_append_left (by omega)]; exact fr1.k j hj⟩
      have rd : RdS h2 (.ms 1 (h1.length + 1) 0 (F.length + 1)) (F ++ [(y : Int)]) := .inr ⟨by simp, h1.length + 1, false, by simp, by
        rw [hh2, List.getElem?_append_right (by simp)]; simp [List.flatMap_append]⟩
      obtain ⟨v', h', hr, fr', ho'⟩ := ih (F ++ [(y : Int)]) (.ms 1 (h1.length + 1) 0 (F.length + 1)) h2 lim (by simp; omega) (ris_snoc.2 ⟨hris, by omega, hlt⟩) rd (by omega)
      have lp := asP_len (F := F) (d := d) (below := below) (by omega) (by omega) (k := k)
      have lc := Nat.le_trans (asc_len (k := below) (d := d) (F := F ++ [(y : Int)])) (pow_le (by omega) (by omega))
      obtain ⟨v'', h'', A3, e3, e4, e5⟩ := app_llV (lim := lim) (ho.fr (fr2.trans fr')) (ho'.deep (by omega)) (by have := fr'.l; omega) (by omega) (by omega)
      simp (disch := first | assumption | omega | (simp only [az]; done)) only [ru, eq_self, if_true, if_false, BEq.rfl, binI, AO.row?, splice, fillL, mmAll, loadV, storeV, zeros, Am.rowAt, Am.part, addOff, Nat.reduceAdd, Nat.reduceMul, Nat.reduceLeDiff, Nat.reduceSub, Nat.reduceLT, Int.reduceEq, Int.reduceLT, Int.reduceLE, Int.reduceGT, Int.reduceGE, Int.reduceAdd, Int.reduceSub, Int.reduceMul, Int.reduceNeg, Int.reduceToNat, reduceCtorEq, reduceIte, hlt, A1, A2, exOp_call0, hr, A3]
      refine ihk (below - frm F - (k + 1)) _ _ _ (by omega) ⟨k + 1, _, by omega, rfl, ⟨by have := fr'.l; omega, fun j hj => ?_⟩, ?_, rfl, rfl, rfl, rfl, rfl, ?_, rfl⟩
      · rw [e4 j hj]; exact (fr.trans (fr2.trans fr')).k j hj
      · rw [asP_succ, ← hy]; exact e5
      · show I _ = I _; congr 1; omega
    exact key
end Go.Proofs.Ytdmhbefdidmliaa.S

/-
Who is short, by the specification; copies of lists that are written to.
-/
namespace Go.Proofs.Ytdmhbefdidmliaa.S
open Go Go.Am Go.Proofs.Ytdmhbefdidmliaa.T
set_option maxRecDepth 100000
set_option linter.unusedSimpArgs false
set_option linter.unusedVariables false

theorem s105 {many below : Nat} (hm : many ≤ 4) (hb : below ≤ 4) (st : Bool) : Iso E 105 [.nils, I many, I below] st = some (resLL (asc below many [])) := by
  obtain ⟨v, h', hr, _, ho⟩ := r105 hm hb many [] .nils [] 0 (by simp) ⟨by simp, List.Pairwise.nil⟩ (.inl ⟨rfl, rfl⟩) (Nat.zero_le _)
  simp only [Iso, hr]
  exact ho.view st
theorem asc_le {many below : Nat} (hm : many ≤ 4) (hb : below ≤ 4) : (asc below many []).length ≤ 1296 := Nat.le_trans asc_len (pow_le (by omega) hm)

section
variable {s : Sea} {p b : AV}
set_option maxHeartbeats 2000000 in
theorem s69 (H : SeaOk s p b) : Iso E 69 [seaV s p b] false = some (shoR s) := by
  have g1 := fun st => s53 H st
  refine Iso_of (es _ _ _ _) e69 ?_
  simp only [f69, seaV, shoR] at g1 ⊢
  cases hv : s.valid
  · simp (disch := first | assumption | omega | (simp only [az]; done)) only [ru, eq_self, if_true, if_false, BEq.rfl, binI, AO.row?, splice, fillL, mmAll, loadV, storeV, zeros, Am.rowAt, Am.part, addOff, Nat.reduceAdd, Nat.reduceMul, Nat.reduceLeDiff, Nat.reduceSub, Nat.reduceLT, Int.reduceEq, Int.reduceLT, Int.reduceLE, Int.reduceGT, Int.reduceGE, Int.reduceAdd, Int.reduceSub, Int.reduceMul, Int.reduceNeg, Int.reduceToNat, reduceCtorEq, reduceIte, lenV_sl H.p, lenV_sl H.b, elem_sp H.p, elem_bt H.b, view_sl H.p, view_sl H.b, scalar_sl H.p, scalar_sl H.b, cells_sl H.p, cells_sl H.b, pure_sl H.p, pure_sl H.b, Int.toNat_natCast, g1, hv, vE, Bool.false_eq_true]
  have K := (valid_good hv).1
  have hle := K.sp.le
  have g2 := fun st => s101 H K st
  simp only [seaV] at g2
  obtain ⟨nv, hnv⟩ : ∃ nv, nv = resL (nds s) := ⟨_, rfl⟩
  have NV := resL_is (nds s)
  rw [← hnv] at NV
  simp only [← hnv] at g2
  have hun : ∀ {d f : Nat}, shtU s (d + 1) f = if f ≤ (fews s f).length then some ((fews s f).take f) else shtU s d (f + 1) := rfl
  simp (disch := first | assumption | omega | (simp only [az]; done)) only [ru, eq_self, if_true, if_false, BEq.rfl, binI, AO.row?, splice, fillL, mmAll, loadV, storeV, zeros, Am.rowAt, Am.part, addOff, Nat.reduceAdd, Nat.reduceMul, Nat.reduceLeDiff, Nat.reduceSub, Nat.reduceLT, Int.reduceEq, Int.reduceLT, Int.reduceLE, Int.reduceGT, Int.reduceGE, Int.reduceAdd, Int.reduceSub, Int.reduceMul, Int.reduceNeg, Int.reduceToNat, reduceCtorEq, reduceIte, lenV_sl H.p, lenV_sl H.b, elem_sp H.p, elem_bt H.b, view_sl H.p, view_sl H.b, scalar_sl H.p, scalar_sl H.b, cells_sl H.p, cells_sl H.b, pure_sl H.p, pure_sl H.b, Int.toNat_natCast, g1, g2, hv, vE]
  refine G_loop_ind (fun m ts h mk => ∃ (f : Nat), 1 ≤ f ∧ f ≤ s.pl.length + 1 ∧ m = s.pl.length + 1 - f ∧ sht s = shtU s (s.pl.length + 1 - f) f ∧ ts.length = 48 ∧ ts.getD 1 .undef = .ptr 0 0 ∧ ts.getD 5 .undef = nv ∧ ts.getD 6 .undef = I f ∧ h = [.cells [I s.w.lo, I s.w.hi, p, b] false] ∧ mk = []) ?_ _ _ _ _
    ⟨1, Nat.le_refl _, by omega, rfl, rfl, rfl, rfl, rfl, rfl, rfl, rfl⟩
  rintro m ts h mk ihf ⟨f, hf1, hf, rfl, es, hl', q1, q5, q6, rfl, rfl⟩
  rw [lit_all hl']
  simp only [lit0, litS, Nat.reduceAdd, q1, q5, q6]
  simp (disch := first | assumption | omega | (simp only [az]; done)) only [ru, eq_self, if_true, if_false, BEq.rfl, binI, AO.row?, splice, fillL, mmAll, loadV, storeV, zeros, Am.rowAt, Am.part, addOff, Nat.reduceAdd, Nat.reduceMul, Nat.reduceLeDiff, Nat.reduceSub, Nat.reduceLT, Int.reduceEq, Int.reduceLT, Int.reduceLE, Int.reduceGT, Int.reduceGE, Int.reduceAdd, Int.reduceSub, Int.reduceMul, Int.reduceNeg, Int.reduceToNat, reduceCtorEq, reduceIte, lenV_sl H.p, lenV_sl H.b, elem_sp H.p, elem_bt H.b, view_sl H.p, view_sl H.b, scalar_sl H.p, scalar_sl H.b, cells_sl H.p, cells_sl H.b, pure_sl H.p, pure_sl H.b, Int.toNat_natCast]
  by_cases hlt : (f : Int) ≤ s.pl.length
  case neg =>
    have e0 : s.pl.length + 1 - f = 0 := by omega
    rw [e0] at es
    rw [es]
    simp (disch := first | assumption | omega | (simp only [az]; done)) only [ru, eq_self, if_true, if_false, BEq.rfl, binI, AO.row?, splice, fillL, mmAll, loadV, storeV, zeros, Am.rowAt, Am.part, addOff, Nat.reduceAdd, Nat.reduceMul, Nat.reduceLeDiff, Nat.reduceSub, Nat.reduceLT, Int.reduceEq, Int.reduceLT, Int.reduceLE, Int.reduceGT, Int.reduceGE, Int.reduceAdd, Int.reduceSub, Int.reduceMul, Int.reduceNeg, Int.reduceToNat, reduceCtorEq, reduceIte, hlt, shtU]
  have gl := fun st => s105 (many := f) (below := s.pl.length) (by omega) (by omega) st
  have r0 : ris s.pl.length [] := ⟨by simp, List.Pairwise.nil⟩
  have hmem : ∀ l ∈ asc s.pl.length f [], ris s.pl.length l ∧ l.length = f := fun l hl => by
    obtain ⟨h1, T, h2, h3⟩ := (mem_asc r0).1 hl
    exact ⟨h1, by rw [h2]; simpa using h3⟩
  have hle2 := asc_le (many := f) (below := s.pl.length) (by omega) (by omega)
  have hfind := fun {i : Nat} => find_short (s := s) (f := f) hf1 (l := asc s.pl.length f []) rfl (i := i)
  have hnone := find_none (s := s) (f := f) hf1
  obtain ⟨L, hL⟩ : ∃ L, L = asc s.pl.length f [] := ⟨_, rfl⟩
  rw [← hL] at hmem hle2 hnone
  simp only [← hL] at gl hfind
  have LL := resLL_is L
  obtain ⟨lv, hlv⟩ : ∃ lv, lv = resLL L := ⟨_, rfl⟩
  rw [← hlv] at LL
  simp only [← hlv] at gl
  have ed : s.pl.length + 1 - f = (s.pl.length - f) + 1 := by omega
  rw [ed, hun] at es
  simp (disch := first | assumption | omega | (simp only [az]; done)) only [ru, eq_self, if_true, if_false, BEq.rfl, binI, AO.row?, splice, fillL, mmAll, loadV, storeV, zeros, Am.rowAt, Am.part, addOff, Nat.reduceAdd, Nat.reduceMul, Nat.reduceLeDiff, Nat.reduceSub, Nat.reduceLT, Int.reduceEq, Int.reduceLT, Int.reduceLE, Int.reduceGT, Int.reduceGE, Int.reduceAdd, Int.reduceSub, Int.reduceMul, Int.reduceNeg, Int.reduceToNat, reduceCtorEq, reduceIte, hlt, lenV_sl H.p, lenV_sl H.b, elem_sp H.p, elem_bt H.b, view_sl H.p, view_sl H.b, scalar_sl H.p, scalar_sl H.b, cells_sl H.p, cells_sl H.b, pure_sl H.p, pure_sl H.b, Int.toNat_natCast, view_nils, gl]
  clear hl' q1 q5 q6
  refine G_loop_ind (fun m ts h mk => ∃ (k : Nat), k ≤ L.length ∧ m = L.length - k ∧ (∀ j, j < k → shB s f (L.getD j []) = false) ∧ ts.length = 48 ∧ ts.getD 1 .undef = .ptr 0 0 ∧ ts.getD 5 .undef = nv ∧ ts.getD 6 .undef = I f ∧ ts.getD 7 .undef = lv ∧ ts.getD 8 .undef = I k ∧ h = [.cells [I s.w.lo, I s.w.hi, p, b] false] ∧ mk = []) ?_ _ _ _ _
    ⟨0, Nat.zero_le _, rfl, fun j h => by omega, rfl, rfl, rfl, rfl, rfl, rfl, rfl, rfl⟩
  rintro m ts h mk ihk ⟨k, hk, rfl, hno, hl', q1, q5, q6, q7, q8, rfl, rfl⟩
  rw [lit_all hl']
  simp only [lit0, litS, Nat.reduceAdd, q1, q5, q6, q7, q8]
  simp (disch := first | assumption | omega | (simp only [az]; done)) only [ru, eq_self, if_true, if_false, BEq.rfl, binI, AO.row?, splice, fillL, mmAll, loadV, storeV, zeros, Am.rowAt, Am.part, addOff, Nat.reduceAdd, Nat.reduceMul, Nat.reduceLeDiff, Nat.reduceSub, Nat.reduceLT, Int.reduceEq, Int.reduceLT, Int.reduceLE, Int.reduceGT, Int.reduceGE, Int.reduceAdd, Int.reduceSub, Int.reduceMul, Int.reduceNeg, Int.reduceToNat, reduceCtorEq, reduceIte, lenV_sl LL]
  by_cases hlt2 : (k : Int) < L.length
  case pos =>
    have hk' : k < L.length := by omega
    obtain ⟨m1, m2⟩ := hmem _ (getD_memL hk')
    have hfk := hfind hk'
    have hno' : ∀ {q : Bool}, shB s f (L.getD k []) = false → ∀ j, j < k + 1 → shB s f (L.getD j []) = false := fun hq j hj => by
      by_cases e : j = k
      · subst e; exact hq
      · exact hno j (by omega)
    obtain ⟨F, hF⟩ : ∃ F, F = L.getD k [] := ⟨_, rfl⟩
    rw [← hF] at m1 m2 hfk
    simp only [← hF] at hno'
    have FF := resL_is F
    have g46 := fun st => s46 NV FF (by omega) (by omega) (fun i hi => m1.1 _ (getD_memI hi)) st
    have g45 := fun st => s45 H (lea s F) st
    simp only [seaV] at g45
    by_cases hc : canN s (lea s F) < f
    · have hc' : (canN s (lea s F) : Int) < f := by omega
      obtain ⟨e1, e2⟩ := hfk (decide_eq_true hc) hno
      rw [if_pos e1] at es
      rw [es]
      simp (disch := first | assumption | omega | (simp only [az]; done)) only [ru, eq_self, if_true, if_false, BEq.rfl, binI, AO.row?, splice, fillL, mmAll, loadV, storeV, zeros, Am.rowAt, Am.part, addOff, Nat.reduceAdd, Nat.reduceMul, Nat.reduceLeDiff, Nat.reduceSub, Nat.reduceLT, Int.reduceEq, Int.reduceLT, Int.reduceLE, Int.reduceGT, Int.reduceGE, Int.reduceAdd, Int.reduceSub, Int.reduceMul, Int.reduceNeg, Int.reduceToNat, reduceCtorEq, reduceIte, lenV_sl H.p, lenV_sl H.b, elem_sp H.p, elem_bt H.b, view_sl H.p, view_sl H.b, scalar_sl H.p, scalar_sl H.b, cells_sl H.p, cells_sl H.b, pure_sl H.p, pure_sl H.b, Int.toNat_natCast, lenV_sl NV, elem_in NV, view_sl NV, scalar_sl NV, cells_sl NV, pure_sl NV, Int.toNat_natCast, hlt2, elem_ll LL, Int.toNat_natCast, ← hF, view_sl FF, g46, g45, hc', decide_true]
      rw [e2]
    · have hc' : ¬ (canN s (lea s F) : Int) < f := by omega
      simp (disch := first | assumption | omega | (simp only [az]; done)) only [ru, eq_self, if_true, if_false, BEq.rfl, binI, AO.row?, splice, fillL, mmAll, loadV, storeV, zeros, Am.rowAt, Am.part, addOff, Nat.reduceAdd, Nat.reduceMul, Nat.reduceLeDiff, Nat.reduceSub, Nat.reduceLT, Int.reduceEq, Int.reduceLT, Int.reduceLE, Int.reduceGT, Int.reduceGE, Int.reduceAdd, Int.reduceSub, Int.reduceMul, Int.reduceNeg, Int.reduceToNat, reduceCtorEq, reduceIte, lenV_sl H.p, lenV_sl H.b, elem_sp H.p, elem_bt H.b, view_sl H.p, view_sl H.b, scalar_sl H.p, scalar_sl H.b, cells_sl H.p, cells_sl H.b, pure_sl H.p, pure_sl H.b, Int.toNat_natCast, lenV_sl NV, elem_in NV, view_sl NV, scalar_sl NV, cells_sl NV, pure_sl NV, Int.toNat_natCast, hlt2, elem_ll LL, Int.toNat_natCast, ← hF, view_sl FF, g46, g45, hc', decide_false]
      exact ihk (L.length - (k + 1)) _ _ _ (by omega) ⟨k + 1, by omega, rfl, hno' (q := true) (decide_eq_false hc), rfl, rfl, rfl, rfl, rfl, rfl, rfl, rfl⟩
  obtain rfl : k = L.length := by omega
  have hlt3 := hnone fun l hl => by
    obtain ⟨j, hj, rfl⟩ := mem_getD (d := []) hl
    exact hno j hj
  rw [if_neg (by omega)] at es
  simp (disch := first | assumption | omega | (simp only [az]; done)) only [ru, eq_self, if_true, if_false, BEq.rfl, binI, AO.row?, splice, fillL, mmAll, loadV, storeV, zeros, Am.rowAt, Am.part, addOff, Nat.reduceAdd, Nat.reduceMul, Nat.reduceLeDiff, Nat.reduceSub, Nat.reduceLT, Int.reduceEq, Int.reduceLT, Int.reduceLE, Int.reduceGT, Int.reduceGE, Int.reduceAdd, Int.reduceSub, Int.reduceMul, Int.reduceNeg, Int.reduceToNat, reduceCtorEq, reduceIte, hlt2]
  refine ihf (s.pl.length + 1 - (f + 1)) _ _ _ (by omega) ⟨f + 1, by omega, by omega, rfl, ?_, rfl, rfl, rfl, rfl, rfl, rfl⟩
  rw [es]; congr 1; omega
end

/-! calls that lay what they make behind the caller's heap -/
noncomputable def C2 (E : Env) (f : Nat) (ws : List AV) (h : List AO) : Option (AV × List AO) :=
  if AV.pureV.go ws then (match R E (.fn f) ws [] 0 with
    | some (r, h') => some (r.shift h.length, h ++ h'.map (AO.shift h.length))
    | none => none)
  else (match ws.mapM (view false h 8) with
    | some vs => (match R E (.fn f) vs [] 0 with
      | some (r, h') => (view true h' 8 r).map fun r' => (r', h)
      | none => none)
    | none => none)
theorem exOp_call2 {E : Env} {lim : Nat} {pl : Option Nat} {ρ : Opd → AV} {h : List AO} {f : Nat} {args : List Opd} : exOp (R E) lim pl ρ h (.call 2 f args) = C2 E f (args.map ρ) h := by
  simp only [exOp, C2]
  rfl
theorem C2_of {f : Nat} {ws : List AV} {r : AV} {J h : List AO} (hp : AV.pureV.go ws = true) (hr : R E (.fn f) ws [] 0 = some (r, J)) : C2 E f ws h = some (r.shift h.length, h ++ J.map (AO.shift h.length)) := by
  simp only [C2, hp, hr, if_true]
theorem ints_shift (l : List Int) (n : Nat) : (l.flatMap intL).map (AV.shift n) = l.flatMap intL := by
  induction l with
  | nil => rfl
  | cons a l ih => simp only [List.flatMap_cons, List.map_append, ih]; rfl
theorem bts_shift (l : List Bt) (n : Nat) : (l.flatMap Bt.e).map (AV.shift n) = l.flatMap Bt.e := by
  induction l with
  | nil => rfl
  | cons a l ih => simp only [List.flatMap_cons, List.map_append, ih]; rfl
theorem spn_shift (l : List Spn) (n : Nat) : (l.flatMap Spn.e).map (AV.shift n) = l.flatMap Spn.e := by
  induction l with
  | nil => rfl
  | cons a l ih => simp only [List.flatMap_cons, List.map_append, ih]; rfl
theorem isNil_ne {α : Type} {esz : Nat} {enc : α → List AV} {l : List α} {v : AV} (V : IsSl esz enc l v) (hl : 0 < l.length) : ∃ n c, v = .cs esz (n + 1) c := by
  rcases V with rfl | ⟨rfl, rfl⟩
  · exact ⟨l.length - 1, _, by rw [Nat.sub_add_cancel hl]⟩
  · simp at hl
theorem c113 {l : List Int} {v : AV} (V : IsSl 1 intL l v) (h0 : 0 < l.length) (hl : l.length ≤ 1000) (H : List AO) : ∃ o H', C2 E 113 [v] H = some (.ms 1 o 0 l.length, H') ∧ Fr H H' ∧ H.length ≤ o ∧ H'[o]? = some (.cells (l.flatMap intL) false) := by
  obtain ⟨w, h', A, _, o, rfl, hc⟩ := cpyV (eb := 8) (lim := 0) (h := []) V intE intSc (by omega) (by omega) (Nat.zero_le _)
  simp only [List.nil_append, List.length_nil] at A
  have hr : R E (.fn 113) [v] [] 0 = some (.ms 1 o 0 l.length, h') := by
    obtain ⟨r, g, h1, rfl, rfl⟩ := R_of (E := E) (f := 113) (vs := [v]) (h := []) (lim := 0) (fun r g => r = .ms 1 o 0 l.length ∧ g = h') (es _ _ _ _) e113 (by
      obtain ⟨n, c, e⟩ := isNil_ne V h0
      simp only [f113]
      rw [e] at A ⊢
      simp (disch := first | assumption | omega | (simp only [az]; done)) only [ru, eq_self, if_true, if_false, BEq.rfl, binI, AO.row?, splice, fillL, mmAll, loadV, storeV, zeros, Am.rowAt, Am.part, addOff, Nat.reduceAdd, Nat.reduceMul, Nat.reduceLeDiff, Nat.reduceSub, Nat.reduceLT, Int.reduceEq, Int.reduceLT, Int.reduceLE, Int.reduceGT, Int.reduceGE, Int.reduceAdd, Int.reduceSub, Int.reduceMul, Int.reduceNeg, Int.reduceToNat, reduceCtorEq, reduceIte, pex_isNil, A])
    exact h1
  refine ⟨o + H.length, _, C2_of (by simp only [AV.pureV.go, pure_sl V, Bool.and_true]) hr, Fr.app _ _, by omega, ?_⟩
  rw [List.getElem?_append_right (by omega), Nat.add_sub_cancel, List.getElem?_map, hc]
  simp only [Option.map_some, AO.shift, ints_shift]
theorem c124 {l : List Bt} {v : AV} (V : IsSl 2 Bt.e l v) (h0 : 0 < l.length) (hl : l.length ≤ 1000) (H : List AO) : ∃ o H', C2 E 124 [v] H = some (.ms 2 o 0 l.length, H') ∧ Fr H H' ∧ H.length ≤ o ∧ H'[o]? = some (.cells (l.flatMap Bt.e) false) := by
  obtain ⟨w, h', A, _, o, rfl, hc⟩ := cpyV (eb := 16) (lim := 0) (h := []) V Bt.el Bt.sc (by omega) (by omega) (Nat.zero_le _)
  simp only [List.nil_append, List.length_nil] at A
  have hr : R E (.fn 124) [v] [] 0 = some (.ms 2 o 0 l.length, h') := by
    obtain ⟨r, g, h1, rfl, rfl⟩ := R_of (E := E) (f := 124) (vs := [v]) (h := []) (lim := 0) (fun r g => r = .ms 2 o 0 l.length ∧ g = h') (es _ _ _ _) e124 (by
      obtain ⟨n, c, e⟩ := isNil_ne V h0
      simp only [f124]
      rw [e] at A ⊢
      simp (disch := first | assumption | omega | (simp only [az]; done)) only [ru, eq_self, if_true, if_false, BEq.rfl, binI, AO.row?, splice, fillL, mmAll, loadV, storeV, zeros, Am.rowAt, Am.part, addOff, Nat.reduceAdd, Nat.reduceMul, Nat.reduceLeDiff, Nat.reduceSub, Nat.reduceLT, Int.reduceEq, Int.reduceLT, Int.reduceLE, Int.reduceGT, Int.reduceGE, Int.reduceAdd, Int.reduceSub, Int.reduceMul, Int.reduceNeg, Int.reduceToNat, reduceCtorEq, reduceIte, pex_isNil, A])
    exact h1
  refine ⟨o + H.length, _, C2_of (by simp only [AV.pureV.go, pure_sl V, Bool.and_true]) hr, Fr.app _ _, by omega, ?_⟩
  rw [List.getElem?_append_right (by omega), Nat.add_sub_cancel, List.getElem?_map, hc]
  simp only [Option.map_some, AO.shift, bts_shift]

/-! a copy of a sea -/
/-- a sea that lies in new memory -/
structure CpH (s : Sea) (h : List AO) (op ob : Nat) (pv bv : AV) : Prop where
  ne : op ≠ ob
  ep : pv = .ms 2 op 0 s.pl.length
  eb : bv = .ms 2 ob 0 s.bo.length
  p : h[op]? = some (.cells (s.pl.flatMap Spn.e) false)
  b : h[ob]? = some (.cells (s.bo.flatMap Bt.e) false)
abbrev cpV (s : Sea) : AV := seaV s (slV 2 Spn.e s.pl) (slV 2 Bt.e s.bo)
theorem CpH.view {s : Sea} {h : List AO} {op ob : Nat} {pv bv : AV} (H : CpH s h op ob pv bv) (st : Bool) {n : Nat} : Am.view st h (n + 2) (seaV s pv bv) = some (cpV s) := by
  have h1 : Am.view st h (n + 1) pv = some (slV 2 Spn.e s.pl) := RdC.view (enc := Spn.e) ⟨op, H.ep, H.p⟩ Spn.el Spn.iv
  have h2 : Am.view st h (n + 1) bv = some (slV 2 Bt.e s.bo) := RdC.view (enc := Bt.e) ⟨ob, H.eb, H.b⟩ Bt.el Bt.iv
  show ([I s.w.lo, I s.w.hi, pv, bv].mapM (Am.view st h (n + 1))).map AV.agg = _
  simp only [List.mapM_cons, List.mapM_nil, view_int, h1, h2]
  rfl
theorem cpV_in {s : Sea} : SeaIn s (slV 2 Spn.e s.pl) (slV 2 Bt.e s.bo) := ⟨slV_is, slV_is⟩
theorem cpyQ {α : Type} {enc : α → List AV} {esz eb : Nat} {l : List α} {v : AV} {h J : List AO} {lim : Nat} (hv : IsSl esz enc l v) (he : ∀ a, (enc a).length = esz) (hs : ∀ a, (enc a).all AV.scalar = true) (hb : l.length * eb ≤ 140737488355328) (heb : 1 ≤ eb) (hlim : lim ≤ h.length) :
    ∃ q x0 x1, q < 2 ∧ appG true lim (h.length + 1) esz eb (h ++ .cells [] false :: .tomb :: J) (.ms esz h.length 0 0) v = some (.ms esz (h.length + q) 0 l.length, h ++ x0 :: x1 :: J) ∧ [x0, x1][q]? = some (.cells (l.flatMap enc) false) := by
  by_cases hz : l.length = 0
  · have e : l = [] := List.eq_nil_of_length_eq_zero hz
    subst e
    refine ⟨0, .cells [] false, .tomb, by omega, ?_, rfl⟩
    have hr : Am.rowOf (h ++ .cells [] false :: .tomb :: J) v = some [] := rowOf_sl hv _
    rw [appG_zero (sl := 0) rfl (lenOf_sl hv) hr]; rfl
  · refine ⟨1, .ro [], .cells (l.flatMap enc) false, by omega, ?_, rfl⟩
    rw [appG_ms (c := []) hz atA0 (by simp) (lenOf_sl hv) (rowOf_sl hv _) (flat_len he l) (scal_sl hs l) (by simpa using hb) heb hlim, setT0, setT]
    simp
set_option maxHeartbeats 2000000 in
theorem r40 {s : Sea} {p b : AV} (H : SeaOk s p b) : ∃ pv bv J op ob, R E (.fn 40) [seaV s p b] [] 0 = some (seaV s pv bv, J) ∧ CpH s J op ob pv bv := by
  have sp := H.sp; have sb := H.sb
  obtain ⟨q, x0, x1, hq, A, hx⟩ := cpyQ (eb := 16) (lim := 0) (h := [.cells [I s.w.lo, I s.w.hi, p, b] false, .cells [I 0, I 0, .nils, .nils] false]) (J := [.tomb, .tomb]) H.p Spn.el Spn.sc (by omega) (by omega) (Nat.zero_le _)
  obtain ⟨q', y0, y1, hq', A', hy⟩ := cpyQ (eb := 16) (lim := 0) (h := [.cells [I s.w.lo, I s.w.hi, p, b] false, .cells [I 0, I 0, .nils, .nils] false, x0, x1]) (J := []) H.b Bt.el Bt.sc (by omega) (by omega) (Nat.zero_le _)
  simp only [List.length_cons, List.length_nil, Nat.zero_add, Nat.reduceAdd, apC, apN] at A A'
  refine (fun x => ?_ : (∃ r h', R E (.fn 40) [seaV s p b] [] 0 = some (r, h') ∧ (r = seaV s (.ms 2 (2 + q) 0 s.pl.length) (.ms 2 (4 + q') 0 s.bo.length) ∧ CpH s h' (2 + q) (4 + q') (.ms 2 (2 + q) 0 s.pl.length) (.ms 2 (4 + q') 0 s.bo.length))) → _) (R_of _ (es _ _ _ _) e40 ?_)
  · obtain ⟨r, h', hr, rfl, hc⟩ := x; exact ⟨_, _, h', _, _, hr, hc⟩
  simp only [f40, seaV]
  simp (disch := first | assumption | omega | (simp only [az]; done)) only [ru, eq_self, if_true, if_false, BEq.rfl, binI, AO.row?, splice, fillL, mmAll, loadV, storeV, zeros, Am.rowAt, Am.part, addOff, Nat.reduceAdd, Nat.reduceMul, Nat.reduceLeDiff, Nat.reduceSub, Nat.reduceLT, Int.reduceEq, Int.reduceLT, Int.reduceLE, Int.reduceGT, Int.reduceGE, Int.reduceAdd, Int.reduceSub, Int.reduceMul, Int.reduceNeg, Int.reduceToNat, reduceCtorEq, reduceIte, lenV_sl H.p, lenV_sl H.b, elem_sp H.p, elem_bt H.b, view_sl H.p, view_sl H.b, scalar_sl H.p, scalar_sl H.b, cells_sl H.p, cells_sl H.b, pure_sl H.p, pure_sl H.b, Int.toNat_natCast, GO_mapp, unhN, unhC, A, A', finC, getRes, Option.some.injEq, exists_eq_left']
  refine ⟨by omega, rfl, rfl, ?_, ?_⟩
  · match q, hq with
    | 0, _ => simpa using hx
    | 1, _ => simpa using hx
  · match q', hq' with
    | 0, _ => simpa using hy
    | 1, _ => simpa using hy
theorem s40 {s : Sea} {p b : AV} (H : SeaOk s p b) (st : Bool) : Iso E 40 [seaV s p b] st = some (cpV s) := by
  obtain ⟨pv, bv, J, op, ob, hr, hc⟩ := r40 H
  simp only [Iso, hr]
  exact hc.view st
end Go.Proofs.Ytdmhbefdidmliaa.S

/-
A boat that can carry one pound more: on both sides; Helps.
-/
namespace Go.Proofs.Ytdmhbefdidmliaa.S
open Go Go.Am Go.Proofs.Ytdmhbefdidmliaa.T
set_option maxRecDepth 100000
set_option linter.unusedSimpArgs false
set_option linter.unusedVariables false

theorem bt_head {l : List Bt} {i : Nat} (hi : i < l.length) : ((l.flatMap Bt.e).drop (i * 2)).head? = some (I (l.getD i default).c) ∧ ((l.flatMap Bt.e).drop (i * 2)).take 2 = [I (l.getD i default).c, I (l.getD i default).p] := by
  induction l generalizing i with
  | nil => simp at hi
  | cons a l ih =>
    cases i with
    | zero => exact ⟨rfl, rfl⟩
    | succ i =>
      have e : (i + 1) * 2 = i * 2 + 1 + 1 := by omega
      rw [e]
      exact ih (i := i) (by simpa using hi)
theorem bt_put {l : List Bt} {i : Nat} (hi : i < l.length) (x : Int) : (l.flatMap Bt.e).take (i * 2) ++ [I x] ++ (l.flatMap Bt.e).drop (i * 2 + 1) = (l.set i ⟨x, (l.getD i default).p⟩).flatMap Bt.e := by
  induction l generalizing i with
  | nil => simp at hi
  | cons a l ih =>
    cases i with
    | zero => rfl
    | succ i =>
      have e : (i + 1) * 2 = i * 2 + 1 + 1 := by omega
      have := ih (i := i) (by simpa using hi)
      rw [e]
      show I a.c :: I a.p :: ((l.flatMap Bt.e).take (i * 2) ++ [I x] ++ (l.flatMap Bt.e).drop (i * 2 + 1)) = _
      rw [this]; rfl
theorem bt_put2 {l : List Bt} {i : Nat} (hi : i < l.length) (x y : Int) : (l.flatMap Bt.e).take (i * 2) ++ [I x, I y] ++ (l.flatMap Bt.e).drop (i * 2 + 2) = (l.set i ⟨x, y⟩).flatMap Bt.e := by
  induction l generalizing i with
  | nil => simp at hi
  | cons a l ih =>
    cases i with
    | zero => rfl
    | succ i =>
      have e : (i + 1) * 2 = i * 2 + 1 + 1 := by omega
      have := ih (i := i) (by simpa using hi)
      rw [e]
      show I a.c :: I a.p :: ((l.flatMap Bt.e).take (i * 2) ++ [I x, I y] ++ (l.flatMap Bt.e).drop (i * 2 + 2)) = _
      rw [this]; rfl
theorem strg_good {s : Sea} (K : SeaG s) (hc : ∀ x ∈ s.bo, x.c ≤ 999) {i : Nat} (hi : i < s.bo.length) : SeaG (strg s i) := by
  refine ⟨K.sp, K.w0, K.w1, K.w2, by simp only [strg, List.length_set]; exact K.nb, fun x hx => ?_⟩
  rcases List.mem_or_eq_of_mem_set hx with h | h
  · exact K.b x h
  · subst h
    have h1 := K.b _ (getD_mem hi)
    have h2 := hc _ (getD_mem hi)
    exact ⟨by show 0 ≤ _ + 1; omega, by show _ + 1 ≤ 1000; omega, h1.2.2.1, h1.2.2.2⟩
section
variable {s : Sea} {p b : AV}

set_option maxHeartbeats 2000000 in
theorem s114 (H : SeaOk s p b) (hb : ∀ x ∈ s.bo, 0 ≤ x.c ∧ x.c ≤ 1000) {i : Nat} (hi : i < s.bo.length) : Iso E 114 [seaV s p b, I i] false = some (seaV (strg s i) p (slV 2 Bt.e (strg s i).bo)) := by
  have sb := H.sb
  obtain ⟨o, H', hC, fr, hoo, hc⟩ := c124 H.b (by omega) (by omega) [.cells [I s.w.lo, I s.w.hi, p, b] false, .cells [I 0, I 0, .nils, .nils] false]
  have h0 : H'[0]? = some (.cells [I s.w.lo, I s.w.hi, p, b] false) := fr.at rfl
  have h1 : H'[1]? = some (.cells [I 0, I 0, .nils, .nils] false) := fr.at rfl
  simp only [List.length_cons, List.length_nil] at hoo
  have hlt : (i : Int) < s.bo.length := by omega
  have ol := (List.getElem?_eq_some_iff.1 hc).1
  obtain ⟨H2, hH2⟩ : ∃ H2, H2 = H'.set 0 (.cells [I s.w.lo, I s.w.hi, p, .ms 2 o 0 s.bo.length] false) := ⟨_, rfl⟩
  have k0 : H2[0]? = some (.cells [I s.w.lo, I s.w.hi, p, .ms 2 o 0 s.bo.length] false) := by rw [hH2, List.getElem?_set_self (by omega)]
  have k1 : H2[1]? = some (.cells [I 0, I 0, .nils, .nils] false) := by rw [hH2, List.getElem?_set_ne (by omega)]; exact h1
  have k2 : H2[o]? = some (.cells (s.bo.flatMap Bt.e) false) := by rw [hH2, List.getElem?_set_ne (by omega)]; exact hc
  have l2 : H2.length = H'.length := by rw [hH2]; simp
  have bh := (bt_head hi).1
  have bp := bt_put hi ((s.bo.getD i default).c + 1)
  have bl : (s.bo.flatMap Bt.e).length = s.bo.length * 2 := flat_len Bt.el _
  have hb' := hb _ (getD_mem hi)
  have fit : i * 2 + 1 ≤ (s.bo.flatMap Bt.e).length := by omega
  refine Iso_of (es _ _ _ _) e114 ?_
  simp only [f114, seaV]
  obtain ⟨bc, hbc⟩ : ∃ bc, bc = (s.bo.getD i default).c := ⟨_, rfl⟩
  rw [← hbc] at bh bp hb'
  obtain ⟨row, hrow⟩ : ∃ row, row = s.bo.flatMap Bt.e := ⟨_, rfl⟩
  rw [← hrow] at bh bp k2 fit
  obtain ⟨H3, hH3⟩ : ∃ H3, H3 = H2.set o (.cells (row.take (i * 2) ++ [I (bc + 1)] ++ row.drop (i * 2 + 1)) false) := ⟨_, rfl⟩
  have m0 : H3[0]? = some (.cells [I s.w.lo, I s.w.hi, p, .ms 2 o 0 s.bo.length] false) := by rw [hH3, List.getElem?_set_ne (by omega)]; exact k0
  have m1 : H3[1]? = some (.cells [I 0, I 0, .nils, .nils] false) := by rw [hH3, List.getElem?_set_ne (by omega)]; exact k1
  have m2 : H3[o]? = some (.cells ((strg s i).bo.flatMap Bt.e) false) := by rw [hH3, List.getElem?_set_self (by omega), bp, hbc]; rfl
  obtain ⟨H4, hH4⟩ : ∃ H4, H4 = H3.set 1 (.cells [I s.w.lo, I s.w.hi, p, .ms 2 o 0 s.bo.length] false) := ⟨_, rfl⟩
  have l3 : H3.length = H'.length := by rw [hH3]; simp [l2]
  have n1 : H4[1]? = some (.cells [I s.w.lo, I s.w.hi, p, .ms 2 o 0 s.bo.length] false) := by rw [hH4, List.getElem?_set_self (by omega)]
  have n2 : H4[o]? = some (.cells ((strg s i).bo.flatMap Bt.e) false) := by rw [hH4, List.getElem?_set_ne (by omega)]; exact m2
  have el : s.bo.length = (strg s i).bo.length := by simp [strg]
  have vw : view false H4 7 (.ms 2 o 0 s.bo.length) = some (slV 2 Bt.e (strg s i).bo) := RdC.view (enc := Bt.e) ⟨o, by rw [el], n2⟩ Bt.el Bt.iv
  have ew : (strg s i).w = s.w := rfl
  simp (disch := first | assumption | omega | (simp only [az]; done)) only [ru, eq_self, if_true, if_false, BEq.rfl, binI, AO.row?, splice, fillL, mmAll, loadV, storeV, zeros, Am.rowAt, Am.part, addOff, Nat.reduceAdd, Nat.reduceMul, Nat.reduceLeDiff, Nat.reduceSub, Nat.reduceLT, Int.reduceEq, Int.reduceLT, Int.reduceLE, Int.reduceGT, Int.reduceGE, Int.reduceAdd, Int.reduceSub, Int.reduceMul, Int.reduceNeg, Int.reduceToNat, reduceCtorEq, reduceIte, lenV_sl H.p, lenV_sl H.b, elem_sp H.p, elem_bt H.b, view_sl H.p, view_sl H.b, scalar_sl H.p, scalar_sl H.b, cells_sl H.p, cells_sl H.b, pure_sl H.p, pure_sl H.b, Int.toNat_natCast, exOp_call2, hC, h0, ← hH2, k0, k2, hlt, bh, fit, ← hH3, m0, m1, finC, getRes, Option.some.injEq, exists_eq_left', ← hH4, n1, vw, ew]

theorem c40 (H : SeaOk s p b) (h : List AO) : ∃ pv bv op ob h', C2 E 40 [seaV s p b] h = some (seaV s pv bv, h') ∧ Fr h h' ∧ h.length ≤ op ∧ h.length ≤ ob ∧ CpH s h' op ob pv bv := by
  obtain ⟨pv, bv, J, op, ob, hr, hne, ep, eb, hp, hb⟩ := r40 H
  have hpu : AV.pureV.go [seaV s p b] = true := by simp only [AV.pureV.go, AV.pureV, pure_sl H.p, pure_sl H.b, Bool.and_true]
  have hc := C2_of (h := h) hpu hr
  refine ⟨_, _, op + h.length, ob + h.length, _, hc, Fr.app _ _, by omega, by omega, by omega, by rw [ep]; rfl, by rw [eb]; rfl, ?_, ?_⟩
  · rw [List.getElem?_append_right (by omega), Nat.add_sub_cancel, List.getElem?_map, hp]
    simp only [Option.map_some, AO.shift, spn_shift]
  · rw [List.getElem?_append_right (by omega), Nat.add_sub_cancel, List.getElem?_map, hb]
    simp only [Option.map_some, AO.shift, bts_shift]

set_option maxHeartbeats 2000000 in
theorem s41 (H : SeaOk s p b) (hb : ∀ x ∈ s.bo, 0 ≤ x.c ∧ x.c ≤ 1000) {i : Nat} (hi : i < s.bo.length) : Iso E 41 [seaV s p b, I i] false = some (cpV (strg s i)) := by
  have sb := H.sb
  obtain ⟨pv, bv, op, ob, H', hC, fr, hop, hob, CP⟩ := c40 H [.cells [I s.w.lo, I s.w.hi, p, b] false, .cells [I 0, I 0, .nils, .nils] false]
  have h0 : H'[0]? = some (.cells [I s.w.lo, I s.w.hi, p, b] false) := fr.at rfl
  have h1 : H'[1]? = some (.cells [I 0, I 0, .nils, .nils] false) := fr.at rfl
  simp only [List.length_cons, List.length_nil] at hop hob
  have hlt : (i : Int) < s.bo.length := by omega
  have ol := (List.getElem?_eq_some_iff.1 CP.b).1
  have ol' := (List.getElem?_eq_some_iff.1 CP.p).1
  have hne := CP.ne
  have epv := CP.ep; have ebv := CP.eb
  have bh := (bt_head hi).2
  have bp := bt_put2 hi ((s.bo.getD i default).c + 1) (s.bo.getD i default).p
  have bl : (s.bo.flatMap Bt.e).length = s.bo.length * 2 := flat_len Bt.el _
  have hb' := hb _ (getD_mem hi)
  have fit : i * 2 + 2 ≤ (s.bo.flatMap Bt.e).length := by omega
  have cb := CP.b
  -- the copy lies at its place, a boat behind it
  obtain ⟨H2, hH2⟩ : ∃ H2, H2 = (H' ++ [AO.cells [I s.w.lo, I s.w.hi, pv, bv] false]) := ⟨_, rfl⟩
  have fr2 : Fr H' H2 := by rw [hH2]; exact Fr.app _ _
  have l2 : H2.length = H'.length + 1 := by rw [hH2]; simp
  have k5 : H2[H'.length]? = some (.cells [I s.w.lo, I s.w.hi, pv, bv] false) := by rw [hH2]; exact atE
  obtain ⟨x, hx⟩ : ∃ x, x = s.bo.getD i default := ⟨_, rfl⟩
  rw [← hx] at bh bp hb'
  obtain ⟨row, hrow⟩ : ∃ row, row = s.bo.flatMap Bt.e := ⟨_, rfl⟩
  rw [← hrow] at bh bp fit
  have k2 : H2[ob]? = some (.cells row false) := by rw [hrow]; exact fr2.at cb
  obtain ⟨H3, hH3⟩ : ∃ H3, H3 = H2 ++ [AO.cells [I (x.c + 1), I x.p] false] := ⟨_, rfl⟩
  have fr3 : Fr H2 H3 := by rw [hH3]; exact Fr.app _ _
  have l3 : H3.length = H'.length + 2 := by rw [hH3]; simp [l2]
  have m5 := fr3.at k5
  have m2 := fr3.at k2
  have m6 : H3[H'.length + 1]? = some (.cells [I (x.c + 1), I x.p] false) := by rw [hH3, ← l2]; exact atE
  obtain ⟨H4, hH4⟩ : ∃ H4, H4 = H3.set ob (.cells (row.take (i * 2) ++ [I (x.c + 1), I x.p] ++ row.drop (i * 2 + 2)) false) := ⟨_, rfl⟩
  have q5 : H4[H'.length]? = some (.cells [I s.w.lo, I s.w.hi, pv, bv] false) := by rw [hH4, List.getElem?_set_ne (by omega)]; exact m5
  have q1 : H4[1]? = some (.cells [I 0, I 0, .nils, .nils] false) := by rw [hH4, List.getElem?_set_ne (by omega)]; exact fr3.at (fr2.at h1)
  have l4 : H4.length = H'.length + 2 := by rw [hH4]; simp [l3]
  have qb : H4[ob]? = some (.cells ((strg s i).bo.flatMap Bt.e) false) := by rw [hH4, List.getElem?_set_self (by omega), bp, hx]; rfl
  have qp : H4[op]? = some (.cells (s.pl.flatMap Spn.e) false) := by rw [hH4, List.getElem?_set_ne (by omega)]; exact fr3.at (fr2.at CP.p)
  obtain ⟨H5, hH5⟩ : ∃ H5, H5 = H4.set 1 (.cells [I s.w.lo, I s.w.hi, pv, bv] false) := ⟨_, rfl⟩
  have n1 : H5[1]? = some (.cells [I s.w.lo, I s.w.hi, pv, bv] false) := by rw [hH5, List.getElem?_set_self (by omega)]
  have el : s.bo.length = (strg s i).bo.length := by simp [strg]
  have CP5 : CpH (strg s i) H5 op ob pv bv := ⟨hne, CP.ep, by rw [ebv, el], by rw [hH5, List.getElem?_set_ne (by omega)]; exact qp, by rw [hH5, List.getElem?_set_ne (by omega)]; exact qb⟩
  have v1 : view false H5 7 pv = some (slV 2 Spn.e (strg s i).pl) := RdC.view (enc := Spn.e) ⟨op, CP5.ep, CP5.p⟩ Spn.el Spn.iv
  have v2 : view false H5 7 bv = some (slV 2 Bt.e (strg s i).bo) := RdC.view (enc := Bt.e) ⟨ob, CP5.eb, CP5.b⟩ Bt.el Bt.iv
  have cpv : pv.cells = [pv] ∧ pv.scalar = true := by rw [epv]; exact ⟨rfl, rfl⟩
  have cbv : bv.cells = [bv] ∧ bv.scalar = true := by rw [ebv]; exact ⟨rfl, rfl⟩
  have ee : elemAt 2 bv (I i) = some (.ptr ob (0 + ((i : Int)).toNat * 2)) := by rw [ebv]; exact elemAt_ms (by omega) hlt
  simp only [Nat.zero_add, Int.toNat_natCast] at ee
  have ew : (strg s i).w = s.w := rfl
  have atN : ∀ X : AO, (H2 ++ [X])[H'.length + 1]? = some X := fun X => by rw [← l2]; exact atE
  have stN : ∀ X Y : AO, (H2 ++ [X]).set (H'.length + 1) Y = H2 ++ [Y] := fun X Y => by rw [← l2]; exact setE
  simp only [seaV] at hC
  refine Iso_of (es _ _ _ _) e41 ?_
  simp only [f41, seaV, cpV]
  simp (disch := first | assumption | omega | (simp only [az]; done)) only [ru, eq_self, if_true, if_false, BEq.rfl, binI, AO.row?, splice, fillL, mmAll, loadV, storeV, zeros, Am.rowAt, Am.part, addOff, Nat.reduceAdd, Nat.reduceMul, Nat.reduceLeDiff, Nat.reduceSub, Nat.reduceLT, Int.reduceEq, Int.reduceLT, Int.reduceLE, Int.reduceGT, Int.reduceGE, Int.reduceAdd, Int.reduceSub, Int.reduceMul, Int.reduceNeg, Int.reduceToNat, reduceCtorEq, reduceIte, lenV_sl H.p, lenV_sl H.b, elem_sp H.p, elem_bt H.b, view_sl H.p, view_sl H.b, scalar_sl H.p, scalar_sl H.b, cells_sl H.p, cells_sl H.b, pure_sl H.p, pure_sl H.b, Int.toNat_natCast, exOp_call2, hC, h0, h1, cpv.1, cpv.2, cbv.1, cbv.2, atE, setE, ← hH2, k5, k2, ee, bh, lenE, m5, m2, m6, l2, atN, stN, ← hH3, fit, ← hH4, q5, q1, ← hH5, n1, v1, v2, ew, finC, getRes, Option.some.injEq, exists_eq_left']

/-- the boats that help, among the first ones -/
def hlpU (s : Sea) (k : Nat) : List Int := ofN ((List.range k).filter fun i => decide (most s < most (strg s i)))
theorem hlpU_succ {s : Sea} {k : Nat} : hlpU s (k + 1) = hlpU s k ++ if most s < most (strg s k) then [(k : Int)] else [] := by
  unfold hlpU ofN
  rw [List.range_succ, List.filter_append, List.map_append]
  congr 1
  by_cases h : most s < most (strg s k) <;> simp [h]
theorem hlpU_len {s : Sea} {k : Nat} : (hlpU s k).length ≤ k := by
  have := List.length_filter_le (fun i => decide (most s < most (strg s i))) (List.range k)
  rw [List.length_range] at this
  unfold hlpU ofN; rw [List.length_map]; exact this
abbrev hlps (s : Sea) : List Int := hlpU s s.bo.length
theorem strg_ok (H : SeaOk s p b) {i : Nat} : SeaOk (strg s i) p (slV 2 Bt.e (strg s i).bo) := ⟨⟨H.p, slV_is⟩, H.sp, by have := H.sb; simpa [strg] using this⟩
theorem cp_ok (H : SeaOk s p b) : SeaOk s (slV 2 Spn.e s.pl) (slV 2 Bt.e s.bo) := ⟨cpV_in, H.sp, H.sb⟩

set_option maxHeartbeats 1000000 in
theorem s86 (H : SeaOk s p b) (K : SeaG s) (hc : ∀ x ∈ s.bo, x.c ≤ 999) : Iso E 86 [seaV s p b] false = some (resL (hlps s)) := by
  have sb := H.sb
  have g := fun st => s102 H K st
  refine Iso_of (es _ _ _ _) e86 ?_
  simp only [f86, seaV] at g ⊢
  obtain ⟨n, hn⟩ : ∃ n, n = most s := ⟨_, rfl⟩
  simp only [← hn] at g
  simp (disch := first | assumption | omega | (simp only [az]; done)) only [ru, eq_self, if_true, if_false, BEq.rfl, binI, AO.row?, splice, fillL, mmAll, loadV, storeV, zeros, Am.rowAt, Am.part, addOff, Nat.reduceAdd, Nat.reduceMul, Nat.reduceLeDiff, Nat.reduceSub, Nat.reduceLT, Int.reduceEq, Int.reduceLT, Int.reduceLE, Int.reduceGT, Int.reduceGE, Int.reduceAdd, Int.reduceSub, Int.reduceMul, Int.reduceNeg, Int.reduceToNat, reduceCtorEq, reduceIte, lenV_sl H.p, lenV_sl H.b, elem_sp H.p, elem_bt H.b, view_sl H.p, view_sl H.b, scalar_sl H.p, scalar_sl H.b, cells_sl H.p, cells_sl H.b, pure_sl H.p, pure_sl H.b, Int.toNat_natCast, g]
  refine G_loop_ind (fun m ts h mk => ∃ (i : Nat) (J : List AO) (o : AV), i ≤ s.bo.length ∧ m = s.bo.length - i ∧ OutE intL 1 1 (.cells [I s.w.lo, I s.w.hi, p, b] false :: J) o (hlpU s i) ∧ ts.length = 27 ∧ ts.getD 1 .undef = .ptr 0 0 ∧ ts.getD 3 .undef = o ∧ ts.getD 4 .undef = I n ∧ ts.getD 11 .undef = I s.bo.length ∧ ts.getD 12 .undef = I i ∧ h = .cells [I s.w.lo, I s.w.hi, p, b] false :: J ∧ mk = []) ?_ _ _ _ _
    ⟨0, [], .nils, Nat.zero_le _, rfl, .inl ⟨rfl, rfl⟩, rfl, rfl, rfl, rfl, rfl, rfl, rfl, rfl⟩
  rintro m ts h mk ih ⟨i, J, o, hi, rfl, ho, hl', q1, q3, q4, q11, q12, rfl, rfl⟩
  rw [lit_all hl']
  simp only [lit0, litS, Nat.reduceAdd, q1, q3, q4, q11, q12]
  simp (disch := first | assumption | omega | (simp only [az]; done)) only [ru, eq_self, if_true, if_false, BEq.rfl, binI, AO.row?, splice, fillL, mmAll, loadV, storeV, zeros, Am.rowAt, Am.part, addOff, Nat.reduceAdd, Nat.reduceMul, Nat.reduceLeDiff, Nat.reduceSub, Nat.reduceLT, Int.reduceEq, Int.reduceLT, Int.reduceLE, Int.reduceGT, Int.reduceGE, Int.reduceAdd, Int.reduceSub, Int.reduceMul, Int.reduceNeg, Int.reduceToNat, reduceCtorEq, reduceIte]
  by_cases hlt : (i : Int) < s.bo.length
  case pos =>
    have hi' : i < s.bo.length := by omega
    have g1 := s114 H (fun x hx => ⟨(K.b x hx).1, (K.b x hx).2.1⟩) hi'
    have g2 := fun st => s102 (strg_ok H (i := i)) (strg_good K hc hi') st
    simp only [seaV] at g1 g2
    have vs := fun h n => view_sl (slV_is (esz := 2) (enc := Bt.e) (l := (strg s i).bo)) h n
    have vp := pure_sl (slV_is (esz := 2) (enc := Bt.e) (l := (strg s i).bo))
    have hfl := hlpU_len (s := s) (k := i)
    by_cases hcc : n < most (strg s i)
    · obtain ⟨v', J', ha, ho'⟩ := outE_app (pre := [(.cells [I s.w.lo, I s.w.hi, p, b] false : AO)]) (J := J) (eb := 8) (lim := 0) intE intSc (by omega) (by omega) (by omega) ho (Nat.zero_le _) (by omega) (i : Int)
      simp only [apC, apN, lenS, len0, Nat.zero_add] at ha ho'
      simp (disch := first | assumption | omega | (simp only [az]; done)) only [ru, eq_self, if_true, if_false, BEq.rfl, binI, AO.row?, splice, fillL, mmAll, loadV, storeV, zeros, Am.rowAt, Am.part, addOff, Nat.reduceAdd, Nat.reduceMul, Nat.reduceLeDiff, Nat.reduceSub, Nat.reduceLT, Int.reduceEq, Int.reduceLT, Int.reduceLE, Int.reduceGT, Int.reduceGE, Int.reduceAdd, Int.reduceSub, Int.reduceMul, Int.reduceNeg, Int.reduceToNat, reduceCtorEq, reduceIte, lenV_sl H.p, lenV_sl H.b, elem_sp H.p, elem_bt H.b, view_sl H.p, view_sl H.b, scalar_sl H.p, scalar_sl H.b, cells_sl H.p, cells_sl H.b, pure_sl H.p, pure_sl H.b, Int.toNat_natCast, hlt, g1, g2, vs, vp, hcc, gt_iff_lt, decide_true, exOp_litS, AV.pureV.go, AV.pureV, Bool.and_true, ha]
      exact ih (s.bo.length - (i + 1)) _ _ _ (by omega) ⟨i + 1, J', v', by omega, rfl, by rw [hlpU_succ, if_pos (by rw [← hn]; exact hcc)]; exact ho', rfl, rfl, rfl, rfl, rfl, rfl, rfl, rfl⟩
    · simp (disch := first | assumption | omega | (simp only [az]; done)) only [ru, eq_self, if_true, if_false, BEq.rfl, binI, AO.row?, splice, fillL, mmAll, loadV, storeV, zeros, Am.rowAt, Am.part, addOff, Nat.reduceAdd, Nat.reduceMul, Nat.reduceLeDiff, Nat.reduceSub, Nat.reduceLT, Int.reduceEq, Int.reduceLT, Int.reduceLE, Int.reduceGT, Int.reduceGE, Int.reduceAdd, Int.reduceSub, Int.reduceMul, Int.reduceNeg, Int.reduceToNat, reduceCtorEq, reduceIte, lenV_sl H.p, lenV_sl H.b, elem_sp H.p, elem_bt H.b, view_sl H.p, view_sl H.b, scalar_sl H.p, scalar_sl H.b, cells_sl H.p, cells_sl H.b, pure_sl H.p, pure_sl H.b, Int.toNat_natCast, hlt, g1, g2, vs, vp, hcc, gt_iff_lt, decide_false]
      exact ih (s.bo.length - (i + 1)) _ _ _ (by omega) ⟨i + 1, J, o, by omega, rfl, by rw [hlpU_succ, if_neg (by rw [← hn]; exact hcc), List.append_nil]; exact ho, rfl, rfl, rfl, rfl, rfl, rfl, rfl, rfl⟩
  obtain rfl : i = s.bo.length := by omega
  simp (disch := first | assumption | omega | (simp only [az]; done)) only [ru, eq_self, if_true, if_false, BEq.rfl, binI, AO.row?, splice, fillL, mmAll, loadV, storeV, zeros, Am.rowAt, Am.part, addOff, Nat.reduceAdd, Nat.reduceMul, Nat.reduceLeDiff, Nat.reduceSub, Nat.reduceLT, Int.reduceEq, Int.reduceLT, Int.reduceLE, Int.reduceGT, Int.reduceGE, Int.reduceAdd, Int.reduceSub, Int.reduceMul, Int.reduceNeg, Int.reduceToNat, reduceCtorEq, reduceIte, hlt]
  exact ho.viewL
def hlpR (s : Sea) : AV := if s.valid then (if s.pl.length ≤ s.bo.length then .tup [resL (hlps s), I 0] else .tup [.nils, I 3]) else .tup [.nils, I 50]
theorem s48 (H : SeaOk s p b) : Iso E 48 [seaV s p b] false = some (hlpR s) := by
  have g1 := fun st => s85 H st
  refine Iso_of (es _ _ _ _) e48 ?_
  simp only [f48, seaV, hlpR] at g1 ⊢
  cases hv : s.valid
  · simp (disch := first | assumption | omega | (simp only [az]; done)) only [ru, eq_self, if_true, if_false, BEq.rfl, binI, AO.row?, splice, fillL, mmAll, loadV, storeV, zeros, Am.rowAt, Am.part, addOff, Nat.reduceAdd, Nat.reduceMul, Nat.reduceLeDiff, Nat.reduceSub, Nat.reduceLT, Int.reduceEq, Int.reduceLT, Int.reduceLE, Int.reduceGT, Int.reduceGE, Int.reduceAdd, Int.reduceSub, Int.reduceMul, Int.reduceNeg, Int.reduceToNat, reduceCtorEq, reduceIte, lenV_sl H.p, lenV_sl H.b, elem_sp H.p, elem_bt H.b, view_sl H.p, view_sl H.b, scalar_sl H.p, scalar_sl H.b, cells_sl H.p, cells_sl H.b, pure_sl H.p, pure_sl H.b, Int.toNat_natCast, g1, hv, aE, Bool.false_eq_true]
  obtain ⟨K, hc'⟩ := valid_good hv
  have g2 := s86 H K hc'
  simp only [seaV] at g2
  have vs := fun h n => view_sl (resL_is (hlps s)) h n
  by_cases hc : s.pl.length ≤ s.bo.length
  · simp (disch := first | assumption | omega | (simp only [az]; done)) only [ru, eq_self, if_true, if_false, BEq.rfl, binI, AO.row?, splice, fillL, mmAll, loadV, storeV, zeros, Am.rowAt, Am.part, addOff, Nat.reduceAdd, Nat.reduceMul, Nat.reduceLeDiff, Nat.reduceSub, Nat.reduceLT, Int.reduceEq, Int.reduceLT, Int.reduceLE, Int.reduceGT, Int.reduceGE, Int.reduceAdd, Int.reduceSub, Int.reduceMul, Int.reduceNeg, Int.reduceToNat, reduceCtorEq, reduceIte, lenV_sl H.p, lenV_sl H.b, elem_sp H.p, elem_bt H.b, view_sl H.p, view_sl H.b, scalar_sl H.p, scalar_sl H.b, cells_sl H.p, cells_sl H.b, pure_sl H.p, pure_sl H.b, Int.toNat_natCast, g1, g2, hv, aE, hc, vs, decide_true]
  · simp (disch := first | assumption | omega | (simp only [az]; done)) only [ru, eq_self, if_true, if_false, BEq.rfl, binI, AO.row?, splice, fillL, mmAll, loadV, storeV, zeros, Am.rowAt, Am.part, addOff, Nat.reduceAdd, Nat.reduceMul, Nat.reduceLeDiff, Nat.reduceSub, Nat.reduceLT, Int.reduceEq, Int.reduceLT, Int.reduceLE, Int.reduceGT, Int.reduceGE, Int.reduceAdd, Int.reduceSub, Int.reduceMul, Int.reduceNeg, Int.reduceToNat, reduceCtorEq, reduceIte, lenV_sl H.p, lenV_sl H.b, elem_sp H.p, elem_bt H.b, view_sl H.p, view_sl H.b, scalar_sl H.p, scalar_sl H.b, cells_sl H.p, cells_sl H.b, pure_sl H.p, pure_sl H.b, Int.toNat_natCast, g1, hv, aE, hc, decide_false, Bool.false_eq_true]
set_option maxHeartbeats 1000000 in
theorem s70 (H : SeaOk s p b) : Iso E 70 [seaV s p b] false = some (hlpR s) := by
  have sb := H.sb
  have g1 := fun st => s103 H st
  refine Iso_of (es _ _ _ _) e70 ?_
  simp only [f70, seaV, hlpR] at g1 ⊢
  cases hv : s.valid
  · simp (disch := first | assumption | omega | (simp only [az]; done)) only [ru, eq_self, if_true, if_false, BEq.rfl, binI, AO.row?, splice, fillL, mmAll, loadV, storeV, zeros, Am.rowAt, Am.part, addOff, Nat.reduceAdd, Nat.reduceMul, Nat.reduceLeDiff, Nat.reduceSub, Nat.reduceLT, Int.reduceEq, Int.reduceLT, Int.reduceLE, Int.reduceGT, Int.reduceGE, Int.reduceAdd, Int.reduceSub, Int.reduceMul, Int.reduceNeg, Int.reduceToNat, reduceCtorEq, reduceIte, lenV_sl H.p, lenV_sl H.b, elem_sp H.p, elem_bt H.b, view_sl H.p, view_sl H.b, scalar_sl H.p, scalar_sl H.b, cells_sl H.p, cells_sl H.b, pure_sl H.p, pure_sl H.b, Int.toNat_natCast, g1, hv, aE, Bool.false_eq_true]
  obtain ⟨K, hc'⟩ := valid_good hv
  by_cases hc : s.pl.length ≤ s.bo.length
  case neg => simp (disch := first | assumption | omega | (simp only [az]; done)) only [ru, eq_self, if_true, if_false, BEq.rfl, binI, AO.row?, splice, fillL, mmAll, loadV, storeV, zeros, Am.rowAt, Am.part, addOff, Nat.reduceAdd, Nat.reduceMul, Nat.reduceLeDiff, Nat.reduceSub, Nat.reduceLT, Int.reduceEq, Int.reduceLT, Int.reduceLE, Int.reduceGT, Int.reduceGE, Int.reduceAdd, Int.reduceSub, Int.reduceMul, Int.reduceNeg, Int.reduceToNat, reduceCtorEq, reduceIte, lenV_sl H.p, lenV_sl H.b, elem_sp H.p, elem_bt H.b, view_sl H.p, view_sl H.b, scalar_sl H.p, scalar_sl H.b, cells_sl H.p, cells_sl H.b, pure_sl H.p, pure_sl H.b, Int.toNat_natCast, g1, hv, aE, hc, decide_false, Bool.false_eq_true]
  have g := fun st => s104 H K st
  simp only [seaV] at g
  obtain ⟨n, hn⟩ : ∃ n, n = most s := ⟨_, rfl⟩
  simp only [← hn] at g
  simp (disch := first | assumption | omega | (simp only [az]; done)) only [ru, eq_self, if_true, if_false, BEq.rfl, binI, AO.row?, splice, fillL, mmAll, loadV, storeV, zeros, Am.rowAt, Am.part, addOff, Nat.reduceAdd, Nat.reduceMul, Nat.reduceLeDiff, Nat.reduceSub, Nat.reduceLT, Int.reduceEq, Int.reduceLT, Int.reduceLE, Int.reduceGT, Int.reduceGE, Int.reduceAdd, Int.reduceSub, Int.reduceMul, Int.reduceNeg, Int.reduceToNat, reduceCtorEq, reduceIte, lenV_sl H.p, lenV_sl H.b, elem_sp H.p, elem_bt H.b, view_sl H.p, view_sl H.b, scalar_sl H.p, scalar_sl H.b, cells_sl H.p, cells_sl H.b, pure_sl H.p, pure_sl H.b, Int.toNat_natCast, g1, hv, aE, hc, decide_true]
  refine G_loop_ind (fun m ts h mk => ∃ (i : Nat) (J : List AO) (o : AV), i ≤ s.bo.length ∧ m = s.bo.length - i ∧ OutE intL 1 1 (.cells [I s.w.lo, I s.w.hi, p, b] false :: J) o (hlpU s i) ∧ ts.length = 31 ∧ ts.getD 1 .undef = .ptr 0 0 ∧ ts.getD 5 .undef = o ∧ ts.getD 6 .undef = I i ∧ h = .cells [I s.w.lo, I s.w.hi, p, b] false :: J ∧ mk = []) ?_ _ _ _ _
    ⟨0, [], .nils, Nat.zero_le _, rfl, .inl ⟨rfl, rfl⟩, rfl, rfl, rfl, rfl, rfl, rfl⟩
  rintro m ts h mk ih ⟨i, J, o, hi, rfl, ho, hl', q1, q5, q6, rfl, rfl⟩
  rw [lit_all hl']
  simp only [lit0, litS, Nat.reduceAdd, q1, q5, q6]
  simp (disch := first | assumption | omega | (simp only [az]; done)) only [ru, eq_self, if_true, if_false, BEq.rfl, binI, AO.row?, splice, fillL, mmAll, loadV, storeV, zeros, Am.rowAt, Am.part, addOff, Nat.reduceAdd, Nat.reduceMul, Nat.reduceLeDiff, Nat.reduceSub, Nat.reduceLT, Int.reduceEq, Int.reduceLT, Int.reduceLE, Int.reduceGT, Int.reduceGE, Int.reduceAdd, Int.reduceSub, Int.reduceMul, Int.reduceNeg, Int.reduceToNat, reduceCtorEq, reduceIte, lenV_sl H.p, lenV_sl H.b, elem_sp H.p, elem_bt H.b, view_sl H.p, view_sl H.b, scalar_sl H.p, scalar_sl H.b, cells_sl H.p, cells_sl H.b, pure_sl H.p, pure_sl H.b, Int.toNat_natCast]
  by_cases hlt : (i : Int) < s.bo.length
  case pos =>
    have hi' : i < s.bo.length := by omega
    have g3 := s41 H (fun x hx => ⟨(K.b x hx).1, (K.b x hx).2.1⟩) hi'
    have g2 := fun st => s104 (cp_ok (strg_ok H (i := i))) (strg_good K hc' hi') st
    simp only [seaV, cpV] at g3 g2
    have vs := fun h n => view_sl (slV_is (esz := 2) (enc := Bt.e) (l := (strg s i).bo)) h n
    have vp := pure_sl (slV_is (esz := 2) (enc := Bt.e) (l := (strg s i).bo))
    have vs2 := fun h n => view_sl (slV_is (esz := 2) (enc := Spn.e) (l := (strg s i).pl)) h n
    have vp2 := pure_sl (slV_is (esz := 2) (enc := Spn.e) (l := (strg s i).pl))
    have hfl := hlpU_len (s := s) (k := i)
    by_cases hcc : n < most (strg s i)
    · obtain ⟨v', J', ha, ho'⟩ := outE_app (pre := [(.cells [I s.w.lo, I s.w.hi, p, b] false : AO)]) (J := J) (eb := 8) (lim := 0) intE intSc (by omega) (by omega) (by omega) ho (Nat.zero_le _) (by omega) (i : Int)
      simp only [apC, apN, lenS, len0, Nat.zero_add] at ha ho'
      simp (disch := first | assumption | omega | (simp only [az]; done)) only [ru, eq_self, if_true, if_false, BEq.rfl, binI, AO.row?, splice, fillL, mmAll, loadV, storeV, zeros, Am.rowAt, Am.part, addOff, Nat.reduceAdd, Nat.reduceMul, Nat.reduceLeDiff, Nat.reduceSub, Nat.reduceLT, Int.reduceEq, Int.reduceLT, Int.reduceLE, Int.reduceGT, Int.reduceGE, Int.reduceAdd, Int.reduceSub, Int.reduceMul, Int.reduceNeg, Int.reduceToNat, reduceCtorEq, reduceIte, lenV_sl H.p, lenV_sl H.b, elem_sp H.p, elem_bt H.b, view_sl H.p, view_sl H.b, scalar_sl H.p, scalar_sl H.b, cells_sl H.p, cells_sl H.b, pure_sl H.p, pure_sl H.b, Int.toNat_natCast, hlt, g, g3, g2, vs, vp, vs2, vp2, hcc, gt_iff_lt, decide_true, exOp_litS, AV.pureV.go, AV.pureV, Bool.and_true, ha]
      exact ih (s.bo.length - (i + 1)) _ _ _ (by omega) ⟨i + 1, J', v', by omega, rfl, by rw [hlpU_succ, if_pos (by rw [← hn]; exact hcc)]; exact ho', rfl, rfl, rfl, rfl, rfl, rfl⟩
    · simp (disch := first | assumption | omega | (simp only [az]; done)) only [ru, eq_self, if_true, if_false, BEq.rfl, binI, AO.row?, splice, fillL, mmAll, loadV, storeV, zeros, Am.rowAt, Am.part, addOff, Nat.reduceAdd, Nat.reduceMul, Nat.reduceLeDiff, Nat.reduceSub, Nat.reduceLT, Int.reduceEq, Int.reduceLT, Int.reduceLE, Int.reduceGT, Int.reduceGE, Int.reduceAdd, Int.reduceSub, Int.reduceMul, Int.reduceNeg, Int.reduceToNat, reduceCtorEq, reduceIte, lenV_sl H.p, lenV_sl H.b, elem_sp H.p, elem_bt H.b, view_sl H.p, view_sl H.b, scalar_sl H.p, scalar_sl H.b, cells_sl H.p, cells_sl H.b, pure_sl H.p, pure_sl H.b, Int.toNat_natCast, hlt, g, g3, g2, vs, vp, vs2, vp2, hcc, gt_iff_lt, decide_false]
      exact ih (s.bo.length - (i + 1)) _ _ _ (by omega) ⟨i + 1, J, o, by omega, rfl, by rw [hlpU_succ, if_neg (by rw [← hn]; exact hcc), List.append_nil]; exact ho, rfl, rfl, rfl, rfl, rfl, rfl⟩
  obtain rfl : i = s.bo.length := by omega
  have vw := ho.viewL (st := false) (k := 6)
  simp (disch := first | assumption | omega | (simp only [az]; done)) only [ru, eq_self, if_true, if_false, BEq.rfl, binI, AO.row?, splice, fillL, mmAll, loadV, storeV, zeros, Am.rowAt, Am.part, addOff, Nat.reduceAdd, Nat.reduceMul, Nat.reduceLeDiff, Nat.reduceSub, Nat.reduceLT, Int.reduceEq, Int.reduceLT, Int.reduceLE, Int.reduceGT, Int.reduceGE, Int.reduceAdd, Int.reduceSub, Int.reduceMul, Int.reduceNeg, Int.reduceToNat, reduceCtorEq, reduceIte, hlt, vw]
end
end Go.Proofs.Ytdmhbefdidmliaa.S

/-
Two boats that are exchanged: Swap of both sides.
-/
namespace Go.Proofs.Ytdmhbefdidmliaa.S
open Go Go.Am Go.Proofs.Ytdmhbefdidmliaa.T
set_option maxRecDepth 100000
set_option linter.unusedSimpArgs false
set_option linter.unusedVariables false

theorem cpyO {α : Type} {enc : α → List AV} {esz eb : Nat} {l : List α} {v : AV} {h : List AO} {lim : Nat} (hv : IsSl esz enc l v) (he : ∀ a, (enc a).length = esz) (hs : ∀ a, (enc a).all AV.scalar = true) (hb : l.length * eb ≤ 140737488355328) (heb : 1 ≤ eb) (hlim : lim ≤ h.length) :
    ∃ o h', appV lim (h ++ [.cells [] false]) esz eb (.ms esz h.length 0 0) v = some (.ms esz o 0 l.length, h') ∧ Fr h h' ∧ h.length ≤ o ∧ h'[o]? = some (.cells (l.flatMap enc) false) := by
  rw [appV_new hv he hs hb heb _ _ _ atE hlim]
  by_cases hz : l.length = 0
  · rw [if_pos hz]
    refine ⟨h.length, _, by rw [hz], Fr.app _ _, Nat.le_refl _, ?_⟩
    rw [List.eq_nil_of_length_eq_zero hz]; exact atE
  · rw [if_neg hz]
    refine ⟨(h ++ [AO.cells [] false]).length, _, rfl, ⟨by simp, fun j hj => ?_⟩, by simp, ?_⟩
    · rw [List.getElem?_append_left (by simp; omega), List.getElem?_set_ne (by omega), List.getElem?_append_left hj]
    · rw [List.getElem?_append_right (by simp)]; simp
theorem int_put {l : List Int} {i : Nat} (hi : i < l.length) (x : Int) : (l.flatMap intL).take i ++ [I x] ++ (l.flatMap intL).drop (i + 1) = (l.set i x).flatMap intL := by
  induction l generalizing i with
  | nil => simp at hi
  | cons a l ih =>
    cases i with
    | zero => rfl
    | succ i =>
      have := ih (i := i) (by simpa using hi)
      show I a :: ((l.flatMap intL).take i ++ [I x] ++ (l.flatMap intL).drop (i + 1)) = _
      rw [this]; rfl
/-- the first boat with which that of a place should be exchanged -/
def swpB (s : Sea) (l : List Int) (a : Nat) : Nat → Nat → Option Nat
  | 0, _ => none
  | d + 1, b => if lft s l < lft s (exch l a b) then some b else swpB s l a d (b + 1)
def swpA (s : Sea) (l : List Int) : Nat → Nat → Option (Nat × Nat)
  | 0, _ => none
  | d + 1, a => match swpB s l a (l.length - (a + 1)) (a + 1) with
    | some b => some (a, b)
    | none => swpA s l d (a + 1)
abbrev swp (s : Sea) (l : List Int) : Option (Nat × Nat) := swpA s l l.length 0
theorem swpB_none {s : Sea} {l : List Int} {a : Nat} : ∀ {d b : Nat}, swpB s l a d b = none ↔ ∀ c, b ≤ c → c < b + d → ¬ lft s l < lft s (exch l a c)
  | 0, b => by simp only [swpB, true_iff]; intro c h1 h2; omega
  | d + 1, b => by
    rw [swpB]
    by_cases h : lft s l < lft s (exch l a b)
    · rw [if_pos h]
      constructor
      · intro e; cases e
      · intro h'; exact absurd h (h' b (Nat.le_refl _) (by omega))
    · rw [if_neg h, swpB_none]
      constructor
      · intro h' c h1 h2
        by_cases e : c = b
        · subst e; exact h
        · exact h' c (by omega) (by omega)
      · intro h' c h1 h2; exact h' c (by omega) (by omega)
theorem swpB_some {s : Sea} {l : List Int} {a : Nat} : ∀ {d b c : Nat}, swpB s l a d b = some c → b ≤ c ∧ c < b + d ∧ lft s l < lft s (exch l a c) ∧ ∀ c', b ≤ c' → c' < c → ¬ lft s l < lft s (exch l a c')
  | 0, b, c, h => by simp [swpB] at h
  | d + 1, b, c, h => by
    rw [swpB] at h
    by_cases hc : lft s l < lft s (exch l a b)
    · rw [if_pos hc] at h; cases h; exact ⟨Nat.le_refl _, by omega, hc, fun c' h1 h2 => by omega⟩
    · rw [if_neg hc] at h
      obtain ⟨h1, h2, h3, h4⟩ := swpB_some h
      refine ⟨by omega, by omega, h3, fun c' a1 a2 => ?_⟩
      by_cases e : c' = b
      · subst e; exact hc
      · exact h4 c' (by omega) a2
theorem swpA_none {s : Sea} {l : List Int} : ∀ {d a : Nat}, swpA s l d a = none ↔ ∀ x, a ≤ x → x < a + d → ∀ y, x < y → y < l.length → ¬ lft s l < lft s (exch l x y)
  | 0, a => by simp only [swpA, true_iff]; intro x h1 h2; omega
  | d + 1, a => by
    rw [swpA]
    cases hb : swpB s l a (l.length - (a + 1)) (a + 1) with
    | none =>
      rw [swpB_none] at hb
      simp only [swpA_none]
      constructor
      · intro h x h1 h2 y h3 h4
        by_cases e : x = a
        · subst e; exact hb y (by omega) (by omega)
        · exact h x (by omega) (by omega) y h3 h4
      · intro h x h1 h2; exact h x (by omega) (by omega)
    | some c =>
      obtain ⟨h1, h2, h3, _⟩ := swpB_some hb
      constructor
      · intro e; cases e
      · intro h; exact absurd h3 (h a (Nat.le_refl _) (by omega) c (by omega) (by omega))
theorem swpA_some {s : Sea} {l : List Int} : ∀ {d a : Nat} {q : Nat × Nat}, swpA s l d a = some q → a ≤ q.1 ∧ q.1 < a + d ∧ q.1 < q.2 ∧ q.2 < l.length ∧ lft s l < lft s (exch l q.1 q.2) ∧
    ∀ x y, a ≤ x → x < y → y < l.length → (x < q.1 ∨ (x = q.1 ∧ y < q.2)) → ¬ lft s l < lft s (exch l x y)
  | 0, a, q, h => by simp [swpA] at h
  | d + 1, a, q, h => by
    rw [swpA] at h
    cases hb : swpB s l a (l.length - (a + 1)) (a + 1) with
    | none =>
      rw [hb] at h
      rw [swpB_none] at hb
      obtain ⟨h1, h2, h3, h4, h5, h6⟩ := swpA_some (show swpA s l d (a + 1) = some q from h)
      refine ⟨by omega, by omega, h3, h4, h5, fun x y a1 a2 a3 a4 => ?_⟩
      by_cases e : x = a
      · subst e; exact hb y (by omega) (by omega)
      · exact h6 x y (by omega) a2 a3 a4
    | some c =>
      rw [hb] at h
      cases h
      obtain ⟨h1, h2, h3, h4⟩ := swpB_some hb
      refine ⟨Nat.le_refl _, by show a < _; omega, by show a < c; omega, by show c < _; omega, h3, fun x y a1 a2 a3 a4 => ?_⟩
      have e : x = a := by
        rcases a4 with h | h
        · have : x < a := h
          omega
        · exact h.1
      subst e
      rcases a4 with h | h
      · exact absurd h (Nat.lt_irrefl _)
      · exact h4 y (by omega) h.2

def swpV (q : Option (Nat × Nat)) : AV := match q with
  | none => .agg [I 0, I 0]
  | some (a, b) => .agg [I a, I b]
def swpR (s : Sea) (l : List Int) : AV := if s.valid then (if crB s l then (match swp s l with | none => .tup [.agg [I 0, I 0], I 3] | some (a, b) => .tup [.agg [I a, I b], I 0]) else .tup [.agg [I 0, I 0], I 1]) else .tup [.agg [I 0, I 0], I 50]
theorem exch_at' {l : List Int} {x : Nat → Prop} {nb : Int} {a b : Nat} (ha : a < l.length) (hb : b < l.length) (hc : ∀ i, i < l.length → 0 ≤ l.getD i 0 ∧ l.getD i 0 < nb) : (exch l a b).length = l.length ∧ ∀ i, i < (exch l a b).length → 0 ≤ (exch l a b).getD i 0 ∧ (exch l a b).getD i 0 < nb := by
  have el : (exch l a b).length = l.length := by simp [exch]
  refine ⟨el, fun i hi => ?_⟩
  rw [el] at hi
  rw [exch_at ha hb hi]
  refine hc _ ?_
  split
  · exact ha
  · split
    · exact hb
    · exact hi

section
variable {s : Sea} {p b : AV} {l : List Int} {v : AV}

set_option maxHeartbeats 1000000 in
theorem s43 (V : IsSl 1 intL l v) (hl : l.length ≤ 1000) {x y : Nat} (hx : x < l.length) (hy : y < l.length) (st : Bool) : Iso E 43 [v, .agg [I x, I y]] st = some (slV 1 intL (exch l x y)) := by
  obtain ⟨o, h', A, fr, oge, hc⟩ := cpyO (eb := 8) (lim := 0) (h := [.cells [I x, I y] false]) V intE intSc (by omega) (by omega) (Nat.zero_le _)
  simp only [apC, apN, lenS, len0, Nat.zero_add] at A
  have h0 : h'[0]? = some (.cells [I x, I y] false) := fr.at rfl
  have o0 : o ≠ 0 := by simp at oge; omega
  have hno : (0 != o) = true := by simp; omega
  have ol := (List.getElem?_eq_some_iff.1 hc).1
  have hx1 : (x : Int) < l.length := by omega
  have hy1 : (y : Int) < l.length := by omega
  obtain ⟨lx, hlx⟩ : ∃ lx, lx = l.getD x 0 := ⟨_, rfl⟩
  obtain ⟨ly, hly⟩ : ∃ ly, ly = l.getD y 0 := ⟨_, rfl⟩
  have p1 := int_put hx ly
  have p2 := int_put (l := l.set x ly) (i := y) (by simpa using hy) lx
  obtain ⟨row, hrow⟩ : ∃ row, row = l.flatMap intL := ⟨_, rfl⟩
  have rl : row.length = l.length := by rw [hrow, flat_len intE]; omega
  rw [← hrow] at p1 hc
  obtain ⟨row2, hrow2⟩ : ∃ row2, row2 = (l.set x ly).flatMap intL := ⟨_, rfl⟩
  have rl2 : row2.length = l.length := by rw [hrow2, flat_len intE]; simp
  rw [← hrow2] at p1 p2
  obtain ⟨H1, hH1⟩ : ∃ H1, H1 = h'.set o (.cells row2 false) := ⟨_, rfl⟩
  have k0 : H1[0]? = some (.cells [I x, I y] false) := by rw [hH1, List.getElem?_set_ne o0]; exact h0
  have k1 : H1[o]? = some (.cells row2 false) := by rw [hH1, List.getElem?_set_self ol]
  have H2e : ∀ Y, H1.set o Y = h'.set o Y := fun Y => by rw [hH1, List.set_set]
  have fit1 : x + 1 ≤ row.length := by omega
  have fit2 : y + 1 ≤ row2.length := by omega
  have ex : exch l x y = (l.set x ly).set y lx := by rw [exch, ← hlx, ← hly]
  have el : (exch l x y).length = l.length := by simp [exch]
  obtain ⟨H2, hH2⟩ : ∃ H2, H2 = h'.set o (.cells ((exch l x y).flatMap intL) false) := ⟨_, rfl⟩
  have n2 : H2[o]? = some (.cells ((exch l x y).flatMap intL) false) := by rw [hH2, List.getElem?_set_self ol]
  have fl : ((exch l x y).flatMap intL).length = l.length := by rw [flat_len intE, el]; omega
  have ft : ((exch l x y).flatMap intL).take l.length = (exch l x y).flatMap intL := List.take_of_length_le (by omega)
  have fv : ∀ st n, ((exch l x y).flatMap intL).mapM (view st H2 n) = some ((exch l x y).flatMap intL) := fun st n => flat_view intIv _
  rw [← ex] at p2
  refine Iso_of (es _ _ _ _) e43 ?_
  simp only [f43]
  simp (disch := first | assumption | omega | (simp only [az]; done)) only [ru, eq_self, if_true, if_false, BEq.rfl, binI, AO.row?, splice, fillL, mmAll, loadV, storeV, zeros, Am.rowAt, Am.part, addOff, Nat.reduceAdd, Nat.reduceMul, Nat.reduceLeDiff, Nat.reduceSub, Nat.reduceLT, Int.reduceEq, Int.reduceLT, Int.reduceLE, Int.reduceGT, Int.reduceGE, Int.reduceAdd, Int.reduceSub, Int.reduceMul, Int.reduceNeg, Int.reduceToNat, reduceCtorEq, reduceIte, lenV_sl V, elem_in V, view_sl V, scalar_sl V, cells_sl V, pure_sl V, Int.toNat_natCast, A, h0, exOp_loadR, exOp_storeR, objIs, objNot, hx1, hy1, ← hlx, ← hly, hno, Nat.mul_one, Nat.zero_add, hc, fit1, p1, ← hH1, k0, k1, fit2, p2, H2e, ← hH2, n2, fl, ft, fv, Bool.and_true]
  rw [slV, el]

set_option maxHeartbeats 4000000 in
theorem s84 (H : SeaOk s p b) (K : SeaG s) (V : IsSl 1 intL l v) (hl : l.length = s.pl.length) (hc : ∀ i, i < l.length → 0 ≤ l.getD i 0 ∧ l.getD i 0 < s.bo.length) (st : Bool) : Iso E 84 [seaV s p b, v] st = some (.tup [swpV (swp s l), Bo (swp s l).isSome]) := by
  have g := fun st => s96 H K V (by omega) hc st
  have hle := K.sp.le; have hne := K.sp.ne
  refine Iso_of (es _ _ _ _) e84 ?_
  simp only [f84, seaV] at g ⊢
  obtain ⟨n, hn⟩ : ∃ n, n = lft s l := ⟨_, rfl⟩
  simp only [← hn] at g
  simp (disch := first | assumption | omega | (simp only [az]; done)) only [ru, eq_self, if_true, if_false, BEq.rfl, binI, AO.row?, splice, fillL, mmAll, loadV, storeV, zeros, Am.rowAt, Am.part, addOff, Nat.reduceAdd, Nat.reduceMul, Nat.reduceLeDiff, Nat.reduceSub, Nat.reduceLT, Int.reduceEq, Int.reduceLT, Int.reduceLE, Int.reduceGT, Int.reduceGE, Int.reduceAdd, Int.reduceSub, Int.reduceMul, Int.reduceNeg, Int.reduceToNat, reduceCtorEq, reduceIte, lenV_sl H.p, lenV_sl H.b, elem_sp H.p, elem_bt H.b, view_sl H.p, view_sl H.b, scalar_sl H.p, scalar_sl H.b, cells_sl H.p, cells_sl H.b, pure_sl H.p, pure_sl H.b, Int.toNat_natCast, lenV_sl V, elem_in V, view_sl V, scalar_sl V, cells_sl V, pure_sl V, Int.toNat_natCast, g]
  refine G_loop_ind (fun m ts h mk => ∃ (x : Nat), x ≤ l.length ∧ m = l.length - x ∧ swp s l = swpA s l (l.length - x) x ∧ h[0]? = some (.cells [I s.w.lo, I s.w.hi, p, b] false) ∧ h[1]? = some (.cells [I 0, I 0] false) ∧ ts.length = 52 ∧ ts.getD 1 .undef = v ∧ ts.getD 2 .undef = .ptr 0 0 ∧ ts.getD 4 .undef = .ptr 1 0 ∧ ts.getD 6 .undef = I n ∧ ts.getD 14 .undef = I l.length ∧ ts.getD 15 .undef = I x ∧ mk = []) ?_ _ _ _ _
    ⟨0, Nat.zero_le _, rfl, rfl, rfl, rfl, rfl, rfl, rfl, rfl, rfl, rfl, rfl, rfl⟩
  rintro m ts h mk iha ⟨x, hx, rfl, es, h0, h1, hl', q1, q2, q4, q6, q14, q15, rfl⟩
  rw [lit_all hl']
  simp only [lit0, litS, Nat.reduceAdd, q1, q2, q4, q6, q14, q15]
  simp (disch := first | assumption | omega | (simp only [az]; done)) only [ru, eq_self, if_true, if_false, BEq.rfl, binI, AO.row?, splice, fillL, mmAll, loadV, storeV, zeros, Am.rowAt, Am.part, addOff, Nat.reduceAdd, Nat.reduceMul, Nat.reduceLeDiff, Nat.reduceSub, Nat.reduceLT, Int.reduceEq, Int.reduceLT, Int.reduceLE, Int.reduceGT, Int.reduceGE, Int.reduceAdd, Int.reduceSub, Int.reduceMul, Int.reduceNeg, Int.reduceToNat, reduceCtorEq, reduceIte]
  by_cases hlt : (x : Int) < l.length
  case neg =>
    have e0 : l.length - x = 0 := by omega
    rw [e0] at es
    have es' : swp s l = none := es
    rw [es']
    have h1l := (List.getElem?_eq_some_iff.1 h1).1
    have k1 : (h.set 1 (.cells [I 0, I 0] false))[1]? = some (.cells [I 0, I 0] false) := List.getElem?_set_self h1l
    simp (disch := first | assumption | omega | (simp only [az]; done)) only [ru, eq_self, if_true, if_false, BEq.rfl, binI, AO.row?, splice, fillL, mmAll, loadV, storeV, zeros, Am.rowAt, Am.part, addOff, Nat.reduceAdd, Nat.reduceMul, Nat.reduceLeDiff, Nat.reduceSub, Nat.reduceLT, Int.reduceEq, Int.reduceLT, Int.reduceLE, Int.reduceGT, Int.reduceGE, Int.reduceAdd, Int.reduceSub, Int.reduceMul, Int.reduceNeg, Int.reduceToNat, reduceCtorEq, reduceIte, hlt, h1, k1, finC2, getRes, Option.some.injEq, exists_eq_left', Option.isSome]
    rfl
  have hx' : x < l.length := by omega
  have ed : l.length - x = (l.length - (x + 1)) + 1 := by omega
  have ea : swpA s l (l.length - (x + 1) + 1) x = match swpB s l x (l.length - (x + 1)) (x + 1) with | some b => some (x, b) | none => swpA s l (l.length - (x + 1)) (x + 1) := rfl
  rw [ed, ea] at es
  simp (disch := first | assumption | omega | (simp only [az]; done)) only [ru, eq_self, if_true, if_false, BEq.rfl, binI, AO.row?, splice, fillL, mmAll, loadV, storeV, zeros, Am.rowAt, Am.part, addOff, Nat.reduceAdd, Nat.reduceMul, Nat.reduceLeDiff, Nat.reduceSub, Nat.reduceLT, Int.reduceEq, Int.reduceLT, Int.reduceLE, Int.reduceGT, Int.reduceGE, Int.reduceAdd, Int.reduceSub, Int.reduceMul, Int.reduceNeg, Int.reduceToNat, reduceCtorEq, reduceIte, hlt]
  clear hl' q1 q2 q4 q6 q14 q15
  refine G_loop_ind (fun m ts h mk => ∃ (y : Nat), x + 1 ≤ y ∧ y ≤ l.length ∧ m = l.length - y ∧ swpB s l x (l.length - (x + 1)) (x + 1) = swpB s l x (l.length - y) y ∧ h[0]? = some (.cells [I s.w.lo, I s.w.hi, p, b] false) ∧ h[1]? = some (.cells [I 0, I 0] false) ∧ ts.length = 52 ∧ ts.getD 1 .undef = v ∧ ts.getD 2 .undef = .ptr 0 0 ∧ ts.getD 4 .undef = .ptr 1 0 ∧ ts.getD 6 .undef = I n ∧ ts.getD 7 .undef = I x ∧ ts.getD 8 .undef = I y ∧ ts.getD 14 .undef = I l.length ∧ ts.getD 15 .undef = I x ∧ mk = []) ?_ _ _ _ _
    ⟨x + 1, Nat.le_refl _, by omega, rfl, rfl, h0, h1, rfl, rfl, rfl, rfl, rfl, rfl, rfl, rfl, rfl, rfl⟩
  clear h0 h1 h
  rintro m ts h mk ihb ⟨y, hxy, hy, rfl, eb, h0, h1, hl', q1, q2, q4, q6, q7, q8, q14, q15, rfl⟩
  rw [lit_all hl']
  simp only [lit0, litS, Nat.reduceAdd, q1, q2, q4, q6, q7, q8, q14, q15]
  simp (disch := first | assumption | omega | (simp only [az]; done)) only [ru, eq_self, if_true, if_false, BEq.rfl, binI, AO.row?, splice, fillL, mmAll, loadV, storeV, zeros, Am.rowAt, Am.part, addOff, Nat.reduceAdd, Nat.reduceMul, Nat.reduceLeDiff, Nat.reduceSub, Nat.reduceLT, Int.reduceEq, Int.reduceLT, Int.reduceLE, Int.reduceGT, Int.reduceGE, Int.reduceAdd, Int.reduceSub, Int.reduceMul, Int.reduceNeg, Int.reduceToNat, reduceCtorEq, reduceIte, lenV_sl V, elem_in V, view_sl V, scalar_sl V, cells_sl V, pure_sl V, Int.toNat_natCast]
  by_cases hlt2 : (y : Int) < l.length
  case neg =>
    have e0 : l.length - y = 0 := by omega
    rw [e0] at eb
    rw [show swpB s l x (l.length - (x + 1)) (x + 1) = none from eb] at es
    simp (disch := first | assumption | omega | (simp only [az]; done)) only [ru, eq_self, if_true, if_false, BEq.rfl, binI, AO.row?, splice, fillL, mmAll, loadV, storeV, zeros, Am.rowAt, Am.part, addOff, Nat.reduceAdd, Nat.reduceMul, Nat.reduceLeDiff, Nat.reduceSub, Nat.reduceLT, Int.reduceEq, Int.reduceLT, Int.reduceLE, Int.reduceGT, Int.reduceGE, Int.reduceAdd, Int.reduceSub, Int.reduceMul, Int.reduceNeg, Int.reduceToNat, reduceCtorEq, reduceIte, hlt2]
    exact iha (l.length - (x + 1)) _ _ _ (by omega) ⟨x + 1, by omega, rfl, es, h0, h1, rfl, rfl, rfl, rfl, rfl, rfl, rfl, rfl⟩
  have hy' : y < l.length := by omega
  obtain ⟨o, H', hC, fr, hoo, hco⟩ := c113 V (by omega) (by omega) h
  have k0 := fr.at h0
  have k1 := fr.at h1
  have h1l := (List.getElem?_eq_some_iff.1 h1).1
  have ol := (List.getElem?_eq_some_iff.1 hco).1
  obtain ⟨lx, hlx⟩ : ∃ lx, lx = l.getD x 0 := ⟨_, rfl⟩
  obtain ⟨ly, hly⟩ : ∃ ly, ly = l.getD y 0 := ⟨_, rfl⟩
  have p1 := int_put hx' ly
  have p2 := int_put (l := l.set x ly) (i := y) (by simpa using hy') lx
  obtain ⟨row, hrow⟩ : ∃ row, row = l.flatMap intL := ⟨_, rfl⟩
  have rl : row.length = l.length := by rw [hrow, flat_len intE]; omega
  rw [← hrow] at p1 hco
  obtain ⟨row2, hrow2⟩ : ∃ row2, row2 = (l.set x ly).flatMap intL := ⟨_, rfl⟩
  have rl2 : row2.length = l.length := by rw [hrow2, flat_len intE]; simp
  rw [← hrow2] at p1 p2
  obtain ⟨H1, hH1⟩ : ∃ H1, H1 = H'.set o (.cells row2 false) := ⟨_, rfl⟩
  have m1 : H1[o]? = some (.cells row2 false) := by rw [hH1, List.getElem?_set_self ol]
  have H2e : ∀ Y, H1.set o Y = H'.set o Y := fun Y => by rw [hH1, List.set_set]
  have fit1 : x + 1 ≤ row.length := by omega
  have fit2 : y + 1 ≤ row2.length := by omega
  have ex : exch l x y = (l.set x ly).set y lx := by rw [exch, ← hlx, ← hly]
  have el : (exch l x y).length = l.length := by simp [exch]
  rw [← ex] at p2
  obtain ⟨H2, hH2⟩ : ∃ H2, H2 = H'.set o (.cells ((exch l x y).flatMap intL) false) := ⟨_, rfl⟩
  have n2 : H2[o]? = some (.cells ((exch l x y).flatMap intL) false) := by rw [hH2, List.getElem?_set_self ol]
  have n0 : H2[0]? = some (.cells [I s.w.lo, I s.w.hi, p, b] false) := by rw [hH2, List.getElem?_set_ne (by omega)]; exact k0
  have n1 : H2[1]? = some (.cells [I 0, I 0] false) := by rw [hH2, List.getElem?_set_ne (by omega)]; exact k1
  have fl : ((exch l x y).flatMap intL).length = l.length := by rw [flat_len intE, el]; omega
  have ft : ((exch l x y).flatMap intL).take l.length = (exch l x y).flatMap intL := List.take_of_length_le (by omega)
  have fv : ∀ st n, ((exch l x y).flatMap intL).mapM (view st H2 n) = some ((exch l x y).flatMap intL) := fun st n => flat_view intIv _
  have hE := exch_at' (x := fun _ => True) hx' hy' hc
  have esl : slV 1 intL (exch l x y) = .cs 1 l.length ((exch l x y).flatMap intL) := by rw [slV, el]
  have g2 := fun st => s96 H K (slV_is (l := exch l x y)) (by omega) hE.2 st
  simp only [seaV, esl] at g2
  have eb2 : l.length - y = (l.length - (y + 1)) + 1 := by omega
  have eB : swpB s l x (l.length - (y + 1) + 1) y = if lft s l < lft s (exch l x y) then some y else swpB s l x (l.length - (y + 1)) (y + 1) := rfl
  rw [eb2, eB] at eb
  have o1 : ∀ Y : AO, (H2.set 1 Y)[1]? = some Y := fun Y => List.getElem?_set_self (List.getElem?_eq_some_iff.1 n1).1
  by_cases hcc : n < lft s (exch l x y)
  · rw [if_pos (by rw [← hn]; exact hcc)] at eb
    rw [eb] at es
    have es' : swp s l = some (x, y) := es
    rw [es']
    simp (disch := first | assumption | omega | (simp only [az]; done)) only [ru, eq_self, if_true, if_false, BEq.rfl, binI, AO.row?, splice, fillL, mmAll, loadV, storeV, zeros, Am.rowAt, Am.part, addOff, Nat.reduceAdd, Nat.reduceMul, Nat.reduceLeDiff, Nat.reduceSub, Nat.reduceLT, Int.reduceEq, Int.reduceLT, Int.reduceLE, Int.reduceGT, Int.reduceGE, Int.reduceAdd, Int.reduceSub, Int.reduceMul, Int.reduceNeg, Int.reduceToNat, reduceCtorEq, reduceIte, lenV_sl H.p, lenV_sl H.b, elem_sp H.p, elem_bt H.b, view_sl H.p, view_sl H.b, scalar_sl H.p, scalar_sl H.b, cells_sl H.p, cells_sl H.b, pure_sl H.p, pure_sl H.b, Int.toNat_natCast, lenV_sl V, elem_in V, view_sl V, scalar_sl V, cells_sl V, pure_sl V, Int.toNat_natCast, hlt, hlt2, exOp_call2, hC, ← hlx, ← hly, hco, Nat.mul_one, Nat.zero_add, fit1, p1, ← hH1, m1, fit2, p2, H2e, ← hH2, n0, n1, n2, fl, ft, fv, g2, hcc, gt_iff_lt, decide_true, o1, finC2, getRes, Option.some.injEq, exists_eq_left', Option.isSome]
    rfl
  · rw [if_neg (by rw [← hn]; exact hcc)] at eb
    simp (disch := first | assumption | omega | (simp only [az]; done)) only [ru, eq_self, if_true, if_false, BEq.rfl, binI, AO.row?, splice, fillL, mmAll, loadV, storeV, zeros, Am.rowAt, Am.part, addOff, Nat.reduceAdd, Nat.reduceMul, Nat.reduceLeDiff, Nat.reduceSub, Nat.reduceLT, Int.reduceEq, Int.reduceLT, Int.reduceLE, Int.reduceGT, Int.reduceGE, Int.reduceAdd, Int.reduceSub, Int.reduceMul, Int.reduceNeg, Int.reduceToNat, reduceCtorEq, reduceIte, lenV_sl H.p, lenV_sl H.b, elem_sp H.p, elem_bt H.b, view_sl H.p, view_sl H.b, scalar_sl H.p, scalar_sl H.b, cells_sl H.p, cells_sl H.b, pure_sl H.p, pure_sl H.b, Int.toNat_natCast, lenV_sl V, elem_in V, view_sl V, scalar_sl V, cells_sl V, pure_sl V, Int.toNat_natCast, hlt, hlt2, exOp_call2, hC, ← hlx, ← hly, hco, Nat.mul_one, Nat.zero_add, fit1, p1, ← hH1, m1, fit2, p2, H2e, ← hH2, n0, n2, fl, ft, fv, g2, hcc, gt_iff_lt, decide_false]
    exact ihb (l.length - (y + 1)) _ _ _ (by omega) ⟨y + 1, by omega, by omega, rfl, eb, n0, n1, rfl, rfl, rfl, rfl, rfl, rfl, rfl, rfl, rfl, rfl⟩
theorem s42 (H : SeaOk s p b) (V : IsSl 1 intL l v) (hl : l.length ≤ 41) (st : Bool) : Iso E 42 [seaV s p b, v] st = some (swpR s l) := by
  have g1 := fun st => s78 H V hl st
  refine Iso_of (es _ _ _ _) e42 ?_
  simp only [f42, seaV, swpR] at g1 ⊢
  cases hv : s.valid
  · simp (disch := first | assumption | omega | (simp only [az]; done)) only [ru, eq_self, if_true, if_false, BEq.rfl, binI, AO.row?, splice, fillL, mmAll, loadV, storeV, zeros, Am.rowAt, Am.part, addOff, Nat.reduceAdd, Nat.reduceMul, Nat.reduceLeDiff, Nat.reduceSub, Nat.reduceLT, Int.reduceEq, Int.reduceLT, Int.reduceLE, Int.reduceGT, Int.reduceGE, Int.reduceAdd, Int.reduceSub, Int.reduceMul, Int.reduceNeg, Int.reduceToNat, reduceCtorEq, reduceIte, lenV_sl H.p, lenV_sl H.b, elem_sp H.p, elem_bt H.b, view_sl H.p, view_sl H.b, scalar_sl H.p, scalar_sl H.b, cells_sl H.p, cells_sl H.b, pure_sl H.p, pure_sl H.b, Int.toNat_natCast, lenV_sl V, elem_in V, view_sl V, scalar_sl V, cells_sl V, pure_sl V, Int.toNat_natCast, g1, hv, aE, Bool.false_eq_true, finC2, getRes, Option.some.injEq, exists_eq_left', view_agg, view_int]
  cases hc : crB s l
  · simp (disch := first | assumption | omega | (simp only [az]; done)) only [ru, eq_self, if_true, if_false, BEq.rfl, binI, AO.row?, splice, fillL, mmAll, loadV, storeV, zeros, Am.rowAt, Am.part, addOff, Nat.reduceAdd, Nat.reduceMul, Nat.reduceLeDiff, Nat.reduceSub, Nat.reduceLT, Int.reduceEq, Int.reduceLT, Int.reduceLE, Int.reduceGT, Int.reduceGE, Int.reduceAdd, Int.reduceSub, Int.reduceMul, Int.reduceNeg, Int.reduceToNat, reduceCtorEq, reduceIte, lenV_sl H.p, lenV_sl H.b, elem_sp H.p, elem_bt H.b, view_sl H.p, view_sl H.b, scalar_sl H.p, scalar_sl H.b, cells_sl H.p, cells_sl H.b, pure_sl H.p, pure_sl H.b, Int.toNat_natCast, lenV_sl V, elem_in V, view_sl V, scalar_sl V, cells_sl V, pure_sl V, Int.toNat_natCast, g1, hv, hc, aE, Bool.false_eq_true, finC2, getRes, Option.some.injEq, exists_eq_left', view_agg, view_int]
  obtain ⟨hlen, hcr⟩ := cr_at hc
  have g2 := fun st => s84 H (valid_good hv).1 V hlen hcr st
  simp only [seaV] at g2
  cases hs : swp s l with
  | none =>
    simp only [hs, swpV, Option.isSome] at g2
    simp (disch := first | assumption | omega | (simp only [az]; done)) only [ru, eq_self, if_true, if_false, BEq.rfl, binI, AO.row?, splice, fillL, mmAll, loadV, storeV, zeros, Am.rowAt, Am.part, addOff, Nat.reduceAdd, Nat.reduceMul, Nat.reduceLeDiff, Nat.reduceSub, Nat.reduceLT, Int.reduceEq, Int.reduceLT, Int.reduceLE, Int.reduceGT, Int.reduceGE, Int.reduceAdd, Int.reduceSub, Int.reduceMul, Int.reduceNeg, Int.reduceToNat, reduceCtorEq, reduceIte, lenV_sl H.p, lenV_sl H.b, elem_sp H.p, elem_bt H.b, view_sl H.p, view_sl H.b, scalar_sl H.p, scalar_sl H.b, cells_sl H.p, cells_sl H.b, pure_sl H.p, pure_sl H.b, Int.toNat_natCast, lenV_sl V, elem_in V, view_sl V, scalar_sl V, cells_sl V, pure_sl V, Int.toNat_natCast, g1, g2, hv, hc, aE, Bool.not_false, finC2, getRes, Option.some.injEq, exists_eq_left', view_agg, view_int]
  | some q =>
    obtain ⟨x, y⟩ := q
    simp only [hs, swpV, Option.isSome] at g2
    simp (disch := first | assumption | omega | (simp only [az]; done)) only [ru, eq_self, if_true, if_false, BEq.rfl, binI, AO.row?, splice, fillL, mmAll, loadV, storeV, zeros, Am.rowAt, Am.part, addOff, Nat.reduceAdd, Nat.reduceMul, Nat.reduceLeDiff, Nat.reduceSub, Nat.reduceLT, Int.reduceEq, Int.reduceLT, Int.reduceLE, Int.reduceGT, Int.reduceGE, Int.reduceAdd, Int.reduceSub, Int.reduceMul, Int.reduceNeg, Int.reduceToNat, reduceCtorEq, reduceIte, lenV_sl H.p, lenV_sl H.b, elem_sp H.p, elem_bt H.b, view_sl H.p, view_sl H.b, scalar_sl H.p, scalar_sl H.b, cells_sl H.p, cells_sl H.b, pure_sl H.p, pure_sl H.b, Int.toNat_natCast, lenV_sl V, elem_in V, view_sl V, scalar_sl V, cells_sl V, pure_sl V, Int.toNat_natCast, g1, g2, hv, hc, aE, Bool.not_true, finC2, getRes, Option.some.injEq, exists_eq_left', view_agg, view_int]

set_option maxHeartbeats 4000000 in
theorem s64 (H : SeaOk s p b) (V : IsSl 1 intL l v) (hl : l.length ≤ 41) (st : Bool) : Iso E 64 [seaV s p b, v] st = some (swpR s l) := by
  have g1 := fun st => s93 H V hl st
  refine Iso_of (es _ _ _ _) e64 ?_
  simp only [f64, seaV, swpR] at g1 ⊢
  cases hv : s.valid
  · simp (disch := first | assumption | omega | (simp only [az]; done)) only [ru, eq_self, if_true, if_false, BEq.rfl, binI, AO.row?, splice, fillL, mmAll, loadV, storeV, zeros, Am.rowAt, Am.part, addOff, Nat.reduceAdd, Nat.reduceMul, Nat.reduceLeDiff, Nat.reduceSub, Nat.reduceLT, Int.reduceEq, Int.reduceLT, Int.reduceLE, Int.reduceGT, Int.reduceGE, Int.reduceAdd, Int.reduceSub, Int.reduceMul, Int.reduceNeg, Int.reduceToNat, reduceCtorEq, reduceIte, lenV_sl H.p, lenV_sl H.b, elem_sp H.p, elem_bt H.b, view_sl H.p, view_sl H.b, scalar_sl H.p, scalar_sl H.b, cells_sl H.p, cells_sl H.b, pure_sl H.p, pure_sl H.b, Int.toNat_natCast, lenV_sl V, elem_in V, view_sl V, scalar_sl V, cells_sl V, pure_sl V, Int.toNat_natCast, g1, hv, aE, Bool.false_eq_true, finC2, getRes, Option.some.injEq, exists_eq_left', view_agg, view_int]
  cases hcb : crB s l
  · simp (disch := first | assumption | omega | (simp only [az]; done)) only [ru, eq_self, if_true, if_false, BEq.rfl, binI, AO.row?, splice, fillL, mmAll, loadV, storeV, zeros, Am.rowAt, Am.part, addOff, Nat.reduceAdd, Nat.reduceMul, Nat.reduceLeDiff, Nat.reduceSub, Nat.reduceLT, Int.reduceEq, Int.reduceLT, Int.reduceLE, Int.reduceGT, Int.reduceGE, Int.reduceAdd, Int.reduceSub, Int.reduceMul, Int.reduceNeg, Int.reduceToNat, reduceCtorEq, reduceIte, lenV_sl H.p, lenV_sl H.b, elem_sp H.p, elem_bt H.b, view_sl H.p, view_sl H.b, scalar_sl H.p, scalar_sl H.b, cells_sl H.p, cells_sl H.b, pure_sl H.p, pure_sl H.b, Int.toNat_natCast, lenV_sl V, elem_in V, view_sl V, scalar_sl V, cells_sl V, pure_sl V, Int.toNat_natCast, g1, hv, hcb, aE, Bool.false_eq_true, finC2, getRes, Option.some.injEq, exists_eq_left', view_agg, view_int]
  obtain ⟨hlen, hc⟩ := cr_at hcb
  have K := (valid_good hv).1
  have g3 := fun st => s98 H K.sp st
  simp only [seaV] at g3
  obtain ⟨u, hu⟩ : ∃ u, u = resL (shs s) := ⟨_, rfl⟩
  have U := resL_is (shs s)
  rw [← hu] at U
  simp only [← hu] at g3
  have g := fun st => s97 H K V (by omega) hc U st
  simp only [seaV] at g
  obtain ⟨n, hn⟩ : ∃ n, n = lft s l := ⟨_, rfl⟩
  simp only [← hn] at g
  simp (disch := first | assumption | omega | (simp only [az]; done)) only [ru, eq_self, if_true, if_false, BEq.rfl, binI, AO.row?, splice, fillL, mmAll, loadV, storeV, zeros, Am.rowAt, Am.part, addOff, Nat.reduceAdd, Nat.reduceMul, Nat.reduceLeDiff, Nat.reduceSub, Nat.reduceLT, Int.reduceEq, Int.reduceLT, Int.reduceLE, Int.reduceGT, Int.reduceGE, Int.reduceAdd, Int.reduceSub, Int.reduceMul, Int.reduceNeg, Int.reduceToNat, reduceCtorEq, reduceIte, lenV_sl H.p, lenV_sl H.b, elem_sp H.p, elem_bt H.b, view_sl H.p, view_sl H.b, scalar_sl H.p, scalar_sl H.b, cells_sl H.p, cells_sl H.b, pure_sl H.p, pure_sl H.b, Int.toNat_natCast, lenV_sl V, elem_in V, view_sl V, scalar_sl V, cells_sl V, pure_sl V, Int.toNat_natCast, lenV_sl U, elem_in U, view_sl U, scalar_sl U, cells_sl U, pure_sl U, Int.toNat_natCast, g1, g3, hv, hcb, aE]
  refine G_loop_ind (fun m ts h mk => ∃ (x : Nat), x ≤ l.length ∧ m = l.length - x ∧ swp s l = swpA s l (l.length - x) x ∧ h[0]? = some (.cells [I s.w.lo, I s.w.hi, p, b] false) ∧ h[1]? = some (.cells [I 0, I 0] false) ∧ ts.length = 50 ∧ ts.getD 1 .undef = v ∧ ts.getD 2 .undef = .ptr 0 0 ∧ ts.getD 4 .undef = .ptr 1 0 ∧ ts.getD 7 .undef = u ∧ ts.getD 8 .undef = I x ∧ mk = []) ?_ _ _ _ _
    ⟨0, Nat.zero_le _, rfl, rfl, rfl, rfl, rfl, rfl, rfl, rfl, rfl, rfl, rfl⟩
  rintro m ts h mk iha ⟨x, hx, rfl, es, h0, h1, hl', q1, q2, q4, q7, q8, rfl⟩
  rw [lit_all hl']
  simp only [lit0, litS, Nat.reduceAdd, q1, q2, q4, q7, q8]
  simp (disch := first | assumption | omega | (simp only [az]; done)) only [ru, eq_self, if_true, if_false, BEq.rfl, binI, AO.row?, splice, fillL, mmAll, loadV, storeV, zeros, Am.rowAt, Am.part, addOff, Nat.reduceAdd, Nat.reduceMul, Nat.reduceLeDiff, Nat.reduceSub, Nat.reduceLT, Int.reduceEq, Int.reduceLT, Int.reduceLE, Int.reduceGT, Int.reduceGE, Int.reduceAdd, Int.reduceSub, Int.reduceMul, Int.reduceNeg, Int.reduceToNat, reduceCtorEq, reduceIte, lenV_sl V, elem_in V, view_sl V, scalar_sl V, cells_sl V, pure_sl V, Int.toNat_natCast]
  by_cases hlt : (x : Int) < l.length
  case neg =>
    have e0 : l.length - x = 0 := by omega
    rw [e0] at es
    have es' : swp s l = none := es
    rw [es']
    have h1l := (List.getElem?_eq_some_iff.1 h1).1
    have k1 : (h.set 1 (.cells [I 0, I 0] false))[1]? = some (.cells [I 0, I 0] false) := List.getElem?_set_self h1l
    simp (disch := first | assumption | omega | (simp only [az]; done)) only [ru, eq_self, if_true, if_false, BEq.rfl, binI, AO.row?, splice, fillL, mmAll, loadV, storeV, zeros, Am.rowAt, Am.part, addOff, Nat.reduceAdd, Nat.reduceMul, Nat.reduceLeDiff, Nat.reduceSub, Nat.reduceLT, Int.reduceEq, Int.reduceLT, Int.reduceLE, Int.reduceGT, Int.reduceGE, Int.reduceAdd, Int.reduceSub, Int.reduceMul, Int.reduceNeg, Int.reduceToNat, reduceCtorEq, reduceIte, hlt, h1, k1, finC2, getRes, Option.some.injEq, exists_eq_left']
  have hx' : x < l.length := by omega
  have ed : l.length - x = (l.length - (x + 1)) + 1 := by omega
  have ea : swpA s l (l.length - (x + 1) + 1) x = match swpB s l x (l.length - (x + 1)) (x + 1) with | some b => some (x, b) | none => swpA s l (l.length - (x + 1)) (x + 1) := rfl
  rw [ed, ea] at es
  simp (disch := first | assumption | omega | (simp only [az]; done)) only [ru, eq_self, if_true, if_false, BEq.rfl, binI, AO.row?, splice, fillL, mmAll, loadV, storeV, zeros, Am.rowAt, Am.part, addOff, Nat.reduceAdd, Nat.reduceMul, Nat.reduceLeDiff, Nat.reduceSub, Nat.reduceLT, Int.reduceEq, Int.reduceLT, Int.reduceLE, Int.reduceGT, Int.reduceGE, Int.reduceAdd, Int.reduceSub, Int.reduceMul, Int.reduceNeg, Int.reduceToNat, reduceCtorEq, reduceIte, hlt]
  clear hl' q1 q2 q4 q7 q8
  refine G_loop_ind (fun m ts h mk => ∃ (y : Nat), x + 1 ≤ y ∧ y ≤ l.length ∧ m = l.length - y ∧ swpB s l x (l.length - (x + 1)) (x + 1) = swpB s l x (l.length - y) y ∧ h[0]? = some (.cells [I s.w.lo, I s.w.hi, p, b] false) ∧ h[1]? = some (.cells [I 0, I 0] false) ∧ ts.length = 50 ∧ ts.getD 1 .undef = v ∧ ts.getD 2 .undef = .ptr 0 0 ∧ ts.getD 4 .undef = .ptr 1 0 ∧ ts.getD 7 .undef = u ∧ ts.getD 8 .undef = I x ∧ ts.getD 9 .undef = I y ∧ mk = []) ?_ _ _ _ _
    ⟨x + 1, Nat.le_refl _, by omega, rfl, rfl, h0, h1, rfl, rfl, rfl, rfl, rfl, rfl, rfl, rfl⟩
  clear h0 h1 h
  rintro m ts h mk ihb ⟨y, hxy, hy, rfl, eb, h0, h1, hl', q1, q2, q4, q7, q8, q9, rfl⟩
  rw [lit_all hl']
  simp only [lit0, litS, Nat.reduceAdd, q1, q2, q4, q7, q8, q9]
  simp (disch := first | assumption | omega | (simp only [az]; done)) only [ru, eq_self, if_true, if_false, BEq.rfl, binI, AO.row?, splice, fillL, mmAll, loadV, storeV, zeros, Am.rowAt, Am.part, addOff, Nat.reduceAdd, Nat.reduceMul, Nat.reduceLeDiff, Nat.reduceSub, Nat.reduceLT, Int.reduceEq, Int.reduceLT, Int.reduceLE, Int.reduceGT, Int.reduceGE, Int.reduceAdd, Int.reduceSub, Int.reduceMul, Int.reduceNeg, Int.reduceToNat, reduceCtorEq, reduceIte, lenV_sl V, elem_in V, view_sl V, scalar_sl V, cells_sl V, pure_sl V, Int.toNat_natCast]
  by_cases hlt2 : (y : Int) < l.length
  case neg =>
    have e0 : l.length - y = 0 := by omega
    rw [e0] at eb
    rw [show swpB s l x (l.length - (x + 1)) (x + 1) = none from eb] at es
    simp (disch := first | assumption | omega | (simp only [az]; done)) only [ru, eq_self, if_true, if_false, BEq.rfl, binI, AO.row?, splice, fillL, mmAll, loadV, storeV, zeros, Am.rowAt, Am.part, addOff, Nat.reduceAdd, Nat.reduceMul, Nat.reduceLeDiff, Nat.reduceSub, Nat.reduceLT, Int.reduceEq, Int.reduceLT, Int.reduceLE, Int.reduceGT, Int.reduceGE, Int.reduceAdd, Int.reduceSub, Int.reduceMul, Int.reduceNeg, Int.reduceToNat, reduceCtorEq, reduceIte, hlt2]
    exact iha (l.length - (x + 1)) _ _ _ (by omega) ⟨x + 1, by omega, rfl, es, h0, h1, rfl, rfl, rfl, rfl, rfl, rfl, rfl⟩
  have hy' : y < l.length := by omega
  have h1l := (List.getElem?_eq_some_iff.1 h1).1
  obtain ⟨H2, hH2⟩ : ∃ H2, H2 = h ++ [AO.cells [I (x : Int), I (y : Int)] false] := ⟨_, rfl⟩
  have n0 : H2[0]? = some (.cells [I s.w.lo, I s.w.hi, p, b] false) := by rw [hH2, at_ap (by omega)]; exact h0
  have n1 : H2[1]? = some (.cells [I 0, I 0] false) := by rw [hH2, at_ap (by omega)]; exact h1
  have n2 : H2[h.length]? = some (.cells [I (x : Int), I (y : Int)] false) := by rw [hH2]; exact atE
  have hE := exch_at' (x := fun _ => True) hx' hy' hc
  have g43 := fun st => s43 V (by omega) hx' hy' st
  have XX := slV_is (esz := 1) (enc := intL) (l := exch l x y)
  have g2 := fun st => s97 H K XX (by omega) hE.2 U st
  simp only [seaV] at g2
  have eb2 : l.length - y = (l.length - (y + 1)) + 1 := by omega
  have eB : swpB s l x (l.length - (y + 1) + 1) y = if lft s l < lft s (exch l x y) then some y else swpB s l x (l.length - (y + 1)) (y + 1) := rfl
  rw [eb2, eB] at eb
  have o1 : ∀ Y : AO, (H2.set 1 Y)[1]? = some Y := fun Y => List.getElem?_set_self (List.getElem?_eq_some_iff.1 n1).1
  by_cases hcc : n < lft s (exch l x y)
  · rw [if_pos (by rw [← hn]; exact hcc)] at eb
    rw [eb] at es
    have es' : swp s l = some (x, y) := es
    rw [es']
    simp (disch := first | assumption | omega | (simp only [az]; done)) only [ru, eq_self, if_true, if_false, BEq.rfl, binI, AO.row?, splice, fillL, mmAll, loadV, storeV, zeros, Am.rowAt, Am.part, addOff, Nat.reduceAdd, Nat.reduceMul, Nat.reduceLeDiff, Nat.reduceSub, Nat.reduceLT, Int.reduceEq, Int.reduceLT, Int.reduceLE, Int.reduceGT, Int.reduceGE, Int.reduceAdd, Int.reduceSub, Int.reduceMul, Int.reduceNeg, Int.reduceToNat, reduceCtorEq, reduceIte, lenV_sl H.p, lenV_sl H.b, elem_sp H.p, elem_bt H.b, view_sl H.p, view_sl H.b, scalar_sl H.p, scalar_sl H.b, cells_sl H.p, cells_sl H.b, pure_sl H.p, pure_sl H.b, Int.toNat_natCast, lenV_sl V, elem_in V, view_sl V, scalar_sl V, cells_sl V, pure_sl V, Int.toNat_natCast, lenV_sl U, elem_in U, view_sl U, scalar_sl U, cells_sl U, pure_sl U, Int.toNat_natCast, lenV_sl XX, elem_in XX, view_sl XX, scalar_sl XX, cells_sl XX, pure_sl XX, Int.toNat_natCast, hlt2, atE, setE, ← hH2, n0, n1, n2, g, g43, g2, hcc, gt_iff_lt, decide_true, o1, finC2, getRes, Option.some.injEq, exists_eq_left']
  · rw [if_neg (by rw [← hn]; exact hcc)] at eb
    simp (disch := first | assumption | omega | (simp only [az]; done)) only [ru, eq_self, if_true, if_false, BEq.rfl, binI, AO.row?, splice, fillL, mmAll, loadV, storeV, zeros, Am.rowAt, Am.part, addOff, Nat.reduceAdd, Nat.reduceMul, Nat.reduceLeDiff, Nat.reduceSub, Nat.reduceLT, Int.reduceEq, Int.reduceLT, Int.reduceLE, Int.reduceGT, Int.reduceGE, Int.reduceAdd, Int.reduceSub, Int.reduceMul, Int.reduceNeg, Int.reduceToNat, reduceCtorEq, reduceIte, lenV_sl H.p, lenV_sl H.b, elem_sp H.p, elem_bt H.b, view_sl H.p, view_sl H.b, scalar_sl H.p, scalar_sl H.b, cells_sl H.p, cells_sl H.b, pure_sl H.p, pure_sl H.b, Int.toNat_natCast, lenV_sl V, elem_in V, view_sl V, scalar_sl V, cells_sl V, pure_sl V, Int.toNat_natCast, lenV_sl U, elem_in U, view_sl U, scalar_sl U, cells_sl U, pure_sl U, Int.toNat_natCast, lenV_sl XX, elem_in XX, view_sl XX, scalar_sl XX, cells_sl XX, pure_sl XX, Int.toNat_natCast, hlt2, atE, setE, ← hH2, n0, n2, g, g43, g2, hcc, gt_iff_lt, decide_false]
    exact ihb (l.length - (y + 1)) _ _ _ (by omega) ⟨y + 1, by omega, by omega, rfl, eb, n0, n1, rfl, rfl, rfl, rfl, rfl, rfl, rfl, rfl⟩
end
end Go.Proofs.Ytdmhbefdidmliaa.S

namespace Go.Proofs.Ytdmhbefdidmliaa.S
open Go Go.Am Go.Proofs.Ytdmhbefdidmliaa.T
theorem works_run : (callN E 100 (.fn 19) [] [] 0).map (·.1) = some (.bool true) := by kernel_rfl
end Go.Proofs.Ytdmhbefdidmliaa.S

/-
The helpers of the laws.
-/
namespace Go.Proofs.Ytdmhbefdidmliaa.S
open Go Go.Am Go.Proofs.Ytdmhbefdidmliaa.T
set_option maxRecDepth 100000
set_option linter.unusedSimpArgs false
set_option linter.unusedVariables false

theorem s19 (st : Bool) : Iso E 19 [] st = some (Bo true) := by
  obtain ⟨h', hr⟩ := R_res works_run
  simp only [Iso, hr, view_bool]
theorem s54 {l : List Int} {u v : AV} (U : IsSl 1 intL l u) (V : IsSl 1 intL l v) (hl : l.length ≤ 100000) (st : Bool) : Iso E 54 [u, v] st = some (Bo true) := by
  refine Iso_of (es _ _ _ _) e54 ?_
  simp only [f54]
  simp (disch := first | assumption | omega | (simp only [az]; done)) only [ru, eq_self, if_true, if_false, BEq.rfl, binI, AO.row?, splice, fillL, mmAll, loadV, storeV, zeros, Am.rowAt, Am.part, addOff, Nat.reduceAdd, Nat.reduceMul, Nat.reduceLeDiff, Nat.reduceSub, Nat.reduceLT, Int.reduceEq, Int.reduceLT, Int.reduceLE, Int.reduceGT, Int.reduceGE, Int.reduceAdd, Int.reduceSub, Int.reduceMul, Int.reduceNeg, Int.reduceToNat, reduceCtorEq, reduceIte, lenV_sl U, elem_in U, view_sl U, scalar_sl U, cells_sl U, pure_sl U, Int.toNat_natCast, lenV_sl V, elem_in V, view_sl V, scalar_sl V, cells_sl V, pure_sl V, Int.toNat_natCast, decide_true, Bool.not_true]
  refine G_loop_ind (fun m ts h mk => ∃ i : Nat, i ≤ l.length ∧ m = l.length - i ∧ ts.length = 26 ∧ ts.getD 0 .undef = u ∧ ts.getD 1 .undef = v ∧ ts.getD 5 .undef = I i ∧ h = [] ∧ mk = []) ?_ _ _ _ _ ⟨0, Nat.zero_le _, rfl, rfl, rfl, rfl, rfl, rfl, rfl⟩
  rintro m ts h mk ih ⟨i, hi, rfl, hl', q0, q1, q5, rfl, rfl⟩
  rw [lit_all hl']
  simp only [lit0, litS, Nat.reduceAdd, q0, q1, q5]
  simp (disch := first | assumption | omega | (simp only [az]; done)) only [ru, eq_self, if_true, if_false, BEq.rfl, binI, AO.row?, splice, fillL, mmAll, loadV, storeV, zeros, Am.rowAt, Am.part, addOff, Nat.reduceAdd, Nat.reduceMul, Nat.reduceLeDiff, Nat.reduceSub, Nat.reduceLT, Int.reduceEq, Int.reduceLT, Int.reduceLE, Int.reduceGT, Int.reduceGE, Int.reduceAdd, Int.reduceSub, Int.reduceMul, Int.reduceNeg, Int.reduceToNat, reduceCtorEq, reduceIte, lenV_sl U, elem_in U, view_sl U, scalar_sl U, cells_sl U, pure_sl U, Int.toNat_natCast]
  by_cases hlt : (i : Int) < l.length
  case pos =>
    simp (disch := first | assumption | omega | (simp only [az]; done)) only [ru, eq_self, if_true, if_false, BEq.rfl, binI, AO.row?, splice, fillL, mmAll, loadV, storeV, zeros, Am.rowAt, Am.part, addOff, Nat.reduceAdd, Nat.reduceMul, Nat.reduceLeDiff, Nat.reduceSub, Nat.reduceLT, Int.reduceEq, Int.reduceLT, Int.reduceLE, Int.reduceGT, Int.reduceGE, Int.reduceAdd, Int.reduceSub, Int.reduceMul, Int.reduceNeg, Int.reduceToNat, reduceCtorEq, reduceIte, lenV_sl U, elem_in U, view_sl U, scalar_sl U, cells_sl U, pure_sl U, Int.toNat_natCast, lenV_sl V, elem_in V, view_sl V, scalar_sl V, cells_sl V, pure_sl V, Int.toNat_natCast, hlt, decide_true, Bool.not_true]
    exact ih (l.length - (i + 1)) _ _ _ (by omega) ⟨i + 1, by omega, rfl, rfl, rfl, rfl, rfl, rfl, rfl⟩
  simp (disch := first | assumption | omega | (simp only [az]; done)) only [ru, eq_self, if_true, if_false, BEq.rfl, binI, AO.row?, splice, fillL, mmAll, loadV, storeV, zeros, Am.rowAt, Am.part, addOff, Nat.reduceAdd, Nat.reduceMul, Nat.reduceLeDiff, Nat.reduceSub, Nat.reduceLT, Int.reduceEq, Int.reduceLT, Int.reduceLE, Int.reduceGT, Int.reduceGE, Int.reduceAdd, Int.reduceSub, Int.reduceMul, Int.reduceNeg, Int.reduceToNat, reduceCtorEq, reduceIte, hlt]
theorem s44 {l : List Int} {v : AV} (V : IsSl 1 intL l v) (hl : l.length ≤ 1000) (k : Nat) (st : Bool) : ∃ q, Iso E 44 [v, I 0, I ((k : Int) - 1)] st = some (Bo q) ∧ (q = true ↔ ris k l) := by
  have key : (ris k l ↔ ∀ i, i < l.length → inR (l.getD i 0) 0 ((k : Int) - 1) = true ∧ (0 < i → l.getD (i - 1) 0 < l.getD i 0)) := by
    constructor
    · rintro ⟨h1, h2⟩ i hi
      have := h1 _ (getD_memI hi)
      refine ⟨inR_iff.2 (by omega), fun h0 => ?_⟩
      have := List.pairwise_iff_getElem.1 h2 (i - 1) i (by omega) hi (by omega)
      simpa [List.getD_eq_getElem?_getD, List.getElem?_eq_getElem hi, List.getElem?_eq_getElem (show i - 1 < l.length by omega)] using this
    · intro h
      refine ⟨fun x hx => ?_, ?_⟩
      · obtain ⟨i, hi, rfl⟩ := mem_getD (d := 0) hx
        have := inR_iff.1 (h i hi).1; omega
      · rw [List.pairwise_iff_getElem]
        have step : ∀ i d, i + d < l.length → 0 < d → l.getD i 0 < l.getD (i + d) 0 := by
          intro i d
          induction d with
          | zero => intro _ h; omega
          | succ d ih =>
            intro hd _
            have h1 := (h (i + (d + 1)) hd).2 (by omega)
            rw [show i + (d + 1) - 1 = i + d by omega] at h1
            by_cases e : d = 0
            · subst e; simpa using h1
            · have := ih (by omega) (by omega); omega
        intro i j hi hj hij
        have := step i (j - i) (by omega) (by omega)
        rw [show i + (j - i) = j by omega] at this
        simpa [List.getD_eq_getElem?_getD, List.getElem?_eq_getElem hi, List.getElem?_eq_getElem hj] using this
  rw [key]
  refine (fun x => ?_ : (∃ r h', R E (.fn 44) [v, I 0, I ((k : Int) - 1)] [] 0 = some (r, h') ∧ ∃ q, r = Bo q ∧ (q = true ↔ ∀ i, i < l.length → inR (l.getD i 0) 0 ((k : Int) - 1) = true ∧ (0 < i → l.getD (i - 1) 0 < l.getD i 0))) → _) (R_of _ (es _ _ _ _) e44 ?_)
  · obtain ⟨r, h', hr, q, rfl, hq⟩ := x
    exact ⟨q, by simp only [Iso, hr, view_bool], hq⟩
  simp only [f44]
  simp (disch := first | assumption | omega | (simp only [az]; done)) only [ru, eq_self, if_true, if_false, BEq.rfl, binI, AO.row?, splice, fillL, mmAll, loadV, storeV, zeros, Am.rowAt, Am.part, addOff, Nat.reduceAdd, Nat.reduceMul, Nat.reduceLeDiff, Nat.reduceSub, Nat.reduceLT, Int.reduceEq, Int.reduceLT, Int.reduceLE, Int.reduceGT, Int.reduceGE, Int.reduceAdd, Int.reduceSub, Int.reduceMul, Int.reduceNeg, Int.reduceToNat, reduceCtorEq, reduceIte]
  obtain ⟨e, he⟩ : ∃ e, e = (k : Int) - 1 := ⟨_, rfl⟩
  rw [← he]
  refine G_loop_ind (fun m ts h mk => ∃ i : Nat, i ≤ l.length ∧ m = l.length - i ∧ (∀ j, j < i → inR (l.getD j 0) 0 e = true ∧ (0 < j → l.getD (j - 1) 0 < l.getD j 0)) ∧ ts.length = 38 ∧ ts.getD 0 .undef = v ∧ ts.getD 1 .undef = I 0 ∧ ts.getD 2 .undef = I e ∧ ts.getD 7 .undef = I i ∧ h = [] ∧ mk = []) ?_ _ _ _ _ ⟨0, Nat.zero_le _, rfl, fun j h => by omega, rfl, rfl, rfl, rfl, rfl, rfl, rfl⟩
  rintro m ts h mk ih ⟨i, hi, rfl, hall, hl', q0, q1, q2, q7, rfl, rfl⟩
  rw [lit_all hl']
  simp only [lit0, litS, Nat.reduceAdd, q0, q1, q2, q7]
  simp (disch := first | assumption | omega | (simp only [az]; done)) only [ru, eq_self, if_true, if_false, BEq.rfl, binI, AO.row?, splice, fillL, mmAll, loadV, storeV, zeros, Am.rowAt, Am.part, addOff, Nat.reduceAdd, Nat.reduceMul, Nat.reduceLeDiff, Nat.reduceSub, Nat.reduceLT, Int.reduceEq, Int.reduceLT, Int.reduceLE, Int.reduceGT, Int.reduceGE, Int.reduceAdd, Int.reduceSub, Int.reduceMul, Int.reduceNeg, Int.reduceToNat, reduceCtorEq, reduceIte, lenV_sl V, elem_in V, view_sl V, scalar_sl V, cells_sl V, pure_sl V, Int.toNat_natCast]
  by_cases hlt : (i : Int) < l.length
  case neg =>
    obtain rfl : i = l.length := by omega
    simp (disch := first | assumption | omega | (simp only [az]; done)) only [ru, eq_self, if_true, if_false, BEq.rfl, binI, AO.row?, splice, fillL, mmAll, loadV, storeV, zeros, Am.rowAt, Am.part, addOff, Nat.reduceAdd, Nat.reduceMul, Nat.reduceLeDiff, Nat.reduceSub, Nat.reduceLT, Int.reduceEq, Int.reduceLT, Int.reduceLE, Int.reduceGT, Int.reduceGE, Int.reduceAdd, Int.reduceSub, Int.reduceMul, Int.reduceNeg, Int.reduceToNat, reduceCtorEq, reduceIte, hlt]
    exact ⟨true, rfl, fun _ => hall, fun _ => rfl⟩
  have hi' : i < l.length := by omega
  have ext : inR (l.getD i 0) 0 e = true → (0 < i → l.getD (i - 1) 0 < l.getD i 0) → ∀ j, j < i + 1 → inR (l.getD j 0) 0 e = true ∧ (0 < j → l.getD (j - 1) 0 < l.getD j 0) := fun h1 h2 j hj => by
    by_cases c : j = i
    · subst c; exact ⟨h1, h2⟩
    · exact hall j (by omega)
  have no1 : inR (l.getD i 0) 0 e = false → ¬ ∀ j, j < l.length → inR (l.getD j 0) 0 e = true ∧ (0 < j → l.getD (j - 1) 0 < l.getD j 0) := fun h hh => by have := (hh i hi').1; rw [h] at this; cases this
  have no2 : 0 < i → l.getD i 0 ≤ l.getD (i - 1) 0 → ¬ ∀ j, j < l.length → inR (l.getD j 0) 0 e = true ∧ (0 < j → l.getD (j - 1) 0 < l.getD j 0) := fun h0 h hh => by have := (hh i hi').2 h0; omega
  cases hc : inR (l.getD i 0) 0 e
  · simp (disch := first | assumption | omega | (simp only [az]; done)) only [ru, eq_self, if_true, if_false, BEq.rfl, binI, AO.row?, splice, fillL, mmAll, loadV, storeV, zeros, Am.rowAt, Am.part, addOff, Nat.reduceAdd, Nat.reduceMul, Nat.reduceLeDiff, Nat.reduceSub, Nat.reduceLT, Int.reduceEq, Int.reduceLT, Int.reduceLE, Int.reduceGT, Int.reduceGE, Int.reduceAdd, Int.reduceSub, Int.reduceMul, Int.reduceNeg, Int.reduceToNat, reduceCtorEq, reduceIte, lenV_sl V, elem_in V, view_sl V, scalar_sl V, cells_sl V, pure_sl V, Int.toNat_natCast, hlt, s17, hc, gUn, Bool.not_false]
    exact ⟨false, rfl, fun h => Bool.noConfusion h, fun h => absurd h (no1 hc)⟩
  by_cases h0 : i = 0
  · have hg : ¬ (i : Int) > 0 := by omega
    simp (disch := first | assumption | omega | (simp only [az]; done)) only [ru, eq_self, if_true, if_false, BEq.rfl, binI, AO.row?, splice, fillL, mmAll, loadV, storeV, zeros, Am.rowAt, Am.part, addOff, Nat.reduceAdd, Nat.reduceMul, Nat.reduceLeDiff, Nat.reduceSub, Nat.reduceLT, Int.reduceEq, Int.reduceLT, Int.reduceLE, Int.reduceGT, Int.reduceGE, Int.reduceAdd, Int.reduceSub, Int.reduceMul, Int.reduceNeg, Int.reduceToNat, reduceCtorEq, reduceIte, lenV_sl V, elem_in V, view_sl V, scalar_sl V, cells_sl V, pure_sl V, Int.toNat_natCast, hlt, s17, hc, gUn, hg, Bool.not_true, decide_false]
    exact ih (l.length - (i + 1)) _ _ _ (by omega) ⟨i + 1, by omega, rfl, ext hc (fun h => by omega), rfl, rfl, rfl, rfl, rfl, rfl, rfl⟩
  have hg : (i : Int) > 0 := by omega
  have hm1 : (0 : Int) ≤ (i : Int) - 1 := by omega
  have hm2 : (i : Int) - 1 < l.length := by omega
  have hm3 : ((i : Int) - 1).toNat = i - 1 := by omega
  by_cases hle : l.getD i 0 ≤ l.getD (i - 1) 0
  · simp (disch := first | assumption | omega | (simp only [az]; done)) only [ru, eq_self, if_true, if_false, BEq.rfl, binI, AO.row?, splice, fillL, mmAll, loadV, storeV, zeros, Am.rowAt, Am.part, addOff, Nat.reduceAdd, Nat.reduceMul, Nat.reduceLeDiff, Nat.reduceSub, Nat.reduceLT, Int.reduceEq, Int.reduceLT, Int.reduceLE, Int.reduceGT, Int.reduceGE, Int.reduceAdd, Int.reduceSub, Int.reduceMul, Int.reduceNeg, Int.reduceToNat, reduceCtorEq, reduceIte, lenV_sl V, elem_in V, view_sl V, scalar_sl V, cells_sl V, pure_sl V, Int.toNat_natCast, hlt, s17, hc, gUn, hg, hm1, hm2, hm3, hle, Bool.not_true, decide_true]
    exact ⟨false, rfl, fun h => Bool.noConfusion h, fun h => absurd h (no2 (by omega) hle)⟩
  · simp (disch := first | assumption | omega | (simp only [az]; done)) only [ru, eq_self, if_true, if_false, BEq.rfl, binI, AO.row?, splice, fillL, mmAll, loadV, storeV, zeros, Am.rowAt, Am.part, addOff, Nat.reduceAdd, Nat.reduceMul, Nat.reduceLeDiff, Nat.reduceSub, Nat.reduceLT, Int.reduceEq, Int.reduceLT, Int.reduceLE, Int.reduceGT, Int.reduceGE, Int.reduceAdd, Int.reduceSub, Int.reduceMul, Int.reduceNeg, Int.reduceToNat, reduceCtorEq, reduceIte, lenV_sl V, elem_in V, view_sl V, scalar_sl V, cells_sl V, pure_sl V, Int.toNat_natCast, hlt, s17, hc, gUn, hg, hm1, hm2, hm3, hle, Bool.not_true, decide_true, decide_false]
    exact ih (l.length - (i + 1)) _ _ _ (by omega) ⟨i + 1, by omega, rfl, ext hc (fun h => by omega), rfl, rfl, rfl, rfl, rfl, rfl, rfl⟩
theorem ear_drop {l m : List Int} {i : Nat} (hi : i < l.length) (hj : i < m.length) : ear (l.drop i) (m.drop i) = if l.getD i 0 ≠ m.getD i 0 then decide (l.getD i 0 < m.getD i 0) else ear (l.drop (i + 1)) (m.drop (i + 1)) := by
  rw [List.drop_eq_getElem_cons hi, List.drop_eq_getElem_cons hj]
  simp only [ear, List.getD_eq_getElem?_getD, List.getElem?_eq_getElem hi, List.getElem?_eq_getElem hj, Option.getD_some]
theorem s37 {l m : List Int} {u v : AV} (U : IsSl 1 intL l u) (V : IsSl 1 intL m v) (hl : l.length ≤ 1000) (hm : m.length ≤ 1000) (st : Bool) : Iso E 37 [u, v] st = some (Bo (ear l m)) := by
  refine Iso_of (es _ _ _ _) e37 ?_
  simp only [f37]
  simp (disch := first | assumption | omega | (simp only [az]; done)) only [ru, eq_self, if_true, if_false, BEq.rfl, binI, AO.row?, splice, fillL, mmAll, loadV, storeV, zeros, Am.rowAt, Am.part, addOff, Nat.reduceAdd, Nat.reduceMul, Nat.reduceLeDiff, Nat.reduceSub, Nat.reduceLT, Int.reduceEq, Int.reduceLT, Int.reduceLE, Int.reduceGT, Int.reduceGE, Int.reduceAdd, Int.reduceSub, Int.reduceMul, Int.reduceNeg, Int.reduceToNat, reduceCtorEq, reduceIte]
  refine G_loop_ind (fun n ts h mk => ∃ i : Nat, i ≤ l.length ∧ i ≤ m.length ∧ n = l.length - i ∧ ear l m = ear (l.drop i) (m.drop i) ∧ ts.length = 36 ∧ ts.getD 0 .undef = u ∧ ts.getD 1 .undef = v ∧ ts.getD 5 .undef = I i ∧ h = [] ∧ mk = []) ?_ _ _ _ _ ⟨0, Nat.zero_le _, Nat.zero_le _, rfl, rfl, rfl, rfl, rfl, rfl, rfl, rfl⟩
  rintro n ts h mk ih ⟨i, hi, hi2, rfl, he, hl', q0, q1, q5, rfl, rfl⟩
  rw [lit_all hl']
  simp only [lit0, litS, Nat.reduceAdd, q0, q1, q5]
  by_cases h1 : i < l.length
  case neg =>
    have h1' : ¬ (i : Int) < l.length := by omega
    have ev : ear l m = false := by rw [he, List.drop_eq_nil_of_le (by omega)]; simp [ear]
    simp (disch := first | assumption | omega | (simp only [az]; done)) only [ru, eq_self, if_true, if_false, BEq.rfl, binI, AO.row?, splice, fillL, mmAll, loadV, storeV, zeros, Am.rowAt, Am.part, addOff, Nat.reduceAdd, Nat.reduceMul, Nat.reduceLeDiff, Nat.reduceSub, Nat.reduceLT, Int.reduceEq, Int.reduceLT, Int.reduceLE, Int.reduceGT, Int.reduceGE, Int.reduceAdd, Int.reduceSub, Int.reduceMul, Int.reduceNeg, Int.reduceToNat, reduceCtorEq, reduceIte, lenV_sl U, elem_in U, view_sl U, scalar_sl U, cells_sl U, pure_sl U, Int.toNat_natCast, lenV_sl V, elem_in V, view_sl V, scalar_sl V, cells_sl V, pure_sl V, Int.toNat_natCast, h1', gUn, ev, decide_false]
  by_cases h2 : i < m.length
  case neg =>
    have h1' : (i : Int) < l.length := by omega
    have h2' : ¬ (i : Int) < m.length := by omega
    have ev : ear l m = false := by
      rw [he, List.drop_eq_nil_of_le (show m.length ≤ i by omega)]
      cases l.drop i <;> simp [ear]
    simp (disch := first | assumption | omega | (simp only [az]; done)) only [ru, eq_self, if_true, if_false, BEq.rfl, binI, AO.row?, splice, fillL, mmAll, loadV, storeV, zeros, Am.rowAt, Am.part, addOff, Nat.reduceAdd, Nat.reduceMul, Nat.reduceLeDiff, Nat.reduceSub, Nat.reduceLT, Int.reduceEq, Int.reduceLT, Int.reduceLE, Int.reduceGT, Int.reduceGE, Int.reduceAdd, Int.reduceSub, Int.reduceMul, Int.reduceNeg, Int.reduceToNat, reduceCtorEq, reduceIte, lenV_sl U, elem_in U, view_sl U, scalar_sl U, cells_sl U, pure_sl U, Int.toNat_natCast, lenV_sl V, elem_in V, view_sl V, scalar_sl V, cells_sl V, pure_sl V, Int.toNat_natCast, h1', h2', gUn, ev, decide_false, decide_true]
  have h1' : (i : Int) < l.length := by omega
  have h2' : (i : Int) < m.length := by omega
  rw [ear_drop h1 h2] at he
  by_cases hc : l.getD i 0 = m.getD i 0
  · rw [if_neg (fun h => h hc)] at he
    simp (disch := first | assumption | omega | (simp only [az]; done)) only [ru, eq_self, if_true, if_false, BEq.rfl, binI, AO.row?, splice, fillL, mmAll, loadV, storeV, zeros, Am.rowAt, Am.part, addOff, Nat.reduceAdd, Nat.reduceMul, Nat.reduceLeDiff, Nat.reduceSub, Nat.reduceLT, Int.reduceEq, Int.reduceLT, Int.reduceLE, Int.reduceGT, Int.reduceGE, Int.reduceAdd, Int.reduceSub, Int.reduceMul, Int.reduceNeg, Int.reduceToNat, reduceCtorEq, reduceIte, lenV_sl U, elem_in U, view_sl U, scalar_sl U, cells_sl U, pure_sl U, Int.toNat_natCast, lenV_sl V, elem_in V, view_sl V, scalar_sl V, cells_sl V, pure_sl V, Int.toNat_natCast, h1', h2', hc, decide_true, Bool.not_true]
    exact ih (l.length - (i + 1)) _ _ _ (by omega) ⟨i + 1, by omega, by omega, rfl, he, rfl, rfl, rfl, rfl, rfl, rfl⟩
  · rw [if_pos hc] at he
    simp (disch := first | assumption | omega | (simp only [az]; done)) only [ru, eq_self, if_true, if_false, BEq.rfl, binI, AO.row?, splice, fillL, mmAll, loadV, storeV, zeros, Am.rowAt, Am.part, addOff, Nat.reduceAdd, Nat.reduceMul, Nat.reduceLeDiff, Nat.reduceSub, Nat.reduceLT, Int.reduceEq, Int.reduceLT, Int.reduceLE, Int.reduceGT, Int.reduceGE, Int.reduceAdd, Int.reduceSub, Int.reduceMul, Int.reduceNeg, Int.reduceToNat, reduceCtorEq, reduceIte, lenV_sl U, elem_in U, view_sl U, scalar_sl U, cells_sl U, pure_sl U, Int.toNat_natCast, lenV_sl V, elem_in V, view_sl V, scalar_sl V, cells_sl V, pure_sl V, Int.toNat_natCast, h1', h2', hc, decide_true, decide_false, Bool.not_false, he]

section
variable {s : Sea} {p b : AV}
def far (s : Sea) : Bool := decide (40 < s.pl.length) || decide (40 < s.bo.length)
theorem far_no {s : Sea} {p b : AV} (H : SeaIn s p b) (h : far s = false) : SeaOk s p b := by
  simp only [far, Bool.or_eq_false_iff, decide_eq_false_iff_not] at h
  exact ⟨H, by omega, by omega⟩
theorem valid_far (h : far s = true) : s.valid = false := by
  cases hv : s.valid
  · rfl
  · have K := (valid_good hv).1
    have := K.sp.le; have := K.nb
    simp only [far, Bool.or_eq_true, decide_eq_true_eq] at h
    omega
theorem s50 (H : SeaIn s p b) (st : Bool) : Iso E 50 [seaV s p b] st = some (Bo (far s)) := by
  refine Iso_of (es _ _ _ _) e50 ?_
  simp only [f50, seaV, far]
  by_cases h1 : 40 < s.pl.length
  · have h1' : (s.pl.length : Int) > 40 := by omega
    simp (disch := first | assumption | omega | (simp only [az]; done)) only [ru, eq_self, if_true, if_false, BEq.rfl, binI, AO.row?, splice, fillL, mmAll, loadV, storeV, zeros, Am.rowAt, Am.part, addOff, Nat.reduceAdd, Nat.reduceMul, Nat.reduceLeDiff, Nat.reduceSub, Nat.reduceLT, Int.reduceEq, Int.reduceLT, Int.reduceLE, Int.reduceGT, Int.reduceGE, Int.reduceAdd, Int.reduceSub, Int.reduceMul, Int.reduceNeg, Int.reduceToNat, reduceCtorEq, reduceIte, lenV_sl H.p, lenV_sl H.b, elem_sp H.p, elem_bt H.b, view_sl H.p, view_sl H.b, scalar_sl H.p, scalar_sl H.b, cells_sl H.p, cells_sl H.b, pure_sl H.p, pure_sl H.b, Int.toNat_natCast, h1', h1, gUn, decide_true, Bool.true_or]
  · have h1' : ¬ (s.pl.length : Int) > 40 := by omega
    by_cases h2 : 40 < s.bo.length
    · have h2' : (s.bo.length : Int) > 40 := by omega
      simp (disch := first | assumption | omega | (simp only [az]; done)) only [ru, eq_self, if_true, if_false, BEq.rfl, binI, AO.row?, splice, fillL, mmAll, loadV, storeV, zeros, Am.rowAt, Am.part, addOff, Nat.reduceAdd, Nat.reduceMul, Nat.reduceLeDiff, Nat.reduceSub, Nat.reduceLT, Int.reduceEq, Int.reduceLT, Int.reduceLE, Int.reduceGT, Int.reduceGE, Int.reduceAdd, Int.reduceSub, Int.reduceMul, Int.reduceNeg, Int.reduceToNat, reduceCtorEq, reduceIte, lenV_sl H.p, lenV_sl H.b, elem_sp H.p, elem_bt H.b, view_sl H.p, view_sl H.b, scalar_sl H.p, scalar_sl H.b, cells_sl H.p, cells_sl H.b, pure_sl H.p, pure_sl H.b, Int.toNat_natCast, h1', h1, h2, h2', gUn, decide_false, decide_true, Bool.false_or]
    · have h2' : ¬ (s.bo.length : Int) > 40 := by omega
      simp (disch := first | assumption | omega | (simp only [az]; done)) only [ru, eq_self, if_true, if_false, BEq.rfl, binI, AO.row?, splice, fillL, mmAll, loadV, storeV, zeros, Am.rowAt, Am.part, addOff, Nat.reduceAdd, Nat.reduceMul, Nat.reduceLeDiff, Nat.reduceSub, Nat.reduceLT, Int.reduceEq, Int.reduceLT, Int.reduceLE, Int.reduceGT, Int.reduceGE, Int.reduceAdd, Int.reduceSub, Int.reduceMul, Int.reduceNeg, Int.reduceToNat, reduceCtorEq, reduceIte, lenV_sl H.p, lenV_sl H.b, elem_sp H.p, elem_bt H.b, view_sl H.p, view_sl H.b, scalar_sl H.p, scalar_sl H.b, cells_sl H.p, cells_sl H.b, pure_sl H.p, pure_sl H.b, Int.toNat_natCast, h1', h1, h2, h2', gUn, decide_false, Bool.false_or]
theorem s16 (H : SeaIn s p b) (st : Bool) : Iso E 16 [seaV s p b] st = some (Bo s.valid) := by
  have g := fun st => s50 H st
  refine Iso_of (es _ _ _ _) e16 ?_
  simp only [f16, seaV] at g ⊢
  cases hf : far s
  · have g2 := fun st => s53 (far_no H hf) st
    simp only [seaV] at g2
    cases hv : s.valid
    · simp (disch := first | assumption | omega | (simp only [az]; done)) only [ru, eq_self, if_true, if_false, BEq.rfl, binI, AO.row?, splice, fillL, mmAll, loadV, storeV, zeros, Am.rowAt, Am.part, addOff, Nat.reduceAdd, Nat.reduceMul, Nat.reduceLeDiff, Nat.reduceSub, Nat.reduceLT, Int.reduceEq, Int.reduceLT, Int.reduceLE, Int.reduceGT, Int.reduceGE, Int.reduceAdd, Int.reduceSub, Int.reduceMul, Int.reduceNeg, Int.reduceToNat, reduceCtorEq, reduceIte, lenV_sl H.p, lenV_sl H.b, elem_sp H.p, elem_bt H.b, view_sl H.p, view_sl H.b, scalar_sl H.p, scalar_sl H.b, cells_sl H.p, cells_sl H.b, pure_sl H.p, pure_sl H.b, Int.toNat_natCast, g, hf, g2, hv, vE, Bool.not_false, Bool.false_eq_true, decide_false]
    · simp (disch := first | assumption | omega | (simp only [az]; done)) only [ru, eq_self, if_true, if_false, BEq.rfl, binI, AO.row?, splice, fillL, mmAll, loadV, storeV, zeros, Am.rowAt, Am.part, addOff, Nat.reduceAdd, Nat.reduceMul, Nat.reduceLeDiff, Nat.reduceSub, Nat.reduceLT, Int.reduceEq, Int.reduceLT, Int.reduceLE, Int.reduceGT, Int.reduceGE, Int.reduceAdd, Int.reduceSub, Int.reduceMul, Int.reduceNeg, Int.reduceToNat, reduceCtorEq, reduceIte, lenV_sl H.p, lenV_sl H.b, elem_sp H.p, elem_bt H.b, view_sl H.p, view_sl H.b, scalar_sl H.p, scalar_sl H.b, cells_sl H.p, cells_sl H.b, pure_sl H.p, pure_sl H.b, Int.toNat_natCast, g, hf, g2, hv, vE, Bool.not_false, decide_true]
  · have hv := valid_far hf
    simp (disch := first | assumption | omega | (simp only [az]; done)) only [ru, eq_self, if_true, if_false, BEq.rfl, binI, AO.row?, splice, fillL, mmAll, loadV, storeV, zeros, Am.rowAt, Am.part, addOff, Nat.reduceAdd, Nat.reduceMul, Nat.reduceLeDiff, Nat.reduceSub, Nat.reduceLT, Int.reduceEq, Int.reduceLT, Int.reduceLE, Int.reduceGT, Int.reduceGE, Int.reduceAdd, Int.reduceSub, Int.reduceMul, Int.reduceNeg, Int.reduceToNat, reduceCtorEq, reduceIte, lenV_sl H.p, lenV_sl H.b, elem_sp H.p, elem_bt H.b, view_sl H.p, view_sl H.b, scalar_sl H.p, scalar_sl H.b, cells_sl H.p, cells_sl H.b, pure_sl H.p, pure_sl H.b, Int.toNat_natCast, g, hf, hv, gUn, Bool.not_true]
theorem s59 {p' b' : AV} (H : SeaOk s p b) (H' : SeaOk s p' b') (st : Bool) : Iso E 59 [seaV s p b, seaV s p' b'] st = some (Bo true) := by
  have sp := H.sp; have sb := H.sb
  refine Iso_of (es _ _ _ _) e59 ?_
  simp only [f59, seaV]
  simp (disch := first | assumption | omega | (simp only [az]; done)) only [ru, eq_self, if_true, if_false, BEq.rfl, binI, AO.row?, splice, fillL, mmAll, loadV, storeV, zeros, Am.rowAt, Am.part, addOff, Nat.reduceAdd, Nat.reduceMul, Nat.reduceLeDiff, Nat.reduceSub, Nat.reduceLT, Int.reduceEq, Int.reduceLT, Int.reduceLE, Int.reduceGT, Int.reduceGE, Int.reduceAdd, Int.reduceSub, Int.reduceMul, Int.reduceNeg, Int.reduceToNat, reduceCtorEq, reduceIte, lenV_sl H.p, lenV_sl H.b, elem_sp H.p, elem_bt H.b, view_sl H.p, view_sl H.b, scalar_sl H.p, scalar_sl H.b, cells_sl H.p, cells_sl H.b, pure_sl H.p, pure_sl H.b, Int.toNat_natCast, lenV_sl H'.p, lenV_sl H'.b, elem_sp H'.p, elem_bt H'.b, view_sl H'.p, view_sl H'.b, scalar_sl H'.p, scalar_sl H'.b, cells_sl H'.p, cells_sl H'.b, pure_sl H'.p, pure_sl H'.b, Int.toNat_natCast, decide_true, Bool.not_true]
  refine G_loop_ind (fun m ts h mk => ∃ i : Nat, i ≤ s.pl.length ∧ m = s.pl.length - i ∧ ts.length = 66 ∧ ts.getD 2 .undef = .ptr 0 0 ∧ ts.getD 3 .undef = .ptr 1 0 ∧ ts.getD 5 .undef = I i ∧ h = [.cells [I s.w.lo, I s.w.hi, p, b] false, .cells [I s.w.lo, I s.w.hi, p', b'] false] ∧ mk = []) ?_ _ _ _ _ ⟨0, Nat.zero_le _, rfl, rfl, rfl, rfl, rfl, rfl, rfl⟩
  rintro m ts h mk ih ⟨i, hi, rfl, hl', q2, q3, q5, rfl, rfl⟩
  rw [lit_all hl']
  simp only [lit0, litS, Nat.reduceAdd, q2, q3, q5]
  simp (disch := first | assumption | omega | (simp only [az]; done)) only [ru, eq_self, if_true, if_false, BEq.rfl, binI, AO.row?, splice, fillL, mmAll, loadV, storeV, zeros, Am.rowAt, Am.part, addOff, Nat.reduceAdd, Nat.reduceMul, Nat.reduceLeDiff, Nat.reduceSub, Nat.reduceLT, Int.reduceEq, Int.reduceLT, Int.reduceLE, Int.reduceGT, Int.reduceGE, Int.reduceAdd, Int.reduceSub, Int.reduceMul, Int.reduceNeg, Int.reduceToNat, reduceCtorEq, reduceIte, lenV_sl H.p, lenV_sl H.b, elem_sp H.p, elem_bt H.b, view_sl H.p, view_sl H.b, scalar_sl H.p, scalar_sl H.b, cells_sl H.p, cells_sl H.b, pure_sl H.p, pure_sl H.b, Int.toNat_natCast]
  by_cases hlt : (i : Int) < s.pl.length
  case pos =>
    simp (disch := first | assumption | omega | (simp only [az]; done)) only [ru, eq_self, if_true, if_false, BEq.rfl, binI, AO.row?, splice, fillL, mmAll, loadV, storeV, zeros, Am.rowAt, Am.part, addOff, Nat.reduceAdd, Nat.reduceMul, Nat.reduceLeDiff, Nat.reduceSub, Nat.reduceLT, Int.reduceEq, Int.reduceLT, Int.reduceLE, Int.reduceGT, Int.reduceGE, Int.reduceAdd, Int.reduceSub, Int.reduceMul, Int.reduceNeg, Int.reduceToNat, reduceCtorEq, reduceIte, lenV_sl H.p, lenV_sl H.b, elem_sp H.p, elem_bt H.b, view_sl H.p, view_sl H.b, scalar_sl H.p, scalar_sl H.b, cells_sl H.p, cells_sl H.b, pure_sl H.p, pure_sl H.b, Int.toNat_natCast, lenV_sl H'.p, lenV_sl H'.b, elem_sp H'.p, elem_bt H'.b, view_sl H'.p, view_sl H'.b, scalar_sl H'.p, scalar_sl H'.b, cells_sl H'.p, cells_sl H'.b, pure_sl H'.p, pure_sl H'.b, Int.toNat_natCast, hlt, decide_true, Bool.not_true]
    exact ih (s.pl.length - (i + 1)) _ _ _ (by omega) ⟨i + 1, by omega, rfl, rfl, rfl, rfl, rfl, rfl, rfl⟩
  simp (disch := first | assumption | omega | (simp only [az]; done)) only [ru, eq_self, if_true, if_false, BEq.rfl, binI, AO.row?, splice, fillL, mmAll, loadV, storeV, zeros, Am.rowAt, Am.part, addOff, Nat.reduceAdd, Nat.reduceMul, Nat.reduceLeDiff, Nat.reduceSub, Nat.reduceLT, Int.reduceEq, Int.reduceLT, Int.reduceLE, Int.reduceGT, Int.reduceGE, Int.reduceAdd, Int.reduceSub, Int.reduceMul, Int.reduceNeg, Int.reduceToNat, reduceCtorEq, reduceIte, hlt]
  clear ih hl' q2 q3 q5 hlt hi
  refine G_loop_ind (fun m ts h mk => ∃ i : Nat, i ≤ s.bo.length ∧ m = s.bo.length - i ∧ ts.length = 66 ∧ ts.getD 2 .undef = .ptr 0 0 ∧ ts.getD 3 .undef = .ptr 1 0 ∧ ts.getD 6 .undef = I i ∧ h = [.cells [I s.w.lo, I s.w.hi, p, b] false, .cells [I s.w.lo, I s.w.hi, p', b'] false] ∧ mk = []) ?_ _ _ _ _ ⟨0, Nat.zero_le _, rfl, rfl, rfl, rfl, rfl, rfl, rfl⟩
  rintro m ts h mk ih ⟨i, hi, rfl, hl', q2, q3, q6, rfl, rfl⟩
  rw [lit_all hl']
  simp only [lit0, litS, Nat.reduceAdd, q2, q3, q6]
  simp (disch := first | assumption | omega | (simp only [az]; done)) only [ru, eq_self, if_true, if_false, BEq.rfl, binI, AO.row?, splice, fillL, mmAll, loadV, storeV, zeros, Am.rowAt, Am.part, addOff, Nat.reduceAdd, Nat.reduceMul, Nat.reduceLeDiff, Nat.reduceSub, Nat.reduceLT, Int.reduceEq, Int.reduceLT, Int.reduceLE, Int.reduceGT, Int.reduceGE, Int.reduceAdd, Int.reduceSub, Int.reduceMul, Int.reduceNeg, Int.reduceToNat, reduceCtorEq, reduceIte, lenV_sl H.p, lenV_sl H.b, elem_sp H.p, elem_bt H.b, view_sl H.p, view_sl H.b, scalar_sl H.p, scalar_sl H.b, cells_sl H.p, cells_sl H.b, pure_sl H.p, pure_sl H.b, Int.toNat_natCast]
  by_cases hlt : (i : Int) < s.bo.length
  case pos =>
    simp (disch := first | assumption | omega | (simp only [az]; done)) only [ru, eq_self, if_true, if_false, BEq.rfl, binI, AO.row?, splice, fillL, mmAll, loadV, storeV, zeros, Am.rowAt, Am.part, addOff, Nat.reduceAdd, Nat.reduceMul, Nat.reduceLeDiff, Nat.reduceSub, Nat.reduceLT, Int.reduceEq, Int.reduceLT, Int.reduceLE, Int.reduceGT, Int.reduceGE, Int.reduceAdd, Int.reduceSub, Int.reduceMul, Int.reduceNeg, Int.reduceToNat, reduceCtorEq, reduceIte, lenV_sl H.p, lenV_sl H.b, elem_sp H.p, elem_bt H.b, view_sl H.p, view_sl H.b, scalar_sl H.p, scalar_sl H.b, cells_sl H.p, cells_sl H.b, pure_sl H.p, pure_sl H.b, Int.toNat_natCast, lenV_sl H'.p, lenV_sl H'.b, elem_sp H'.p, elem_bt H'.b, view_sl H'.p, view_sl H'.b, scalar_sl H'.p, scalar_sl H'.b, cells_sl H'.p, cells_sl H'.b, pure_sl H'.p, pure_sl H'.b, Int.toNat_natCast, hlt, decide_true, Bool.not_true]
    exact ih (s.bo.length - (i + 1)) _ _ _ (by omega) ⟨i + 1, by omega, rfl, rfl, rfl, rfl, rfl, rfl, rfl⟩
  simp (disch := first | assumption | omega | (simp only [az]; done)) only [ru, eq_self, if_true, if_false, BEq.rfl, binI, AO.row?, splice, fillL, mmAll, loadV, storeV, zeros, Am.rowAt, Am.part, addOff, Nat.reduceAdd, Nat.reduceMul, Nat.reduceLeDiff, Nat.reduceSub, Nat.reduceLT, Int.reduceEq, Int.reduceLT, Int.reduceLE, Int.reduceGT, Int.reduceGE, Int.reduceAdd, Int.reduceSub, Int.reduceMul, Int.reduceNeg, Int.reduceToNat, reduceCtorEq, reduceIte, hlt]

theorem s20 (H : SeaOk s p b) (hv : s.valid = true) : Iso E 20 [seaV s p b] false = some (.tup [resL (nds s), Bo true]) := by
  have K := (valid_good hv).1
  have sp := H.sp
  refine Iso_of (es _ _ _ _) e20 ?_
  simp only [f20, seaV]
  simp (disch := first | assumption | omega | (simp only [az]; done)) only [ru, eq_self, if_true, if_false, BEq.rfl, binI, AO.row?, splice, fillL, mmAll, loadV, storeV, zeros, Am.rowAt, Am.part, addOff, Nat.reduceAdd, Nat.reduceMul, Nat.reduceLeDiff, Nat.reduceSub, Nat.reduceLT, Int.reduceEq, Int.reduceLT, Int.reduceLE, Int.reduceGT, Int.reduceGE, Int.reduceAdd, Int.reduceSub, Int.reduceMul, Int.reduceNeg, Int.reduceToNat, reduceCtorEq, reduceIte]
  refine G_loop_ind (fun m ts h mk => ∃ (i : Nat) (J : List AO) (o : AV), i ≤ s.pl.length ∧ m = s.pl.length - i ∧ OutE intL 1 1 (.cells [I s.w.lo, I s.w.hi, p, b] false :: J) o ((List.range i).map (needv s)) ∧ ts.length = 36 ∧ ts.getD 1 .undef = .ptr 0 0 ∧ ts.getD 4 .undef = o ∧ ts.getD 5 .undef = I i ∧ h = .cells [I s.w.lo, I s.w.hi, p, b] false :: J ∧ mk = []) ?_ _ _ _ _
    ⟨0, [], .nils, Nat.zero_le _, rfl, .inl ⟨rfl, rfl⟩, rfl, rfl, rfl, rfl, rfl, rfl⟩
  rintro m ts h mk ih ⟨i, J, o, hi, rfl, ho, hl', q1, q4, q5, rfl, rfl⟩
  rw [lit_all hl']
  simp only [lit0, litS, Nat.reduceAdd, q1, q4, q5]
  simp (disch := first | assumption | omega | (simp only [az]; done)) only [ru, eq_self, if_true, if_false, BEq.rfl, binI, AO.row?, splice, fillL, mmAll, loadV, storeV, zeros, Am.rowAt, Am.part, addOff, Nat.reduceAdd, Nat.reduceMul, Nat.reduceLeDiff, Nat.reduceSub, Nat.reduceLT, Int.reduceEq, Int.reduceLT, Int.reduceLE, Int.reduceGT, Int.reduceGE, Int.reduceAdd, Int.reduceSub, Int.reduceMul, Int.reduceNeg, Int.reduceToNat, reduceCtorEq, reduceIte, lenV_sl H.p, lenV_sl H.b, elem_sp H.p, elem_bt H.b, view_sl H.p, view_sl H.b, scalar_sl H.p, scalar_sl H.b, cells_sl H.p, cells_sl H.b, pure_sl H.p, pure_sl H.b, Int.toNat_natCast]
  by_cases hlt : (i : Int) < s.pl.length
  case pos =>
    have hi' : i < s.pl.length := by omega
    have g := fun st => s57 H (i : Int) st
    have hq : inR (i : Int) 0 (s.pl.length - 1) = true := inR_iff.2 (by omega)
    simp only [seaV, neeR, hv, hq, if_true, Int.toNat_natCast] at g
    obtain ⟨_, _, n1, n2⟩ := need_ok K hi'
    have n1' : ¬ needv s i < 0 := by omega
    have n2' : ¬ needv s i > 2000 := by omega
    obtain ⟨v', J', ha, ho'⟩ := outE_app (pre := [(.cells [I s.w.lo, I s.w.hi, p, b] false : AO)]) (J := J) (eb := 8) (lim := 0) intE intSc (by omega) (by omega) (by omega) ho (Nat.zero_le _) (by simp; omega) (needv s i)
    simp only [apC, apN, lenS, len0, Nat.zero_add] at ha ho'
    simp (disch := first | assumption | omega | (simp only [az]; done)) only [ru, eq_self, if_true, if_false, BEq.rfl, binI, AO.row?, splice, fillL, mmAll, loadV, storeV, zeros, Am.rowAt, Am.part, addOff, Nat.reduceAdd, Nat.reduceMul, Nat.reduceLeDiff, Nat.reduceSub, Nat.reduceLT, Int.reduceEq, Int.reduceLT, Int.reduceLE, Int.reduceGT, Int.reduceGE, Int.reduceAdd, Int.reduceSub, Int.reduceMul, Int.reduceNeg, Int.reduceToNat, reduceCtorEq, reduceIte, lenV_sl H.p, lenV_sl H.b, elem_sp H.p, elem_bt H.b, view_sl H.p, view_sl H.b, scalar_sl H.p, scalar_sl H.b, cells_sl H.p, cells_sl H.b, pure_sl H.p, pure_sl H.b, Int.toNat_natCast, hlt, g, n1', n2', decide_false, decide_true, Bool.not_true, exOp_litS, AV.pureV.go, AV.pureV, Bool.and_true, ha]
    exact ih (s.pl.length - (i + 1)) _ _ _ (by omega) ⟨i + 1, J', v', by omega, rfl, by rw [rmap_succ]; exact ho', rfl, rfl, rfl, rfl, rfl, rfl⟩
  obtain rfl : i = s.pl.length := by omega
  have vw := ho.viewL (st := false) (k := 6)
  simp (disch := first | assumption | omega | (simp only [az]; done)) only [ru, eq_self, if_true, if_false, BEq.rfl, binI, AO.row?, splice, fillL, mmAll, loadV, storeV, zeros, Am.rowAt, Am.part, addOff, Nat.reduceAdd, Nat.reduceMul, Nat.reduceLeDiff, Nat.reduceSub, Nat.reduceLT, Int.reduceEq, Int.reduceLT, Int.reduceLE, Int.reduceGT, Int.reduceGE, Int.reduceAdd, Int.reduceSub, Int.reduceMul, Int.reduceNeg, Int.reduceToNat, reduceCtorEq, reduceIte, hlt, vw]
  rfl
def canV (s : Sea) (l : List Int) : Int := if crB s l then lft s l else -1
theorem s28 (H : SeaOk s p b) (hv : s.valid = true) {l : List Int} {v : AV} (V : IsSl 1 intL l v) (hl : l.length ≤ 41) (st : Bool) : Iso E 28 [seaV s p b, v] st = some (I (canV s l)) := by
  have K := (valid_good hv).1
  obtain ⟨w, x0, x1, A, RD⟩ := cpyG (eb := 8) (lim := 0) (J := []) (h := [.cells [I s.w.lo, I s.w.hi, p, b] false]) V intE intSc (by omega) (by omega) (Nat.zero_le _)
  have rv := fun st => (RD []).view intE intIv (st := st) (k := 7)
  have g := fun st => s61 H (slV_is (l := l)) hl st
  simp only [apC, apN, lenS, len0, Nat.zero_add] at A rv
  refine Iso_of (es _ _ _ _) e28 ?_
  simp only [f28, seaV, lifR, hv, if_true, canV] at g ⊢
  cases hc : crB s l
  · simp only [hc, Bool.false_eq_true, if_false] at g
    simp (disch := first | assumption | omega | (simp only [az]; done)) only [ru, eq_self, if_true, if_false, BEq.rfl, binI, AO.row?, splice, fillL, mmAll, loadV, storeV, zeros, Am.rowAt, Am.part, addOff, Nat.reduceAdd, Nat.reduceMul, Nat.reduceLeDiff, Nat.reduceSub, Nat.reduceLT, Int.reduceEq, Int.reduceLT, Int.reduceLE, Int.reduceGT, Int.reduceGE, Int.reduceAdd, Int.reduceSub, Int.reduceMul, Int.reduceNeg, Int.reduceToNat, reduceCtorEq, reduceIte, lenV_sl H.p, lenV_sl H.b, elem_sp H.p, elem_bt H.b, view_sl H.p, view_sl H.b, scalar_sl H.p, scalar_sl H.b, cells_sl H.p, cells_sl H.b, pure_sl H.p, pure_sl H.b, Int.toNat_natCast, lenV_sl V, elem_in V, view_sl V, scalar_sl V, cells_sl V, pure_sl V, Int.toNat_natCast, GO_mapp, unhN, unhC, A, rv, g, Bool.false_eq_true, decide_false, decide_true, Bool.not_false, gUn]
  · simp only [hc, if_true] at g
    have l1 : 0 ≤ lft s l := lftU_ge K (l := l) (k := l.length) (by rw [(cr_at hc).1]; omega)
    have l2 : lft s l ≤ 2000 := lftU_le
    have l1' : ¬ lft s l < 0 := by omega
    have l2' : ¬ lft s l > 2000 := by omega
    simp (disch := first | assumption | omega | (simp only [az]; done)) only [ru, eq_self, if_true, if_false, BEq.rfl, binI, AO.row?, splice, fillL, mmAll, loadV, storeV, zeros, Am.rowAt, Am.part, addOff, Nat.reduceAdd, Nat.reduceMul, Nat.reduceLeDiff, Nat.reduceSub, Nat.reduceLT, Int.reduceEq, Int.reduceLT, Int.reduceLE, Int.reduceGT, Int.reduceGE, Int.reduceAdd, Int.reduceSub, Int.reduceMul, Int.reduceNeg, Int.reduceToNat, reduceCtorEq, reduceIte, lenV_sl H.p, lenV_sl H.b, elem_sp H.p, elem_bt H.b, view_sl H.p, view_sl H.b, scalar_sl H.p, scalar_sl H.b, cells_sl H.p, cells_sl H.b, pure_sl H.p, pure_sl H.b, Int.toNat_natCast, lenV_sl V, elem_in V, view_sl V, scalar_sl V, cells_sl V, pure_sl V, Int.toNat_natCast, GO_mapp, unhN, unhC, A, rv, g, decide_false, decide_true, Bool.not_true, l1', l2']
theorem s33 (H : SeaOk s p b) (hv : s.valid = true) (st : Bool) : Iso E 33 [seaV s p b] st = some (.tup [I (mosv s), Bo true]) := by
  have g := fun st => s67 H st
  have m := most_le (s := s)
  have m1 : most s ≥ 0 := by omega
  have m2 : most s ≤ 2000 := m.2
  refine Iso_of (es _ _ _ _) e33 ?_
  simp only [f33, seaV, mosR, hv, if_true, mosv] at g ⊢
  by_cases hc : s.pl.length ≤ s.bo.length
  · have hc' : ¬ s.bo.length < s.pl.length := by omega
    have hc2 : (s.bo.length : Int) ≥ s.pl.length := by omega
    simp only [hc, if_true] at g
    simp (disch := first | assumption | omega | (simp only [az]; done)) only [ru, eq_self, if_true, if_false, BEq.rfl, binI, AO.row?, splice, fillL, mmAll, loadV, storeV, zeros, Am.rowAt, Am.part, addOff, Nat.reduceAdd, Nat.reduceMul, Nat.reduceLeDiff, Nat.reduceSub, Nat.reduceLT, Int.reduceEq, Int.reduceLT, Int.reduceLE, Int.reduceGT, Int.reduceGE, Int.reduceAdd, Int.reduceSub, Int.reduceMul, Int.reduceNeg, Int.reduceToNat, reduceCtorEq, reduceIte, lenV_sl H.p, lenV_sl H.b, elem_sp H.p, elem_bt H.b, view_sl H.p, view_sl H.b, scalar_sl H.p, scalar_sl H.b, cells_sl H.p, cells_sl H.b, pure_sl H.p, pure_sl H.b, Int.toNat_natCast, g, hc', hc2, m1, m2, decide_true, decide_false]
  · have hc' : s.bo.length < s.pl.length := by omega
    have hc2 : (s.bo.length : Int) < s.pl.length := by omega
    simp only [hc, if_false] at g
    simp (disch := first | assumption | omega | (simp only [az]; done)) only [ru, eq_self, if_true, if_false, BEq.rfl, binI, AO.row?, splice, fillL, mmAll, loadV, storeV, zeros, Am.rowAt, Am.part, addOff, Nat.reduceAdd, Nat.reduceMul, Nat.reduceLeDiff, Nat.reduceSub, Nat.reduceLT, Int.reduceEq, Int.reduceLT, Int.reduceLE, Int.reduceGT, Int.reduceGE, Int.reduceAdd, Int.reduceSub, Int.reduceMul, Int.reduceNeg, Int.reduceToNat, reduceCtorEq, reduceIte, lenV_sl H.p, lenV_sl H.b, elem_sp H.p, elem_bt H.b, view_sl H.p, view_sl H.b, scalar_sl H.p, scalar_sl H.b, cells_sl H.p, cells_sl H.b, pure_sl H.p, pure_sl H.b, Int.toNat_natCast, g, hc', hc2, decide_true]
theorem s39 (H : SeaOk s p b) (hv : s.valid = true) (st : Bool) : Iso E 39 [seaV s p b] st = some (.tup [I (chp s), Bo true]) := by
  have g := fun st => s32 H st
  have K := (valid_good hv).1
  refine Iso_of (es _ _ _ _) e39 ?_
  simp only [f39, seaV, cheR, hv, if_true, chp] at g ⊢
  cases hc : crew s with
  | none =>
    simp only [hc] at g
    simp (disch := first | assumption | omega | (simp only [az]; done)) only [ru, eq_self, if_true, if_false, BEq.rfl, binI, AO.row?, splice, fillL, mmAll, loadV, storeV, zeros, Am.rowAt, Am.part, addOff, Nat.reduceAdd, Nat.reduceMul, Nat.reduceLeDiff, Nat.reduceSub, Nat.reduceLT, Int.reduceEq, Int.reduceLT, Int.reduceLE, Int.reduceGT, Int.reduceGE, Int.reduceAdd, Int.reduceSub, Int.reduceMul, Int.reduceNeg, Int.reduceToNat, reduceCtorEq, reduceIte, lenV_sl H.p, lenV_sl H.b, elem_sp H.p, elem_bt H.b, view_sl H.p, view_sl H.b, scalar_sl H.p, scalar_sl H.b, cells_sl H.p, cells_sl H.b, pure_sl H.p, pure_sl H.b, Int.toNat_natCast, g, decide_true]
  | some l =>
    simp only [hc] at g
    have c := cst_le K (crew_some hc).1.1
    have c1 : cst s l ≥ 0 := c.1
    have c2 : cst s l < 10000 := by omega
    simp (disch := first | assumption | omega | (simp only [az]; done)) only [ru, eq_self, if_true, if_false, BEq.rfl, binI, AO.row?, splice, fillL, mmAll, loadV, storeV, zeros, Am.rowAt, Am.part, addOff, Nat.reduceAdd, Nat.reduceMul, Nat.reduceLeDiff, Nat.reduceSub, Nat.reduceLT, Int.reduceEq, Int.reduceLT, Int.reduceLE, Int.reduceGT, Int.reduceGE, Int.reduceAdd, Int.reduceSub, Int.reduceMul, Int.reduceNeg, Int.reduceToNat, reduceCtorEq, reduceIte, lenV_sl H.p, lenV_sl H.b, elem_sp H.p, elem_bt H.b, view_sl H.p, view_sl H.b, scalar_sl H.p, scalar_sl H.b, cells_sl H.p, cells_sl H.b, pure_sl H.p, pure_sl H.b, Int.toNat_natCast, g, c1, c2, decide_true, decide_false]
end
end Go.Proofs.Ytdmhbefdidmliaa.S

/-
The inputs of the laws of stage 5, as the abstract machine has them.
-/
namespace Go.Proofs.Ytdmhbefdidmliaa.S
open Go Go.Am Go.Proofs.Ytdmhbefdidmliaa.T
set_option linter.unusedVariables false
set_option maxRecDepth 100000

theorem z3 : Try.prog.cellsOf 3 = 1 := by kernel_rfl
theorem z23 : Try.prog.cellsOf 23 = 2 := by kernel_rfl
theorem z24 : Try.prog.cellsOf 24 = 1 := by kernel_rfl
theorem z25 : Try.prog.cellsOf 25 = 1 := by kernel_rfl
theorem z27 : Try.prog.cellsOf 27 = 4 := by kernel_rfl
theorem z29 : Try.prog.cellsOf 29 = 2 := by kernel_rfl
theorem z30 : Try.prog.cellsOf 30 = 1 := by kernel_rfl
theorem z46 : Try.prog.cellsOf 46 = 2 := by kernel_rfl
theorem z61 : Try.prog.cellsOf 61 = 2 := by kernel_rfl
theorem z63 : Try.prog.cellsOf 63 = 3 := by kernel_rfl
theorem z68 : Try.prog.cellsOf 68 = 2 := by kernel_rfl

theorem wfIc {d : Nat} {c : List AV} (h : WfC Try.prog (d + 1) 3 c) : ∃ i, c = [I i] ∧ True := by
  obtain ⟨i, e, hw⟩ := wf_int Try.underlying3 h
  exact ⟨i, e, trivial⟩
theorem wfI {d : Nat} {a : AV} (h : WfC Try.prog (d + 1) 3 [a]) : ∃ i, a = I i ∧ True := by
  obtain ⟨i, e, _⟩ := wfIc h
  simp only [List.cons.injEq, and_true] at e
  exact ⟨i, e, trivial⟩
theorem wfSpn {d : Nat} {c : List AV} (h : WfC Try.prog (d + 2) 23 c) : ∃ s : Spn, c = s.e ∧ True := by
  obtain ⟨hl, hf⟩ := wf_struct Try.underlying23 h
  rw [z23] at hl
  match c, hl with
  | [x, y], _ =>
    have h0 : WfC Try.prog (d + 1) 3 (([x, y].drop 0).take (Try.prog.cellsOf 3)) := hf 0 _ rfl
    have h1 : WfC Try.prog (d + 1) 3 (([x, y].drop 1).take (Try.prog.cellsOf 3)) := hf 1 _ rfl
    rw [z3] at h0 h1
    obtain ⟨i, rfl, _⟩ := wfI (show WfC Try.prog (d + 1) 3 [x] from h0)
    obtain ⟨j, rfl, _⟩ := wfI (show WfC Try.prog (d + 1) 3 [y] from h1)
    exact ⟨⟨i, j⟩, rfl, trivial⟩
theorem wfBt {d : Nat} {c : List AV} (h : WfC Try.prog (d + 2) 61 c) : ∃ s : Bt, c = s.e ∧ True := by
  obtain ⟨hl, hf⟩ := wf_struct Try.underlying61 h
  rw [z61] at hl
  match c, hl with
  | [x, y], _ =>
    have h0 : WfC Try.prog (d + 1) 3 (([x, y].drop 0).take (Try.prog.cellsOf 3)) := hf 0 _ rfl
    have h1 : WfC Try.prog (d + 1) 3 (([x, y].drop 1).take (Try.prog.cellsOf 3)) := hf 1 _ rfl
    rw [z3] at h0 h1
    obtain ⟨i, rfl, _⟩ := wfI (show WfC Try.prog (d + 1) 3 [x] from h0)
    obtain ⟨j, rfl, _⟩ := wfI (show WfC Try.prog (d + 1) 3 [y] from h1)
    exact ⟨⟨i, j⟩, rfl, trivial⟩
theorem wfBoat {d : Nat} {c : List AV} (h : WfC Try.prog (d + 2) 61 c) : ∃ a b : Int, c = [I a, I b] := by
  obtain ⟨s, e, _⟩ := wfBt h
  exact ⟨s.c, s.p, e⟩
theorem wfAsk {d : Nat} {c : List AV} (h : WfC Try.prog (d + 2) 29 c) : ∃ a b : Int, c = [I a, I b] := by
  obtain ⟨hl, hf⟩ := wf_struct Try.underlying29 h
  rw [z29] at hl
  match c, hl with
  | [x, y], _ =>
    have h0 : WfC Try.prog (d + 1) 3 (([x, y].drop 0).take (Try.prog.cellsOf 3)) := hf 0 _ rfl
    have h1 : WfC Try.prog (d + 1) 3 (([x, y].drop 1).take (Try.prog.cellsOf 3)) := hf 1 _ rfl
    rw [z3] at h0 h1
    obtain ⟨i, rfl, _⟩ := wfI (show WfC Try.prog (d + 1) 3 [x] from h0)
    obtain ⟨j, rfl, _⟩ := wfI (show WfC Try.prog (d + 1) 3 [y] from h1)
    exact ⟨i, j, rfl⟩
theorem wfPair {d : Nat} {c : List AV} (h : WfC Try.prog (d + 2) 68 c) : ∃ a b : Int, c = [I a, I b] := by
  obtain ⟨hl, hf⟩ := wf_struct Try.underlying68 h
  rw [z68] at hl
  match c, hl with
  | [x, y], _ =>
    have h0 : WfC Try.prog (d + 1) 3 (([x, y].drop 0).take (Try.prog.cellsOf 3)) := hf 0 _ rfl
    have h1 : WfC Try.prog (d + 1) 3 (([x, y].drop 1).take (Try.prog.cellsOf 3)) := hf 1 _ rfl
    rw [z3] at h0 h1
    obtain ⟨i, rfl, _⟩ := wfI (show WfC Try.prog (d + 1) 3 [x] from h0)
    obtain ⟨j, rfl, _⟩ := wfI (show WfC Try.prog (d + 1) 3 [y] from h1)
    exact ⟨i, j, rfl⟩
theorem wfNums {d : Nat} {c : List AV} (h : WfC Try.prog (d + 2) 30 c) : ∃ (l : List Int) (v : AV), c = [v] ∧ IsSl 1 intL l v := by
  obtain ⟨l, v, e, iv, _⟩ := wf_sl (d := d + 1) (enc := intL) (p := fun _ => True) Try.underlying30 z3 (fun c hc => wfIc hc) h
  exact ⟨l, v, e, iv⟩
theorem wfTruth {d : Nat} {c : List AV} (h : WfC Try.prog (d + 3) 46 c) : ∃ (i : Int) (l : List Int) (v : AV), c = [I i, v] ∧ IsSl 1 intL l v := by
  obtain ⟨hl, hf⟩ := wf_struct Try.underlying46 h
  rw [z46] at hl
  match c, hl with
  | [x, y], _ =>
    have h0 : WfC Try.prog (d + 2) 3 (([x, y].drop 0).take (Try.prog.cellsOf 3)) := hf 0 _ rfl
    have h1 : WfC Try.prog (d + 2) 30 (([x, y].drop 1).take (Try.prog.cellsOf 30)) := hf 1 _ rfl
    rw [z3] at h0
    rw [z30] at h1
    obtain ⟨i, rfl, _⟩ := wfI (show WfC Try.prog (d + 1 + 1) 3 [x] from h0)
    obtain ⟨l, v, e, iv⟩ := wfNums (show WfC Try.prog (d + 2) 30 [y] from h1)
    simp only [List.cons.injEq, and_true] at e
    subst e
    exact ⟨i, l, y, rfl, iv⟩
theorem wfCut {d : Nat} {c : List AV} (h : WfC Try.prog (d + 3) 63 c) : ∃ a b e : Int, c = [I a, I b, I e] := by
  obtain ⟨hl, hf⟩ := wf_struct Try.underlying63 h
  rw [z63] at hl
  match c, hl with
  | [x, y, z], _ =>
    have h0 : WfC Try.prog (d + 2) 3 (([x, y, z].drop 0).take (Try.prog.cellsOf 3)) := hf 0 _ rfl
    have h1 : WfC Try.prog (d + 2) 23 (([x, y, z].drop 1).take (Try.prog.cellsOf 23)) := hf 1 _ rfl
    rw [z3] at h0
    rw [z23] at h1
    obtain ⟨i, rfl, _⟩ := wfI (show WfC Try.prog (d + 1 + 1) 3 [x] from h0)
    obtain ⟨s, e, _⟩ := wfSpn (show WfC Try.prog (d + 2) 23 [y, z] from h1)
    simp only [Spn.e, List.cons.injEq, and_true] at e
    obtain ⟨rfl, rfl⟩ := e
    exact ⟨i, s.lo, s.hi, rfl⟩
theorem wfSea {d : Nat} {c : List AV} (h : WfC Try.prog (d + 4) 27 c) : ∃ (s : Sea) (p b : AV), AV.agg c = seaV s p b ∧ SeaIn s p b := by
  obtain ⟨hl, hf⟩ := wf_struct Try.underlying27 h
  rw [z27] at hl
  match c, hl with
  | [x, y, z, u], _ =>
    have h0 : WfC Try.prog (d + 3) 23 (([x, y, z, u].drop 0).take (Try.prog.cellsOf 23)) := hf 0 _ rfl
    have h1 : WfC Try.prog (d + 3) 24 (([x, y, z, u].drop 2).take (Try.prog.cellsOf 24)) := hf 1 _ rfl
    have h2 : WfC Try.prog (d + 3) 25 (([x, y, z, u].drop 3).take (Try.prog.cellsOf 25)) := hf 2 _ rfl
    rw [z23] at h0
    rw [z24] at h1
    rw [z25] at h2
    obtain ⟨w, e, _⟩ := wfSpn (d := d + 1) (show WfC Try.prog (d + 3) 23 [x, y] from h0)
    simp only [Spn.e, List.cons.injEq, and_true] at e
    obtain ⟨rfl, rfl⟩ := e
    obtain ⟨lo, o, e2, io, _⟩ := wf_sl (d := d + 2) (enc := Spn.e) (p := fun _ => True) Try.underlying24 z23 (fun c hc => wfSpn hc) (show WfC Try.prog (d + 3) 24 [z] from h1)
    obtain ⟨lw, v, e3, iw, _⟩ := wf_sl (d := d + 2) (enc := Bt.e) (p := fun _ => True) Try.underlying25 z61 (fun c hc => wfBt hc) (show WfC Try.prog (d + 3) 25 [u] from h2)
    simp only [List.cons.injEq, and_true] at e2 e3
    subst e2; subst e3
    exact ⟨⟨w, lo, lw⟩, z, u, rfl, ⟨io, iw⟩⟩
theorem own : ownKnob Try.prog.godebug = none := by kernel_rfl
theorem laid : laidOutB Try.prog = true := by kernel_rfl
def seaW : Value := .agg #[.int .i64 0, .int .i64 0, .slice none 0 0, .slice none 0 0]
def twoW : Value := .agg #[.int .i64 0, .int .i64 0]
def threeW : Value := .agg #[.int .i64 0, .int .i64 0, .int .i64 0]
def truthW : Value := .agg #[.int .i64 0, .slice none 0 0]
end Go.Proofs.Ytdmhbefdidmliaa.S

