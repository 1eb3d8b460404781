/-
The specification: Fix; the law CutsFix.
-/
import Derived.Test.YteonklnjchefiaaZf
namespace Go.Proofs.Yteonklnjchefiaa.S
open Go Go.Am Go.Proofs.Yteonklnjchefiaa.T
set_option maxRecDepth 100000
set_option linter.unusedSimpArgs false
set_option linter.unusedVariables false

section
variable {t : List Pt} {v : AV}
/-- costs of changes whose first weights are a list's -/
def fI (t : List Pt) (L : List Int) (k b : Nat) : Int := if k < L.length ∧ L.getD k 0 ≠ (b : Int) then NV else aI t k b
theorem fI_rp (T : TW t) {L : List Int} {i : Nat} (hi : i < t.length) {b : Nat} (hb : b < 31) : Rp 3000 (fI t L i b) (cP t L i b) := by
  unfold fI cP
  by_cases c : i < L.length ∧ L.getD i 0 ≠ (b : Int)
  · rw [if_pos c, if_pos c]
    exact ⟨(fun v hv => by cases hv), fun _ => by show NV - 3000 ≤ NV ∧ NV ≤ NV + 3000; omega⟩
  · rw [if_neg c, if_neg c]
    exact aI_rp T hi hb
theorem fI_app {L : List Int} {c : Int} {k b : Nat} (h : k ≠ L.length) : fI t (L ++ [c]) k b = fI t L k b := by
  unfold fI
  by_cases e : k < L.length
  · have : (L ++ [c]).getD k 0 = L.getD k 0 := by rw [List.getD_eq_getElem?_getD, List.getElem?_append_left e, ← List.getD_eq_getElem?_getD]
    rw [this, List.length_append, List.length_singleton]
    by_cases e2 : L.getD k 0 ≠ (b : Int)
    · rw [if_pos ⟨by omega, e2⟩, if_pos ⟨e, e2⟩]
    · rw [if_neg (fun h => e2 h.2), if_neg (fun h => e2 h.2)]
  · rw [if_neg (fun hh => by have := hh.1; rw [List.length_append, List.length_singleton] at this; omega), if_neg (fun h => e h.1)]
theorem fI_last {L : List Int} {n b : Nat} : fI t (L ++ [(n : Int)]) L.length b = if b = n then aI t L.length n else NV := by
  unfold fI
  have : (L ++ [(n : Int)]).getD L.length 0 = n := by rw [List.getD_eq_getElem?_getD, List.getElem?_append_right (Nat.le_refl _), Nat.sub_self]; rfl
  rw [this, List.length_append, List.length_singleton]
  by_cases e : b = n
  · subst e; rw [if_neg (fun h => h.2 rfl), if_pos rfl]
  · rw [if_pos ⟨by omega, fun h => e (by omega)⟩, if_neg e]
/-- a table in which a row is of another object -/
theorem TabN.fresh {h : List AO} {n o : Nat} {q : Nat → Nat} {f : Nat → Nat → Int} (T : TabN 0 h.length h n o q f) {i : Nat} (hi : i < n) (g : Nat → Int) (Z : AO) :
    TabN 0 (h.length + 1) (((h ++ [Z]).set o (.cells (ptrs n fun j => if j = i then h.length else q j) false)).set h.length (.cells (rw_ 31 g) false)) n o (fun j => if j = i then h.length else q j) (fun k => if k = i then g else f k) := by
  have ob := T.ob
  refine ⟨by omega, ?_, fun k hk => ?_, fun a b ha hb e => ?_⟩
  · rw [List.getElem?_set_ne (by omega), List.getElem?_set_self (by simp; omega)]
  · by_cases e : k = i
    · subst e
      simp only [if_true]
      exact ⟨by omega, by omega, by rw [List.getElem?_set_self (by simp)]⟩
    · simp only [if_neg e]
      have tk := T.rows k hk
      exact ⟨by omega, tk.2.1, by rw [List.getElem?_set_ne (by omega), List.getElem?_set_ne (fun h => tk.2.1 h.symm), at_ap tk.1.2]; exact tk.2.2⟩
  · by_cases e1 : a = i
    · by_cases e2 : b = i
      · omega
      · simp only [if_pos e1, if_neg e2] at e
        have := (T.rows b hb).1; omega
    · by_cases e2 : b = i
      · simp only [if_neg e1, if_pos e2] at e
        have := (T.rows a ha).1; omega
      · simp only [if_neg e1, if_neg e2] at e
        exact T.inj a b ha hb e
/-- the list that is made, apart from a table -/
def OutF (h : List AO) (x : AV) (L : List Int) (n o : Nat) (q : Nat → Nat) : Prop := (L = [] ∧ x = .nils) ∨ (L ≠ [] ∧ ∃ p sh, x = .ms 1 p 0 L.length ∧ h[p]? = some (.cells (L.flatMap intL) sh) ∧ p ≠ o ∧ ∀ k, k < n → p ≠ q k)
theorem OutF.view {h : List AO} {x : AV} {L : List Int} {n o : Nat} {q : Nat → Nat} (O : OutF h x L n o q) (st : Bool) (k : Nat) : Am.view st h (k + 1) x = some (resL L) := by
  have rd : RdS h x L := by
    rcases O with h1 | ⟨h1, p, sh, h2, h3, _⟩
    · exact .inl h1
    · exact .inr ⟨h1, p, sh, h2, h3⟩
  exact rd.view
theorem OutF.app {h : List AO} {x : AV} {L : List Int} {n o : Nat} {q : Nat → Nat} {f : Nat → Nat → Int} (O : OutF h x L n o q) (T : TabN 0 h.length h n o q f) (hl : L.length ≤ 100) (c : Int) :
    ∃ x' h', appV 0 h 1 8 x (.cs 1 1 [I c]) = some (x', h') ∧ OutF h' x' (L ++ [c]) n o q ∧ TabN 0 h'.length h' n o q f := by
  have ob := T.ob
  rcases O with ⟨rfl, rfl⟩ | ⟨h1, p, sh, rfl, h3, h4, h5⟩
  · refine ⟨.ms 1 h.length 0 1, h ++ [.cells [I c] false], (appV_nil (n := 1) (xs := [I c]) rfl rfl rfl rfl (by omega) (by omega)).trans (if_neg (by omega)), .inr ⟨by simp, h.length, false, rfl, by rw [atE]; rfl, by omega, fun k hk => by have := (T.rows k hk).1; omega⟩, ?_⟩
    exact (T.fr (h' := h ++ [AO.cells [I c] false]) fun j j1 j2 => at_ap j2).up (Nat.le_refl _) (by simp)
  · have pl := (List.getElem?_eq_some_iff.1 h3).1
    have hlen : (h.set p AO.tomb ++ [AO.cells (L.flatMap intL ++ [I c]) sh]).length = h.length + 1 := by simp
    have fr : ∀ j, j < h.length → j ≠ p → (h.set p AO.tomb ++ [AO.cells (L.flatMap intL ++ [I c]) sh])[j]? = h[j]? := fun j hj hp => by
      rw [at_ap (by simp; exact hj), List.getElem?_set_ne (fun e => hp e.symm)]
    refine ⟨_, _, by rw [appV_ms (n := 1) (xs := [I c]) h3 (by rw [flat_len intE]) rfl rfl rfl rfl (by omega) (by omega) (Nat.zero_le _), if_neg (by omega)], .inr ⟨by simp, h.length, sh, by simp, ?_, by omega, fun k hk => by have := (T.rows k hk).1; omega⟩, ?_⟩
    · have e : h.length = (h.set p AO.tomb).length := by simp
      rw [e, atE, List.flatMap_append]; rfl
    · refine ⟨by rw [hlen]; omega, by rw [fr o ob.2 (fun e => h4 e.symm)]; exact T.oc, fun k hk => ?_, T.inj⟩
      have tk := T.rows k hk
      exact ⟨by rw [hlen]; omega, tk.2.1, by rw [fr _ tk.1.2 (fun e => h5 k hk e.symm)]; exact tk.2.2⟩
/-- the state when the weight of a part is looked for -/
structure Fx (t : List Pt) (L : List Int) (i : Nat) (x : AV) (h : List AO) (o ow : Nat) (q : Nat → Nat) (f : Nat → Nat → Int) : Prop where
  T : TabN 0 h.length h t.length o q f
  O : OutF h x L t.length o q
  w : h[ow]? = some (.cells (rw_ 31 (aI t i)) false)
  wo : ow ≠ o
  f : ∀ k, k < t.length → k ≠ i → ∀ y, y < 31 → f k y = fI t L k y
/-- the row of a part is made anew, with one weight -/
theorem Fx.step {L : List Int} {i : Nat} {x : AV} {h : List AO} {o ow : Nat} {q : Nat → Nat} {f : Nat → Nat → Int} (F : Fx t L i x h o ow q f) (hi : i < t.length) (hL : L.length = i) {n : Nat} (hn : n < 31) (Z : AO) :
    ∃ q' f', q' = (fun j => if j = i then h.length else q j) ∧ Fx t L i x (((h ++ [Z]).set o (.cells (ptrs t.length q') false)).set h.length (.cells (rw_ 31 fun y => if y = n then aI t i n else NV) false)) o ow q' f' ∧ ∀ k, k < t.length → ∀ y, y < 31 → f' k y = fI t (L ++ [(n : Int)]) k y := by
  have ob := F.T.ob
  have wl := (List.getElem?_eq_some_iff.1 F.w).1
  have hle : (((h ++ [Z]).set o (.cells (ptrs t.length fun j => if j = i then h.length else q j) false)).set h.length (.cells (rw_ 31 fun y => if y = n then aI t i n else NV) false)).length = h.length + 1 := by simp
  refine ⟨_, _, rfl, ⟨by rw [hle]; exact F.T.fresh hi _ Z, ?_, ?_, F.wo, fun k hk hne y hy => ?_⟩, fun k hk y hy => ?_⟩
  · rcases F.O with h1 | ⟨h1, p, sh, h2, h3, h4, h5⟩
    · exact .inl h1
    · have pl := (List.getElem?_eq_some_iff.1 h3).1
      refine .inr ⟨h1, p, sh, h2, by rw [List.getElem?_set_ne (by omega), List.getElem?_set_ne (fun e => h4 e.symm), at_ap pl]; exact h3, h4, fun k hk => ?_⟩
      by_cases e : k = i
      · simp only [if_pos e]; omega
      · simp only [if_neg e]; exact h5 k hk
  · rw [List.getElem?_set_ne (by omega), List.getElem?_set_ne (fun e => F.wo e.symm), at_ap wl]; exact F.w
  · simp only [if_neg hne]; exact F.f k hk hne y hy
  · by_cases e : k = i
    · subst e
      simp only [if_true]
      rw [← hL, fI_last]
    · simp only [if_neg e]
      rw [fI_app (by omega)]
      exact F.f k hk e y hy
theorem row_one {n : Nat} (hn : n < 31) {c : Int} {Z : List AV} (hZ : Z = rw_ 31 fun _ => NV) : Z.take n ++ I c :: Z.drop (n + 1) = rw_ 31 fun y => if y = n then c else NV := by
  have : Z.take n ++ [I c] ++ Z.drop (n + 1) = rw_ 31 fun y => if y = n then c else NV := by
    rw [hZ]
    refine rw_put hn fun y hy => ?_
    by_cases e : y = n <;> simp [e]
  simpa using this
set_option maxHeartbeats 8000000 in
theorem s59 (H : TbOk t v) (st : Bool) : Iso E 59 [v] st = some (fixR t) := by
  have sp := H.n
  have nvv : NV = 1099511627776 := rfl
  have g := fun st => s95 H true st
  refine Iso_of (es _ _ _ _) e59 ?_
  simp only [f59, fixR]
  cases hv : tval t
  · simp only [hv, ptE, Bool.false_eq_true, if_false] at g
    simp (disch := first | assumption | omega | (simp only [az]; done)) only [ru, eq_self, if_true, if_false, BEq.rfl, binI, AO.row?, splice, fillL, mmAll, loadV, storeV, zeros, Am.rowAt, Am.part, addOff, Nat.reduceAdd, Nat.reduceMul, Nat.reduceLeDiff, Nat.reduceSub, Nat.reduceLT, Int.reduceEq, Int.reduceLT, Int.reduceLE, Int.reduceGT, Int.reduceGE, Int.reduceAdd, Int.reduceSub, Int.reduceMul, Int.reduceNeg, Int.reduceToNat, reduceCtorEq, reduceIte, lenV_sl H.i, elem_pt H.i, view_sl H.i, scalar_sl H.i, cells_sl H.i, pure_sl H.i, Int.toNat_natCast, g, decide_true, decide_false, Bool.false_eq_true]
    done
  have T := tval_W hv
  have n8 := T.n
  cases hm : Lst t (cD t) with
  | none =>
    simp only [hv, ptE, hm, Option.isSome, Bool.false_eq_true, if_false, if_true] at g
    simp (disch := first | assumption | omega | (simp only [az]; done)) only [ru, eq_self, if_true, if_false, BEq.rfl, binI, AO.row?, splice, fillL, mmAll, loadV, storeV, zeros, Am.rowAt, Am.part, addOff, Nat.reduceAdd, Nat.reduceMul, Nat.reduceLeDiff, Nat.reduceSub, Nat.reduceLT, Int.reduceEq, Int.reduceLT, Int.reduceLE, Int.reduceGT, Int.reduceGE, Int.reduceAdd, Int.reduceSub, Int.reduceMul, Int.reduceNeg, Int.reduceToNat, reduceCtorEq, reduceIte, lenV_sl H.i, elem_pt H.i, view_sl H.i, scalar_sl H.i, cells_sl H.i, pure_sl H.i, Int.toNat_natCast, g, decide_true, decide_false, Bool.false_eq_true]
    done
  | some m =>
  simp only [hv, ptE, hm, Option.isSome, Bool.false_eq_true, if_false, if_true] at g
  have ms := sm_small T.toTG (cD_bd T) hm
  obtain ⟨w0, h1, hr0, f0, T0⟩ := r96 H T (h := []) (lim := 0) (Nat.zero_le _)
  have v0 := fun st => T0.view st 6
  have sc0 := T0.sc
  obtain ⟨aw, haw⟩ : ∃ w, w = resLL (rowsL t.length (aI t)) := ⟨_, rfl⟩
  have AW : IsSl 1 resE (rowsL t.length (aI t)) aw := by rw [haw]; exact resLL_is _
  rw [← haw] at v0
  obtain ⟨x0, g0, hx0⟩ := s79D H T AW
  obtain rfl := hx0.1 m hm
  simp (disch := first | assumption | omega | (simp only [az]; done)) only [ru, eq_self, if_true, if_false, BEq.rfl, binI, AO.row?, splice, fillL, mmAll, loadV, storeV, zeros, Am.rowAt, Am.part, addOff, Nat.reduceAdd, Nat.reduceMul, Nat.reduceLeDiff, Nat.reduceSub, Nat.reduceLT, Int.reduceEq, Int.reduceLT, Int.reduceLE, Int.reduceGT, Int.reduceGE, Int.reduceAdd, Int.reduceSub, Int.reduceMul, Int.reduceNeg, Int.reduceToNat, reduceCtorEq, reduceIte, lenV_sl H.i, elem_pt H.i, view_sl H.i, scalar_sl H.i, cells_sl H.i, pure_sl H.i, Int.toNat_natCast, g, exOp_call0, hr0, v0, sc0.1, sc0.2, lenV_sl AW, view_sl AW, scalar_sl AW, cells_sl AW, pure_sl AW, g0, decide_true, decide_false]
  rcases T0 with ⟨hn, rfl⟩ | ⟨hn, o, q, rfl, T0⟩
  · rw [G_loop]
    have z : ¬ (0 : Int) < t.length := by omega
    have hf : fixU t t.length = [] := by rw [hn]; rfl
    have hz : resL (fixV t) = .nils := by show resL (fixU t t.length) = _; rw [hf]; rfl
    rw [hz]
    simp (disch := first | assumption | omega | (simp only [az]; done)) only [ru, eq_self, if_true, if_false, BEq.rfl, binI, AO.row?, splice, fillL, mmAll, loadV, storeV, zeros, Am.rowAt, Am.part, addOff, Nat.reduceAdd, Nat.reduceMul, Nat.reduceLeDiff, Nat.reduceSub, Nat.reduceLT, Int.reduceEq, Int.reduceLT, Int.reduceLE, Int.reduceGT, Int.reduceGE, Int.reduceAdd, Int.reduceSub, Int.reduceMul, Int.reduceNeg, Int.reduceToNat, reduceCtorEq, reduceIte, lenV_sl H.i, elem_pt H.i, view_sl H.i, scalar_sl H.i, cells_sl H.i, pure_sl H.i, Int.toNat_natCast, z, decide_false]
  refine G_loop_ind (fun z ts hh mk => ∃ (i : Nat) (x : AV) (q : Nat → Nat) (f : Nat → Nat → Int), i ≤ t.length ∧ z = t.length - i ∧ TabN 0 hh.length hh t.length o q f ∧ OutF hh x (fixU t i) t.length o q ∧ (∀ k, k < t.length → ∀ y, y < 31 → f k y = fI t (fixU t i) k y) ∧
      ts.length = 73 ∧ ts.getD 0 .undef = v ∧ ts.getD 5 .undef = .ms 1 o 0 t.length ∧ ts.getD 6 .undef = I x0 ∧ ts.getD 7 .undef = x ∧ ts.getD 8 .undef = I i ∧ mk = []) ?_ _ _ _ _
    ⟨0, .nils, q, aI t, Nat.zero_le _, rfl, T0, .inl ⟨rfl, rfl⟩, fun k hk y hy => (if_neg (fun h => Nat.not_lt_zero _ h.1)).symm, rfl, rfl, rfl, rfl, rfl, rfl, rfl⟩
  clear T0 q hr0 f0 v0 sc0
  rintro z ts hh mk ih ⟨i, x, q, f, hi, rfl, TA, O, hf, hl', q0, q5, q6, q7, q8, rfl⟩
  rw [lit_all hl']
  simp only [lit0, litS, Nat.reduceAdd, q0, q5, q6, q7, q8]
  by_cases hlt : (i : Int) < t.length
  case neg =>
    obtain rfl : i = t.length := by omega
    have vo := O.view st 6
    simp (disch := first | assumption | omega | (simp only [az]; done)) only [ru, eq_self, if_true, if_false, BEq.rfl, binI, AO.row?, splice, fillL, mmAll, loadV, storeV, zeros, Am.rowAt, Am.part, addOff, Nat.reduceAdd, Nat.reduceMul, Nat.reduceLeDiff, Nat.reduceSub, Nat.reduceLT, Int.reduceEq, Int.reduceLT, Int.reduceLE, Int.reduceGT, Int.reduceGE, Int.reduceAdd, Int.reduceSub, Int.reduceMul, Int.reduceNeg, Int.reduceToNat, reduceCtorEq, reduceIte, lenV_sl H.i, elem_pt H.i, view_sl H.i, scalar_sl H.i, cells_sl H.i, pure_sl H.i, Int.toNat_natCast, hlt, decide_false, vo]
    done
  have hi2 : i < t.length := by omega
  have L := fixU_len (t := t) (k := i)
  have tI := TA.rows i hi2
  have e0 : ∀ y, fI t (fixU t i) i y = aI t i y := fun y => if_neg (fun h => by have := h.1; omega)
  have ownr : hh[q i]? = some (.cells (rw_ 31 (aI t i)) false) := by
    rw [tI.2.2]; congr 2; exact rw_congr fun y hy => by rw [hf i hi2 y hy, e0]
  have X0 : Fx t (fixU t i) i x hh o (q i) q f := ⟨TA, O, ownr, tI.2.1, fun k hk _ y hy => hf k hk y hy⟩
  have cA := TA.oc
  have phA := ptrs_head (q := q) hi2
  obtain ⟨P, hP⟩ : ∃ P : Nat → Bool, P = fun b : Nat => decide (Lst t (cP t (fixU t i ++ [(b : Int)])) = Lst t (cD t)) := ⟨_, rfl⟩
  obtain ⟨B, hB⟩ : ∃ B, B = fB P := ⟨_, rfl⟩
  have fu' : fixU t (i + 1) = fixU t i ++ [(B : Int)] := by rw [hB, hP]; rfl
  have B31 : B < 31 ∧ P B = true ∧ ∀ b, b < B → P b = false := by
    rw [hB]
    refine fB_spec ?_
    have ok := fixU_ok T.toTG hm (k := i + 1) (by omega)
    refine ⟨B, ?_, ?_⟩
    · have : fB P < 31 := by
        unfold fB
        cases h : (List.range 31).find? P with
        | none => simp
        | some y => exact List.mem_range.1 (List.mem_of_find?_eq_some h)
      rw [hB]; exact this
    · rw [hP]; show decide _ = true; rw [← fu', ok, hm]; exact decide_eq_true rfl
  obtain ⟨PP, hPP⟩ : ∃ PP, PP = ptrs t.length q := ⟨_, rfl⟩
  rw [← hPP] at cA phA
  simp (disch := first | assumption | omega | (simp only [az]; done)) only [ru, eq_self, if_true, if_false, BEq.rfl, binI, AO.row?, splice, fillL, mmAll, loadV, storeV, zeros, Am.rowAt, Am.part, addOff, Nat.reduceAdd, Nat.reduceMul, Nat.reduceLeDiff, Nat.reduceSub, Nat.reduceLT, Int.reduceEq, Int.reduceLT, Int.reduceLE, Int.reduceGT, Int.reduceGE, Int.reduceAdd, Int.reduceSub, Int.reduceMul, Int.reduceNeg, Int.reduceToNat, reduceCtorEq, reduceIte, lenV_sl H.i, elem_pt H.i, view_sl H.i, scalar_sl H.i, cells_sl H.i, pure_sl H.i, Int.toNat_natCast, hlt, decide_true, elemAt_ms, nn, Int.toNat_natCast, Nat.mul_one, Nat.zero_add, cA, phA]
  clear cA phA hPP PP tI e0 ownr
  generalize q i = ow at X0
  clear TA O hf
  -- the search
  refine G_loop_ind (fun z ts hh mk => ∃ (n : Nat) (q : Nat → Nat) (f : Nat → Nat → Int), n ≤ B ∧ z = B - n ∧ Fx t (fixU t i) i x hh o ow q f ∧
      ts.length = 73 ∧ ts.getD 0 .undef = v ∧ ts.getD 5 .undef = .ms 1 o 0 t.length ∧ ts.getD 6 .undef = I x0 ∧ ts.getD 7 .undef = x ∧ ts.getD 8 .undef = I i ∧ ts.getD 9 .undef = .ms 1 ow 0 31 ∧ ts.getD 10 .undef = I n ∧ mk = []) ?_ _ _ _ _
    ⟨0, q, f, Nat.zero_le _, rfl, X0, rfl, rfl, rfl, rfl, rfl, rfl, rfl, rfl, rfl⟩
  clear X0 q f
  rintro z ts hh mk ih2 ⟨n, q, f, hn, rfl, X, hl', q0, q5, q6, q7, q8, q9, q10, rfl⟩
  rw [lit_all hl']
  simp only [lit0, litS, Nat.reduceAdd, q0, q5, q6, q7, q8, q9, q10]
  have hn31 : n < 31 := by omega
  -- one step, in any heap
  have stp : ∀ {hh : List AO} {q : Nat → Nat} {f : Nat → Nat → Int}, Fx t (fixU t i) i x hh o ow q f → ∀ {ZN : List AV}, ZN = rw_ 31 (fun _ => NV) → ∃ (PP PQ Z : List AV) (a : Int) (h2 : List AO),
      (hh ++ [AO.cells ZN false])[o]? = some (.cells PP false) ∧ PP.take i ++ AV.ms 1 hh.length 0 31 :: PP.drop (i + 1) = PQ ∧ i + 1 ≤ PP.length ∧ (hh ++ [AO.cells ZN false]).set o (.cells PQ false) = h2 ∧
      h2[o]? = some (.cells PQ false) ∧ (PQ.drop i).head? = some (.ms 1 hh.length 0 31) ∧ h2[ow]? = some (.cells Z false) ∧ (Z.drop n).head? = some (I a) ∧ h2[hh.length]? = some (.cells ZN false) ∧
      ∃ N, ZN.take n ++ I a :: ZN.drop (n + 1) = N ∧ ∃ q' f', Fx t (fixU t i) i x (h2.set hh.length (.cells N false)) o ow q' f' ∧ ∀ k, k < t.length → ∀ y, y < 31 → f' k y = fI t (fixU t i ++ [(n : Int)]) k y := by
    intro hh q f X ZN hZN
    have ob := X.T.ob
    have wl := (List.getElem?_eq_some_iff.1 X.w).1
    obtain ⟨q', f', hq', X2, hf'⟩ := X.step hi2 L hn31 (.cells ZN false)
    refine ⟨ptrs t.length q, ptrs t.length q', rw_ 31 (aI t i), aI t i n, _, by rw [at_ap ob.2]; exact X.T.oc, by rw [hq']; exact ptrs_put hi2, by rw [ptrs_len]; omega, rfl, by rw [List.getElem?_set_self (by simp; omega)], by rw [ptrs_head hi2, hq']; simp,
      by rw [List.getElem?_set_ne (fun e => X.wo e.symm), at_ap wl]; exact X.w, rw_head hn31, by rw [List.getElem?_set_ne (by omega), atE], _, row_one hn31 hZN, q', f', X2, hf'⟩
  obtain ⟨ZN, hZN⟩ : ∃ ZN, ZN = rw_ 31 (fun _ => NV) := ⟨_, rfl⟩
  have lN : ZN.length = 31 := by rw [hZN, rw_len]
  have fN : n + 1 ≤ ZN.length := by omega
  have l31 : (n : Int) < ((31 : Nat) : Int) := by omega
  have z97 : ∀ h : List AO, R E (.fn 97) [] h 0 = some (.ms 1 h.length 0 31, h ++ [.cells ZN false]) := fun h => by rw [hZN]; exact r97 (Nat.zero_le _)
  by_cases hlb : (n : Int) < 30
  · obtain ⟨PP, PQ, Z, a, h2, k1, k2, k3, k4, k5, k6, k7, k8, k9, N, k10, q', f', X2, hf'⟩ := stp X hZN
    have vw := fun st => (X2.T.congr (g := fI t (fixU t i ++ [(n : Int)])) hf').view (by omega) st 6
    obtain ⟨fw, hfw⟩ : ∃ w, w = resLL (rowsL t.length (fI t (fixU t i ++ [(n : Int)]))) := ⟨_, rfl⟩
    have FW : IsSl 1 resE (rowsL t.length (fI t (fixU t i ++ [(n : Int)]))) fw := by rw [hfw]; exact resLL_is _
    rw [← hfw] at vw
    obtain ⟨y, gy, hy⟩ := s79 H T.toTG (c := cP t (fixU t i ++ [(n : Int)])) (F := fI t (fixU t i ++ [(n : Int)])) (fun i hi b hb => fI_rp T hi hb) FW
    obtain ⟨h3, hh3⟩ : ∃ h3, h3 = h2.set hh.length (.cells N false) := ⟨_, rfl⟩
    rw [← hh3] at X2 vw
    by_cases hPn : P n = true
    · have nB : n = B := by
        by_cases c : n < B
        · have := B31.2.2 n c; rw [this] at hPn; cases hPn
        · omega
      have hLs : Lst t (cP t (fixU t i ++ [(n : Int)])) = some x0 := by rw [hP] at hPn; rw [← hm]; exact of_decide_eq_true hPn
      obtain rfl := hy.1 _ hLs
      rw [← nB] at fu'
      obtain ⟨PP', PQ', Z', a', h2', j1, j2, j3, j4, j5, j6, j7, j8, j9, N', j10, q'', f'', X3, hf''⟩ := stp X2 hZN
      obtain ⟨h5, hh5⟩ : ∃ h5, h5 = h2'.set h3.length (.cells N' false) := ⟨_, rfl⟩
      rw [← hh5] at X3
      obtain ⟨x', h6, ha, O', T'⟩ := X3.O.app X3.T (by omega) (n : Int)
      rw [← fu'] at O' hf''
      simp (disch := first | assumption | omega | (simp only [az]; done)) only [ru, eq_self, if_true, if_false, BEq.rfl, binI, AO.row?, splice, fillL, mmAll, loadV, storeV, zeros, Am.rowAt, Am.part, addOff, Nat.reduceAdd, Nat.reduceMul, Nat.reduceLeDiff, Nat.reduceSub, Nat.reduceLT, Int.reduceEq, Int.reduceLT, Int.reduceLE, Int.reduceGT, Int.reduceGE, Int.reduceAdd, Int.reduceSub, Int.reduceMul, Int.reduceNeg, Int.reduceToNat, reduceCtorEq, reduceIte, lenV_sl H.i, elem_pt H.i, view_sl H.i, scalar_sl H.i, cells_sl H.i, pure_sl H.i, Int.toNat_natCast, lenV_sl FW, view_sl FW, scalar_sl FW, cells_sl FW, pure_sl FW, hlb, decide_true, decide_false, exOp_call0, z97, elemAt_ms, hlt, l31, nn, Int.toNat_natCast, Nat.mul_one, Nat.zero_add, k1, k2, k3, k4, k5, k6, k7, k8, k9, k10, fN, ← hh3, vw, gy, List.append_assoc]
      simp (disch := first | assumption | omega | (simp only [az]; done)) only [ru, eq_self, if_true, if_false, BEq.rfl, binI, AO.row?, splice, fillL, mmAll, loadV, storeV, zeros, Am.rowAt, Am.part, addOff, Nat.reduceAdd, Nat.reduceMul, Nat.reduceLeDiff, Nat.reduceSub, Nat.reduceLT, Int.reduceEq, Int.reduceLT, Int.reduceLE, Int.reduceGT, Int.reduceGE, Int.reduceAdd, Int.reduceSub, Int.reduceMul, Int.reduceNeg, Int.reduceToNat, reduceCtorEq, reduceIte, lenV_sl H.i, elem_pt H.i, view_sl H.i, scalar_sl H.i, cells_sl H.i, pure_sl H.i, Int.toNat_natCast, decide_true, decide_false, exOp_call0, z97, elemAt_ms, hlt, l31, nn, Int.toNat_natCast, Nat.mul_one, Nat.zero_add, j1, j2, j3, j4, j5, j6, j7, j8, j9, j10, fN, ← hh5, ha, List.append_assoc]
      exact ih (t.length - (i + 1)) _ _ _ (by omega) ⟨i + 1, x', q'', f'', by omega, rfl, T', O', hf'', rfl, rfl, rfl, rfl, rfl, rfl, rfl⟩
    · have nB : n < B := by
        by_cases c : n = B
        · rw [c] at hPn; exact absurd B31.2.1 hPn
        · omega
      have ny : ¬ y = x0 := fun e => by
        cases hL : Lst t (cP t (fixU t i ++ [(n : Int)])) with
        | none => have := hy.2.1 hL; omega
        | some u =>
          have := hy.1 u hL
          refine hPn ?_
          rw [hP]
          show decide _ = true
          rw [hL, hm, ← this, e]
          exact decide_eq_true rfl
      simp (disch := first | assumption | omega | (simp only [az]; done)) only [ru, eq_self, if_true, if_false, BEq.rfl, binI, AO.row?, splice, fillL, mmAll, loadV, storeV, zeros, Am.rowAt, Am.part, addOff, Nat.reduceAdd, Nat.reduceMul, Nat.reduceLeDiff, Nat.reduceSub, Nat.reduceLT, Int.reduceEq, Int.reduceLT, Int.reduceLE, Int.reduceGT, Int.reduceGE, Int.reduceAdd, Int.reduceSub, Int.reduceMul, Int.reduceNeg, Int.reduceToNat, reduceCtorEq, reduceIte, lenV_sl H.i, elem_pt H.i, view_sl H.i, scalar_sl H.i, cells_sl H.i, pure_sl H.i, Int.toNat_natCast, lenV_sl FW, view_sl FW, scalar_sl FW, cells_sl FW, pure_sl FW, hlb, decide_true, decide_false, exOp_call0, z97, elemAt_ms, hlt, l31, nn, Int.toNat_natCast, Nat.mul_one, Nat.zero_add, k1, k2, k3, k4, k5, k6, k7, k8, k9, k10, fN, ← hh3, vw, gy, List.append_assoc, ny]
      exact ih2 (B - (n + 1)) _ _ _ (by omega) ⟨n + 1, q', f', by omega, rfl, X2, rfl, rfl, rfl, rfl, rfl, rfl, rfl, rfl, rfl⟩
  · have nB : n = B := by omega
    rw [← nB] at fu'
    obtain ⟨PP', PQ', Z', a', h2', j1, j2, j3, j4, j5, j6, j7, j8, j9, N', j10, q'', f'', X3, hf''⟩ := stp X hZN
    obtain ⟨h5, hh5⟩ : ∃ h5, h5 = h2'.set hh.length (.cells N' false) := ⟨_, rfl⟩
    rw [← hh5] at X3
    obtain ⟨x', h6, ha, O', T'⟩ := X3.O.app X3.T (by omega) (n : Int)
    rw [← fu'] at O' hf''
    simp (disch := first | assumption | omega | (simp only [az]; done)) only [ru, eq_self, if_true, if_false, BEq.rfl, binI, AO.row?, splice, fillL, mmAll, loadV, storeV, zeros, Am.rowAt, Am.part, addOff, Nat.reduceAdd, Nat.reduceMul, Nat.reduceLeDiff, Nat.reduceSub, Nat.reduceLT, Int.reduceEq, Int.reduceLT, Int.reduceLE, Int.reduceGT, Int.reduceGE, Int.reduceAdd, Int.reduceSub, Int.reduceMul, Int.reduceNeg, Int.reduceToNat, reduceCtorEq, reduceIte, lenV_sl H.i, elem_pt H.i, view_sl H.i, scalar_sl H.i, cells_sl H.i, pure_sl H.i, Int.toNat_natCast, hlb, decide_true, decide_false]
    simp (disch := first | assumption | omega | (simp only [az]; done)) only [ru, eq_self, if_true, if_false, BEq.rfl, binI, AO.row?, splice, fillL, mmAll, loadV, storeV, zeros, Am.rowAt, Am.part, addOff, Nat.reduceAdd, Nat.reduceMul, Nat.reduceLeDiff, Nat.reduceSub, Nat.reduceLT, Int.reduceEq, Int.reduceLT, Int.reduceLE, Int.reduceGT, Int.reduceGE, Int.reduceAdd, Int.reduceSub, Int.reduceMul, Int.reduceNeg, Int.reduceToNat, reduceCtorEq, reduceIte, lenV_sl H.i, elem_pt H.i, view_sl H.i, scalar_sl H.i, cells_sl H.i, pure_sl H.i, Int.toNat_natCast, decide_true, decide_false, exOp_call0, z97, elemAt_ms, hlt, l31, nn, Int.toNat_natCast, Nat.mul_one, Nat.zero_add, j1, j2, j3, j4, j5, j6, j7, j8, j9, j10, fN, ← hh5, ha, List.append_assoc]
    exact ih (t.length - (i + 1)) _ _ _ (by omega) ⟨i + 1, x', q'', f'', by omega, rfl, T', O', hf'', rfl, rfl, rfl, rfl, rfl, rfl, rfl⟩
end
end Go.Proofs.Yteonklnjchefiaa.S

