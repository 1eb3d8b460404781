/-
The specification's sales are all sales.
-/
import Derived.Test.YtfagcnokdnanpaaGreatGb
namespace Go.Proofs.YtfagcnokdnanpaaGreat.S
open Go Go.Am Go.Proofs.YtfagcnokdnanpaaGreat.T
set_option maxRecDepth 100000
set_option linter.unusedSimpArgs false
set_option linter.unusedVariables false
theorem ens_no2 {ok : List Int → Bool} {cs : List Int} {d : Nat} {F : List Int} (hn : ok F = false) : ens ok cs d F = [] := by
  cases d <;> simp only [ens, hn, Bool.false_eq_true, if_false]
theorem ris_nil {k : Nat} : ris k [] := ⟨by simp, List.Pairwise.nil⟩
theorem asc_filter {r : Int → Bool} {L : List Bi} : ∀ {d : Nat} {F : List Int}, ris L.length F → (asc L.length d F).filter (isS r L) = ens (isS r L) (upto L.length) d F
  | 0, F, h => by
    simp only [asc, ens]
    cases hF : isS r L F
    · simp [List.filter, hF]
    · simp [List.filter, hF]
  | d + 1, F, h => by
    have hfr : frm F ≤ L.length := by
      unfold frm; split
      · omega
      · have hmm : F.getD (F.length - 1) 0 ∈ F := getD_memI (by omega)
        have := h.1 _ hmm
        omega
    rw [asc, List.filter_flatMap]
    have e1 : ∀ n : Nat, n ∈ List.range' (frm F) (L.length - frm F) → (asc L.length d (F ++ [(n : Int)])).filter (isS r L) = ens (isS r L) (upto L.length) d (F ++ [(n : Int)]) := fun n hn => by
      have := List.mem_range'_1.1 hn
      exact asc_filter (ris_snoc.2 ⟨h, by omega, by omega⟩)
    have e2 : (List.range' (frm F) (L.length - frm F)).flatMap (fun (n : Nat) => (asc L.length d (F ++ [(n : Int)])).filter (isS r L)) = (List.range' (frm F) (L.length - frm F)).flatMap fun (n : Nat) => ens (isS r L) (upto L.length) d (F ++ [(n : Int)]) := by
      rw [List.flatMap_def, List.flatMap_def]
      congr 1
      exact List.map_congr_left e1
    rw [e2]
    simp only [ens]
    cases hF : isS r L F
    · simp only [Bool.false_eq_true, if_false]
      refine flatMap_nil' fun n _ => ens_no2 ?_
      rw [isS_snoc, hF]; rfl
    · simp only [if_true]
      have e3 : List.range L.length = List.range (frm F) ++ List.range' (frm F) (L.length - frm F) := by
        rw [List.range_eq_range', List.range_eq_range', show List.range' (frm F) (L.length - frm F) = List.range' (0 + frm F) (L.length - frm F) by rw [Nat.zero_add], List.range'_append_1, show frm F + (L.length - frm F) = L.length by omega]
      rw [upto, List.flatMap_map, e3, List.flatMap_append, flatMap_nil' (l := List.range (frm F)), List.nil_append]
      intro c hc
      rw [List.mem_range] at hc
      refine ens_no2 ?_
      rw [isS_snoc, hF, Bool.true_and]
      have hl : F.length ≠ 0 := fun e => by unfold frm at hc; rw [if_pos e] at hc; omega
      have hmm : F.getD (F.length - 1) 0 ∈ F := getD_memI (by omega)
      have h0 := h.1 _ hmm
      have hlast : ¬ F.getD (F.length - 1) 0 < (c : Int) := by
        unfold frm at hc; rw [if_neg hl] at hc; omega
      have : fitS r L F c = false := by
        unfold fitS
        rw [Bool.and_eq_false_iff]
        refine .inl ?_
        rw [List.all_eq_false]
        refine ⟨_, hmm, ?_⟩
        simp only [apB, decide_eq_false hlast, Bool.false_and, Bool.false_eq_true, not_false_eq_true]
      rw [this, Bool.and_false]
theorem asc_sals {r : Int → Bool} {L : List Bi} {m : Nat} : (asc L.length m []).filter (isS r L) = sals r L m := asc_filter ris_nil
theorem ens_many {ok : List Int → Bool} {cs : List Int} : ∀ {d : Nat} {F : List Int}, (ens ok cs d F).length ≤ cs.length ^ d
  | 0, F => by simp only [ens]; split <;> simp
  | d + 1, F => by
    simp only [ens]
    split
    · rw [Nat.pow_succ, Nat.mul_comm]
      have key : ∀ {l : List Int} {m : Nat}, (∀ x ∈ l, (ens ok cs d (F ++ [x])).length ≤ m) → (l.flatMap fun c => ens ok cs d (F ++ [c])).length ≤ l.length * m := by
        intro l m
        induction l with
        | nil => simp
        | cons a l ih =>
          intro h
          have := h a (by simp)
          have := ih fun x hx => h x (by simp [hx])
          simp only [List.flatMap_cons, List.length_append, List.length_cons, Nat.succ_mul]; omega
      exact key fun c _ => ens_many
    · simp
theorem salT_one {r : Int → Bool} {L : List Bi} : salT r L 1 = [[]] := by
  rw [salT_succ]; simp [salT, sals, ens, isS_nil]
theorem sals_len {r : Int → Bool} {L : List Bi} (hL : L.length ≤ 8) {m : Nat} (hm : m ≤ 4) : (sals r L m).length ≤ 4096 :=
  Nat.le_trans ens_many (by simp only [upto, List.length_map, List.length_range]; exact pow8_le hL hm)
theorem salT_len {r : Int → Bool} {L : List Bi} (hL : L.length ≤ 8) : ∀ {m : Nat}, m ≤ 5 → (salT r L m).length ≤ m * 4096
  | 0, _ => by simp [salT]
  | m + 1, h => by
    have := salT_len (r := r) hL (m := m) (by omega)
    have := sals_len (r := r) hL (m := m) (by omega)
    rw [salT_succ, List.length_append]; omega
theorem asc_le8 {below m : Nat} (hb : below ≤ 8) (hm : m ≤ 4) : (asc below m []).length ≤ 4096 := Nat.le_trans asc_len (pow8_le hb hm)
theorem asc_mem_len {k : Nat} : ∀ {d : Nat} {F x : List Int}, x ∈ asc k d F → x.length = F.length + d
  | 0, F, x, h => by simp only [asc, List.mem_singleton] at h; subst h; rfl
  | d + 1, F, x, h => by
    simp only [asc, List.mem_flatMap] at h
    obtain ⟨b, _, h⟩ := h
    have := asc_mem_len h
    simp only [List.length_append, List.length_singleton] at this
    omega
theorem t120 {m n : Nat} (hm : m ≤ 4) (hn : n ≤ 8) (st : Bool) : Iso E 120 [.nils, I m, I n] st = some (resLL (asc n m [])) := by
  obtain ⟨v, g', hr, _, ho⟩ := r120 hm hn m [] .nils [] 0 (by simp) ris_nil (.inl ⟨rfl, rfl⟩) (Nat.zero_le _)
  simp only [Iso, hr]
  exact ho.view st
section
variable {f : Fs} {k p b pv bv : AV} {w : Nat → AV}
theorem rE : ∀ a : List Int, (resE a).length = 1 := fun _ => rfl
theorem resLL_is2 (L : List (List Int)) : IsSl 1 resE L (resLL L) := by
  unfold resLL; split
  · rename_i h; exact .inr ⟨rfl, h⟩
  · exact slV_is
theorem getD_memL2 {L : List (List Int)} {i : Nat} (hi : i < L.length) : L.getD i [] ∈ L := by
  rw [List.getD_eq_getElem?_getD, List.getElem?_eq_getElem hi]; exact List.getElem_mem hi
theorem outLE_view {h : List AO} {o n : Nat} {L : List (List Int)} (hc : h[o]? = some (.cells (L.flatMap resE) false)) (hne : L ≠ []) : Am.view false h (n + 2) (.ms 1 o 0 L.length) = some (resLL L) := by
  have hr : Am.rowOf h (.ms 1 o 0 L.length) = some (L.flatMap resE) := by
    simp only [Am.rowOf, Am.rowAt, hc, Option.bind_some, AO.row?, List.drop_zero]
    rw [flat_take rE, if_pos (flat_len rE L)]
  have hm : (L.flatMap resE).mapM (view false h (n + 1)) = some (L.flatMap resE) := mapM_view fun x hx => by
    obtain ⟨y, _, hy⟩ := List.mem_flatMap.1 hx
    simp only [resE, List.mem_cons, List.not_mem_nil, or_false] at hy
    subst hy
    exact view_sl (resL_is y) _ _
  simp only [Am.view, hr, hm, resLL, if_neg hne]; rfl
set_option maxHeartbeats 4000000 in
theorem t87 (H : FsOk f k p b pv bv w) (G : FG f) : Iso E 87 [frV f k p b pv bv] false = some (resLL (allS f.r f.bids)) := by
  have nb8 := G.bg.l
  have gn := G.bg.nn
  have a59 := fun st => t59 H G st
  have ll : (rdL f).length ≤ 41 := Nat.le_trans idx_len (by have := G.h.nb; omega)
  have e58 : (fun x => decide (x ∈ rdL f)) = f.r := by
    funext x
    rw [Bool.eq_iff_iff, decide_eq_true_eq]; exact mem_rdL
  obtain ⟨u, hu⟩ : ∃ u, u = resL (rdL f) := ⟨_, rfl⟩
  have U : IsSl 1 intL (rdL f) u := by rw [hu]; exact resL_is _
  rw [← hu] at a59
  have rl : (rdL f).length = ((upto f.h.bs.length).filter f.r).length := by
    simp only [rdL, idx, upto, List.length_map, List.filter_map]; rfl
  have fin : ∀ m : Nat, (¬ (m : Int) ≤ f.n ∨ ¬ (m : Int) ≤ (rdL f).length) → salT f.r f.bids m = allS f.r f.bids := fun m hm => salT_all fun s hs => by
    have := isS_len G.bg hs
    rw [← rl] at this
    omega
  have v1 := fun x => view_sl (resL_is x)
  have v2 := fun x => pure_sl (resL_is x)
  have v3 := fun x => scalar_sl (resL_is x)
  have v4 := fun x => cells_sl (resL_is x)
  simp only [frV] at a59
  have key : ∃ r g', R E (.fn 87) [frV f k p b pv bv] [] 0 = some (r, g') ∧ (∃ o, r = .ms 1 o 0 (allS f.r f.bids).length ∧ g'[o]? = some (.cells ((allS f.r f.bids).flatMap resE) false)) := by
    refine R_of _ (es _ _ _ _) e87 ?_
    simp only [f87, frV]
    simp (disch := first | assumption | omega | (simp only [az]; done)) only [ru, eq_self, if_true, if_false, BEq.rfl, binI, AO.row?, splice, fillL, mmAll, loadV, storeV, zeros, Am.rowAt, Am.part, addOff, Nat.reduceAdd, Nat.reduceMul, Nat.reduceLeDiff, Nat.reduceSub, Nat.reduceLT, Int.reduceEq, Int.reduceLT, Int.reduceLE, Int.reduceGT, Int.reduceGE, Int.reduceAdd, Int.reduceSub, Int.reduceMul, Int.reduceNeg, Int.reduceToNat, reduceCtorEq, reduceIte, H.fai, Int.toNat_natCast, lenV_sl U, view_sl U, scalar_sl U, cells_sl U, pure_sl U, exOp_buildSlice, a59]
    refine G_loop_ind (fun y ts hk mk => ∃ (m o : Nat), 1 ≤ m ∧ m ≤ 5 ∧ y = 5 - m ∧ 1 ≤ o ∧ hk[0]? = some (.cells [k, I f.h.fl, p, b, pv, I f.d, I f.n, bv] false) ∧ hk[o]? = some (.cells ((salT f.r f.bids m).flatMap resE) false) ∧
      ts.length = 49 ∧ ts.getD 1 .undef = .ptr 0 0 ∧ ts.getD 3 .undef = .ms 1 o 0 (salT f.r f.bids m).length ∧ ts.getD 4 .undef = u ∧ ts.getD 5 .undef = I m ∧ mk = []) ?_ 4 _ _ _
      ⟨1, 1, by omega, by omega, rfl, by omega, rfl, by rw [salT_one]; rfl, rfl, rfl, by rw [salT_one]; rfl, rfl, rfl, rfl⟩
    rintro y ts hk mk ih ⟨m, o, m1, m5, rfl, o1, c0, co, hl', q1, q3, q4, q5, rfl⟩
    rw [lit_all hl']
    simp only [lit0, litS, Nat.reduceAdd, q1, q3, q4, q5]
    by_cases d1 : (m : Int) ≤ f.n
    case neg =>
      have e := fin m (.inl d1)
      simp (disch := first | assumption | omega | (simp only [az]; done)) only [ru, eq_self, if_true, if_false, BEq.rfl, binI, AO.row?, splice, fillL, mmAll, loadV, storeV, zeros, Am.rowAt, Am.part, addOff, Nat.reduceAdd, Nat.reduceMul, Nat.reduceLeDiff, Nat.reduceSub, Nat.reduceLT, Int.reduceEq, Int.reduceLT, Int.reduceLE, Int.reduceGT, Int.reduceGE, Int.reduceAdd, Int.reduceSub, Int.reduceMul, Int.reduceNeg, Int.reduceToNat, reduceCtorEq, reduceIte, H.fai, Int.toNat_natCast, lenV_sl U, view_sl U, scalar_sl U, cells_sl U, pure_sl U, c0, d1]
      exact ⟨o, by rw [e], by rw [← e]; exact co⟩
    by_cases d2 : (m : Int) ≤ (rdL f).length
    case neg =>
      have e := fin m (.inr d2)
      simp (disch := first | assumption | omega | (simp only [az]; done)) only [ru, eq_self, if_true, if_false, BEq.rfl, binI, AO.row?, splice, fillL, mmAll, loadV, storeV, zeros, Am.rowAt, Am.part, addOff, Nat.reduceAdd, Nat.reduceMul, Nat.reduceLeDiff, Nat.reduceSub, Nat.reduceLT, Int.reduceEq, Int.reduceLT, Int.reduceLE, Int.reduceGT, Int.reduceGE, Int.reduceAdd, Int.reduceSub, Int.reduceMul, Int.reduceNeg, Int.reduceToNat, reduceCtorEq, reduceIte, H.fai, Int.toNat_natCast, lenV_sl U, view_sl U, scalar_sl U, cells_sl U, pure_sl U, c0, d1, d2]
      exact ⟨o, by rw [e], by rw [← e]; exact co⟩
    have m4 : m ≤ 4 := by omega
    obtain ⟨l, hl⟩ : ∃ l, l = asc f.bids.length m [] := ⟨_, rfl⟩
    have a120 := fun st => t120 (m := m) (n := f.bids.length) m4 nb8 st
    rw [← hl] at a120
    obtain ⟨W, hW⟩ : ∃ W, W = resLL l := ⟨_, rfl⟩
    have WI : IsSl 1 resE l W := by rw [hW]; exact resLL_is2 l
    rw [← hW] at a120
    have ll8 : l.length ≤ 4096 := by rw [hl]; exact asc_le8 nb8 m4
    have sl := salT_len (r := f.r) nb8 (m := m) (by omega)
    have ew : ∀ i : Int, 0 ≤ i → i < l.length → elemAt 1 W (I i) = some (.cptr [resL (l.getD i.toNat [])]) := fun i h0 hi => elem_sl rE WI i h0 hi
    have xl : ∀ x ∈ l, x.length ≤ 41 := fun x hx => by
      rw [hl] at hx
      have := asc_mem_len hx
      simp only [List.length_nil] at this; omega
    have a58 := fun x (hx : x ∈ l) st => t58 H U ll (resL_is x) (xl x hx) st
    rw [e58] at a58
    simp only [frV] at a58
    simp (disch := first | assumption | omega | (simp only [az]; done)) only [ru, eq_self, if_true, if_false, BEq.rfl, binI, AO.row?, splice, fillL, mmAll, loadV, storeV, zeros, Am.rowAt, Am.part, addOff, Nat.reduceAdd, Nat.reduceMul, Nat.reduceLeDiff, Nat.reduceSub, Nat.reduceLT, Int.reduceEq, Int.reduceLT, Int.reduceLE, Int.reduceGT, Int.reduceGE, Int.reduceAdd, Int.reduceSub, Int.reduceMul, Int.reduceNeg, Int.reduceToNat, reduceCtorEq, reduceIte, H.fai, Int.toNat_natCast, lenV_sl U, view_sl U, scalar_sl U, cells_sl U, pure_sl U, c0, d1, d2, a120, lenV_sl WI, view_sl WI, scalar_sl WI, cells_sl WI, pure_sl WI, decide_true]
    refine G_loop_ind (fun y ts hk mk => ∃ (j o : Nat), j ≤ l.length ∧ y = l.length - j ∧ 1 ≤ o ∧ hk[0]? = some (.cells [k, I f.h.fl, p, b, pv, I f.d, I f.n, bv] false) ∧ hk[o]? = some (.cells ((salT f.r f.bids m ++ (l.take j).filter (isS f.r f.bids)).flatMap resE) false) ∧
      ts.length = 49 ∧ ts.getD 1 .undef = .ptr 0 0 ∧ ts.getD 3 .undef = .ms 1 o 0 (salT f.r f.bids m ++ (l.take j).filter (isS f.r f.bids)).length ∧ ts.getD 4 .undef = u ∧ ts.getD 5 .undef = I m ∧ ts.getD 6 .undef = W ∧ ts.getD 7 .undef = I j ∧ mk = []) ?_ l.length _ _ _
      ⟨0, o, by omega, rfl, o1, c0, by simpa using co, rfl, rfl, by simp, rfl, rfl, rfl, rfl, rfl⟩
    clear q1 q3 q4 q5 hl' co c0 o1
    rintro y ts hk mk ih2 ⟨j, o, hj, rfl, o1, c0, co, hl', q1, q3, q4, q5, q6, q7, rfl⟩
    rw [lit_all hl']
    simp only [lit0, litS, Nat.reduceAdd, q1, q3, q4, q5, q6, q7]
    simp (disch := first | assumption | omega | (simp only [az]; done)) only [ru, eq_self, if_true, if_false, BEq.rfl, binI, AO.row?, splice, fillL, mmAll, loadV, storeV, zeros, Am.rowAt, Am.part, addOff, Nat.reduceAdd, Nat.reduceMul, Nat.reduceLeDiff, Nat.reduceSub, Nat.reduceLT, Int.reduceEq, Int.reduceLT, Int.reduceLE, Int.reduceGT, Int.reduceGE, Int.reduceAdd, Int.reduceSub, Int.reduceMul, Int.reduceNeg, Int.reduceToNat, reduceCtorEq, reduceIte, H.fai, Int.toNat_natCast, lenV_sl WI, view_sl WI, scalar_sl WI, cells_sl WI, pure_sl WI]
    by_cases hlt : (j : Int) < l.length
    case neg =>
      obtain rfl : j = l.length := by omega
      have eO : salT f.r f.bids m ++ (l.take l.length).filter (isS f.r f.bids) = salT f.r f.bids (m + 1) := by
        rw [List.take_length, hl, asc_sals, ← salT_succ]
      simp only [eO] at co ⊢
      simp (disch := first | assumption | omega | (simp only [az]; done)) only [ru, eq_self, if_true, if_false, BEq.rfl, binI, AO.row?, splice, fillL, mmAll, loadV, storeV, zeros, Am.rowAt, Am.part, addOff, Nat.reduceAdd, Nat.reduceMul, Nat.reduceLeDiff, Nat.reduceSub, Nat.reduceLT, Int.reduceEq, Int.reduceLT, Int.reduceLE, Int.reduceGT, Int.reduceGE, Int.reduceAdd, Int.reduceSub, Int.reduceMul, Int.reduceNeg, Int.reduceToNat, reduceCtorEq, reduceIte, hlt]
      exact ih (5 - (m + 1)) _ _ _ (by omega) ⟨m + 1, o, by omega, by omega, rfl, o1, c0, co, rfl, rfl, rfl, rfl, rfl, rfl⟩
    have hj' : j < l.length := by omega
    have ej := ew j (by omega) hlt
    rw [Int.toNat_natCast] at ej
    have hx : l.getD j [] ∈ l := getD_memL2 hj'
    have tk := take_snoc (d := []) hj'
    have fl : ((l.take j).filter (isS f.r f.bids)).length ≤ j := Nat.le_trans (List.length_filter_le _ _) (by simp; omega)
    obtain ⟨x, ex⟩ : ∃ x, x = l.getD j [] := ⟨_, rfl⟩
    rw [← ex] at hx tk ej
    have a58x := a58 x hx
    cases hc : isS f.r f.bids x
    · rw [hc] at a58x
      simp (disch := first | assumption | omega | (simp only [az]; done)) only [ru, eq_self, if_true, if_false, BEq.rfl, binI, AO.row?, splice, fillL, mmAll, loadV, storeV, zeros, Am.rowAt, Am.part, addOff, Nat.reduceAdd, Nat.reduceMul, Nat.reduceLeDiff, Nat.reduceSub, Nat.reduceLT, Int.reduceEq, Int.reduceLT, Int.reduceLE, Int.reduceGT, Int.reduceGE, Int.reduceAdd, Int.reduceSub, Int.reduceMul, Int.reduceNeg, Int.reduceToNat, reduceCtorEq, reduceIte, H.fai, Int.toNat_natCast, lenV_sl U, view_sl U, scalar_sl U, cells_sl U, pure_sl U, lenV_sl WI, view_sl WI, scalar_sl WI, cells_sl WI, pure_sl WI, c0, hlt, ej, v1, v2, v3, v4, a58x]
      refine ih2 (l.length - (j + 1)) _ _ _ (by omega) ⟨j + 1, o, by omega, rfl, o1, c0, ?_, rfl, rfl, ?_, rfl, rfl, rfl, rfl, rfl⟩
      · rw [tk, List.filter_append, show [x].filter (isS f.r f.bids) = [] by simp [hc], List.append_nil]; exact co
      · rw [tk, List.filter_append, show [x].filter (isS f.r f.bids) = [] by simp [hc], List.append_nil]; rfl
    · rw [hc] at a58x
      obtain ⟨OU, hO⟩ : ∃ O, O = salT f.r f.bids m ++ (l.take j).filter (isS f.r f.bids) := ⟨_, rfl⟩
      have ol : OU.length ≤ 30000 := by rw [hO, List.length_append]; omega
      have hkl := (List.getElem?_eq_some_iff.1 co).1
      rw [← hO] at co
      have A := appV_ms (lim := 0) (h := hk ++ [.cells [resL x] false]) (esz := 1) (eb := 24) (o := o) (len := OU.length) (n := 1) (x := .ms 1 hk.length 0 1) (c := OU.flatMap resE) (xs := [resL x]) (sh := false) (by rw [at_ap hkl]; exact co) (flat_len rE OU).symm rfl
        (by simp only [rowOf_ms, Am.rowAt, atE]; rfl) rfl (by simp [v3]) (by omega) (by omega) (by omega)
      rw [if_neg (by omega)] at A
      simp only [← hO]
      simp (disch := first | assumption | omega | (simp only [az]; done)) only [ru, eq_self, if_true, if_false, BEq.rfl, binI, AO.row?, splice, fillL, mmAll, loadV, storeV, zeros, Am.rowAt, Am.part, addOff, Nat.reduceAdd, Nat.reduceMul, Nat.reduceLeDiff, Nat.reduceSub, Nat.reduceLT, Int.reduceEq, Int.reduceLT, Int.reduceLE, Int.reduceGT, Int.reduceGE, Int.reduceAdd, Int.reduceSub, Int.reduceMul, Int.reduceNeg, Int.reduceToNat, reduceCtorEq, reduceIte, H.fai, Int.toNat_natCast, lenV_sl U, view_sl U, scalar_sl U, cells_sl U, pure_sl U, lenV_sl WI, view_sl WI, scalar_sl WI, cells_sl WI, pure_sl WI, c0, hlt, ej, v1, v2, v3, v4, a58x, exOp_buildSlice, exOp_append, A]
      have hn : salT f.r f.bids m ++ (l.take (j + 1)).filter (isS f.r f.bids) = OU ++ [x] := by
        rw [tk, List.filter_append, show [x].filter (isS f.r f.bids) = [x] by simp [hc], hO, List.append_assoc]
      have h0l := (List.getElem?_eq_some_iff.1 c0).1
      refine ih2 (l.length - (j + 1)) _ _ _ (by omega) ⟨j + 1, hk.length + 1, by omega, rfl, by omega, ?_, ?_, rfl, rfl, ?_, rfl, rfl, rfl, rfl, rfl⟩
      · rw [at_ap (by simp), List.getElem?_set_ne (by omega), at_ap h0l]; exact c0
      · rw [hn, List.getElem?_append_right (by simp)]
        simp [resE]
      · rw [hn, show (OU ++ [x]).length = OU.length + 1 by simp, show hk.length + 1 = (hk ++ [AO.cells [resL x] false]).length by simp]; rfl
  obtain ⟨r, g', hr, o, rfl, hc⟩ := key
  simp only [Iso, hr]
  exact outLE_view hc (fun e => by have : [] ∈ allS f.r f.bids := nil_mem; rw [e] at this; cases this)
end
end Go.Proofs.YtfagcnokdnanpaaGreat.S
