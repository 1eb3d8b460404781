/-
The specification's winners, and what the best sales bring.
-/
import Derived.Test.YtfagcnokdnanpaaGreatGc
namespace Go.Proofs.YtfagcnokdnanpaaGreat.S
open Go Go.Am Go.Proofs.YtfagcnokdnanpaaGreat.T
set_option maxRecDepth 100000
set_option linter.unusedSimpArgs false
set_option linter.unusedVariables false
section
variable {f : Fs} {k p b pv bv : AV} {w : Nat → AV}
theorem allS_head {r : Int → Bool} {L : List Bi} : (allS r L).getD 0 [] = [] := by
  have : allS r L = [] :: ((List.range L.length).flatMap fun i => sals r L (i + 1)) := by
    unfold allS salT
    rw [List.range_succ_eq_map, List.flatMap_cons, List.flatMap_map]
    simp [sals, ens, isS_nil]
  rw [this]; rfl
theorem allS_len {r : Int → Bool} {n : Int} {nb : Nat} {L : List Bi} (G : BG n nb L) : (allS r L).length ≤ 30000 := by
  have gn := G.nn
  rw [← salT_all (k := 5) fun s hs => by have := (isS_len G hs).1; omega]
  have := salT_len (r := r) G.l (m := 5) (by omega)
  omega
theorem bst_step {L : List Bi} {l : List (List Int)} (h0 : ∀ s ∈ l, 0 ≤ prc L s) (hd : l.getD 0 [] = []) {i : Nat} (hi : i < l.length) :
    (bsT L (fun _ => true) (l.take (i + 1))).1 = if prc L (l.getD i []) > prc L (bsT L (fun _ => true) (l.take i)).1 then l.getD i [] else (bsT L (fun _ => true) (l.take i)).1 := by
  rw [take_snoc (d := []) hi, bsT_snoc]
  unfold bsF
  simp only [and_true]
  rcases Nat.eq_zero_or_pos i with rfl | hp
  · rw [hd]
    simp only [List.take_zero, bsT, List.foldl_nil]
    simp [prc, sm]
  · have sp := bsT_spec (L := L) (p := fun _ => true) (l.take i) fun s hs => h0 s (List.mem_of_mem_take hs)
    have e : (bsT L (fun _ => true) (l.take i)).2 = prc L (bsT L (fun _ => true) (l.take i)).1 := by
      rcases sp.2 with ⟨_, _, h⟩ | ⟨_, _, _, _, h, _⟩
      · have hm : l.getD 0 [] ∈ l.take i := by
          rw [List.getD_eq_getElem?_getD, List.getElem?_eq_getElem (by omega), List.mem_iff_getElem?]
          exact ⟨0, by rw [List.getElem?_take_of_lt hp, List.getElem?_eq_getElem (by omega)]; rfl⟩
        have := h _ hm
        cases this
      · exact h
    rw [← e]
    split <;> rfl
set_option maxHeartbeats 2000000 in
theorem t83 (H : FsOk f k p b pv bv w) (G : FG f) : Iso E 83 [frV f k p b pv bv] false = some (resL (wins f.bids f.r)) := by
  have nb := H.nb
  have a87 := t87 H G
  obtain ⟨l, hl⟩ : ∃ l, l = allS f.r f.bids := ⟨_, rfl⟩
  have his : ∀ x ∈ l, isS f.r f.bids x = true := fun x hx => by rw [hl] at hx; exact mem_allS.1 hx
  have hd : l.getD 0 [] = [] := by rw [hl]; exact allS_head
  have l0 : 0 < l.length := by
    have : [] ∈ l := by rw [hl]; exact nil_mem
    exact List.length_pos_of_mem this
  have h0 : ∀ s ∈ l, 0 ≤ prc f.bids s := fun s hs => (sale_bd G.bg (his s hs)).1
  have lln : l.length ≤ 30000 := by rw [hl]; exact allS_len G.bg
  have st := fun {i : Nat} hi => bst_step (L := f.bids) h0 hd (i := i) hi
  have hw : wins f.bids f.r = (bsT f.bids (fun _ => true) l).1 := by rw [hl]; rfl
  rw [← hl] at a87
  rw [hw]
  obtain ⟨W, hW⟩ : ∃ W, W = resLL l := ⟨_, rfl⟩
  have WI : IsSl 1 resE l W := by rw [hW]; exact resLL_is2 l
  rw [← hW] at a87
  have ew : ∀ i : Int, 0 ≤ i → i < l.length → elemAt 1 W (I i) = some (.cptr [resL (l.getD i.toNat [])]) := fun i h0 hi => elem_sl rE WI i h0 hi
  have v1 := fun x => view_sl (resL_is x)
  have v2 := fun x => pure_sl (resL_is x)
  have v3 := fun x => scalar_sl (resL_is x)
  have v4 := fun x => cells_sl (resL_is x)
  have e0 := ew 0 (by omega) (by omega)
  rw [show (0 : Int).toNat = 0 from rfl, hd] at e0
  have a19 := fun x (hx : isS f.r f.bids x = true) st => t19 H G (resL_is x) (by have := isS_lenL hx; omega) (isS_mem hx) st
  have bis : ∀ i, isS f.r f.bids (bsT f.bids (fun _ => true) (l.take i)).1 = true := fun i => by
    rcases (bsT_spec (L := f.bids) (p := fun _ => true) (l.take i) fun s hs => h0 s (List.mem_of_mem_take hs)).2 with ⟨_, e, _⟩ | ⟨a, b, e, _⟩
    · rw [e]; exact isS_nil
    · have : (bsT f.bids (fun _ => true) (l.take i)).1 ∈ l.take i := by
        have : ∀ {l : List (List Int)} {x : List Int}, l = a ++ x :: b → x ∈ l := fun e => by rw [e]; simp
        exact this e
      exact his _ (List.mem_of_mem_take this)
  simp only [frV] at a87 a19
  refine Iso_of (es _ _ _ _) e83 ?_
  simp only [f83, frV]
  simp (disch := first | assumption | omega | (simp only [az]; done)) only [ru, eq_self, if_true, if_false, BEq.rfl, binI, AO.row?, splice, fillL, mmAll, loadV, storeV, zeros, Am.rowAt, Am.part, addOff, Nat.reduceAdd, Nat.reduceMul, Nat.reduceLeDiff, Nat.reduceSub, Nat.reduceLT, Int.reduceEq, Int.reduceLT, Int.reduceLE, Int.reduceGT, Int.reduceGE, Int.reduceAdd, Int.reduceSub, Int.reduceMul, Int.reduceNeg, Int.reduceToNat, reduceCtorEq, reduceIte, H.fai, Int.toNat_natCast, lenV_sl WI, view_sl WI, scalar_sl WI, cells_sl WI, pure_sl WI, a87, e0, v1, v2, v3, v4]
  refine G_loop_ind (fun m ts hh mk => ∃ (i : Nat), i ≤ l.length ∧ m = l.length - i ∧ ts.length = 32 ∧ ts.getD 1 .undef = .ptr 0 0 ∧ ts.getD 3 .undef = W ∧ ts.getD 4 .undef = resL (bsT f.bids (fun _ => true) (l.take i)).1 ∧ ts.getD 5 .undef = I i ∧ hh = [.cells [k, I f.h.fl, p, b, pv, I f.d, I f.n, bv] false] ∧ mk = []) ?_ l.length _ _ _
    ⟨0, Nat.zero_le _, rfl, rfl, rfl, rfl, rfl, rfl, rfl, rfl⟩
  rintro m ts hh mk ih ⟨i, hi', rfl, hl', q1, q3, q4, q5, rfl, rfl⟩
  rw [lit_all hl']
  simp only [lit0, litS, Nat.reduceAdd, q1, q3, q4, q5]
  simp (disch := first | assumption | omega | (simp only [az]; done)) only [ru, eq_self, if_true, if_false, BEq.rfl, binI, AO.row?, splice, fillL, mmAll, loadV, storeV, zeros, Am.rowAt, Am.part, addOff, Nat.reduceAdd, Nat.reduceMul, Nat.reduceLeDiff, Nat.reduceSub, Nat.reduceLT, Int.reduceEq, Int.reduceLT, Int.reduceLE, Int.reduceGT, Int.reduceGE, Int.reduceAdd, Int.reduceSub, Int.reduceMul, Int.reduceNeg, Int.reduceToNat, reduceCtorEq, reduceIte, lenV_sl WI, view_sl WI, scalar_sl WI, cells_sl WI, pure_sl WI]
  by_cases hlt : (i : Int) < l.length
  case neg =>
    obtain rfl : i = l.length := by omega
    rw [List.take_length]
    simp (disch := first | assumption | omega | (simp only [az]; done)) only [ru, eq_self, if_true, if_false, BEq.rfl, binI, AO.row?, splice, fillL, mmAll, loadV, storeV, zeros, Am.rowAt, Am.part, addOff, Nat.reduceAdd, Nat.reduceMul, Nat.reduceLeDiff, Nat.reduceSub, Nat.reduceLT, Int.reduceEq, Int.reduceLT, Int.reduceLE, Int.reduceGT, Int.reduceGE, Int.reduceAdd, Int.reduceSub, Int.reduceMul, Int.reduceNeg, Int.reduceToNat, reduceCtorEq, reduceIte, hlt, v1, v2, v3, v4]
    try rfl
  have hi2 : i < l.length := by omega
  have ei := ew i (by omega) hlt
  rw [Int.toNat_natCast] at ei
  have sti := st hi2
  have ax := a19 _ (his _ (getD_memL2 hi2))
  have ay := a19 _ (bis i)
  obtain ⟨x, ex⟩ : ∃ x, x = l.getD i [] := ⟨_, rfl⟩
  obtain ⟨y, ey⟩ : ∃ y, y = (bsT f.bids (fun _ => true) (l.take i)).1 := ⟨_, rfl⟩
  rw [← ex] at ei sti ax
  rw [← ey] at sti ay
  simp only [← ey]
  by_cases hc : prc f.bids x > prc f.bids y
  · rw [if_pos hc] at sti
    simp (disch := first | assumption | omega | (simp only [az]; done)) only [ru, eq_self, if_true, if_false, BEq.rfl, binI, AO.row?, splice, fillL, mmAll, loadV, storeV, zeros, Am.rowAt, Am.part, addOff, Nat.reduceAdd, Nat.reduceMul, Nat.reduceLeDiff, Nat.reduceSub, Nat.reduceLT, Int.reduceEq, Int.reduceLT, Int.reduceLE, Int.reduceGT, Int.reduceGE, Int.reduceAdd, Int.reduceSub, Int.reduceMul, Int.reduceNeg, Int.reduceToNat, reduceCtorEq, reduceIte, H.fai, Int.toNat_natCast, lenV_sl WI, view_sl WI, scalar_sl WI, cells_sl WI, pure_sl WI, hlt, ei, v1, v2, v3, v4, ax, ay, hc, decide_true]
    refine ih (l.length - (i + 1)) _ _ _ (by omega) ⟨i + 1, by omega, rfl, rfl, rfl, rfl, ?_, rfl, rfl, rfl⟩
    rw [sti]; rfl
  · rw [if_neg hc] at sti
    simp (disch := first | assumption | omega | (simp only [az]; done)) only [ru, eq_self, if_true, if_false, BEq.rfl, binI, AO.row?, splice, fillL, mmAll, loadV, storeV, zeros, Am.rowAt, Am.part, addOff, Nat.reduceAdd, Nat.reduceMul, Nat.reduceLeDiff, Nat.reduceSub, Nat.reduceLT, Int.reduceEq, Int.reduceLT, Int.reduceLE, Int.reduceGT, Int.reduceGE, Int.reduceAdd, Int.reduceSub, Int.reduceMul, Int.reduceNeg, Int.reduceToNat, reduceCtorEq, reduceIte, H.fai, Int.toNat_natCast, lenV_sl WI, view_sl WI, scalar_sl WI, cells_sl WI, pure_sl WI, hlt, ei, v1, v2, v3, v4, ax, ay, hc, decide_false]
    refine ih (l.length - (i + 1)) _ _ _ (by omega) ⟨i + 1, by omega, rfl, rfl, rfl, rfl, ?_, rfl, rfl, rfl⟩
    rw [sti]; rfl
theorem t80 (H : FsOk f k p b pv bv w) (G : FG f) : Iso E 80 [frV f k p b pv bv] false = some (I (tops f.bids f.r)) := by
  have a83 := t83 H G
  have w1 := wins_is G.bg (r := f.r)
  have a19 := fun st => t19 H G (resL_is (wins f.bids f.r)) (by have := isS_lenL w1.1; have := H.nb; omega) (isS_mem w1.1) st
  rw [w1.2.1] at a19
  obtain ⟨u, hu⟩ : ∃ u, u = resL (wins f.bids f.r) := ⟨_, rfl⟩
  have U : IsSl 1 intL (wins f.bids f.r) u := by rw [hu]; exact resL_is _
  rw [← hu] at a83 a19
  simp only [frV] at a83 a19
  refine Iso_of (es _ _ _ _) e80 ?_
  simp only [f80]
  simp (disch := first | assumption | omega | (simp only [az]; done)) only [ru, eq_self, if_true, if_false, BEq.rfl, binI, AO.row?, splice, fillL, mmAll, loadV, storeV, zeros, Am.rowAt, Am.part, addOff, Nat.reduceAdd, Nat.reduceMul, Nat.reduceLeDiff, Nat.reduceSub, Nat.reduceLT, Int.reduceEq, Int.reduceLT, Int.reduceLE, Int.reduceGT, Int.reduceGE, Int.reduceAdd, Int.reduceSub, Int.reduceMul, Int.reduceNeg, Int.reduceToNat, reduceCtorEq, reduceIte, H.fai, Int.toNat_natCast, lenV_sl U, view_sl U, scalar_sl U, cells_sl U, pure_sl U, a83, a19]
end
end Go.Proofs.YtfagcnokdnanpaaGreat.S
