/-
The specification's Won.
-/
import Derived.Test.YtfagcnokdnanpaaGreatGd
namespace Go.Proofs.YtfagcnokdnanpaaGreat.S
open Go Go.Am Go.Proofs.YtfagcnokdnanpaaGreat.T
set_option maxRecDepth 100000
set_option linter.unusedSimpArgs false
set_option linter.unusedVariables false
def mxP (L : List Bi) (l : List (List Int)) : Int := l.foldl (fun a s => mmx true a (prc L s)) 0
theorem mxP_snoc {L : List Bi} {l : List (List Int)} {s : List Int} : mxP L (l ++ [s]) = mmx true (mxP L l) (prc L s) := by simp [mxP, List.foldl_append]
theorem mmx_t {a b : Int} : a ≤ mmx true a b ∧ b ≤ mmx true a b ∧ (mmx true a b = a ∨ mmx true a b = b) := by
  unfold mmx; simp only [if_true]; split <;> omega
theorem mxP_spec {L : List Bi} (l : List (List Int)) : 0 ≤ mxP L l ∧ (∀ s ∈ l, prc L s ≤ mxP L l) ∧ (mxP L l = 0 ∨ ∃ s ∈ l, mxP L l = prc L s) := by
  induction l using snocRec with
  | nil => exact ⟨Int.le_refl _, by simp, .inl rfl⟩
  | snoc l s ih =>
    obtain ⟨h1, h2, h3⟩ := ih
    rw [mxP_snoc]
    have m := mmx_t (a := mxP L l) (b := prc L s)
    refine ⟨by omega, fun x hx => ?_, ?_⟩
    · rcases List.mem_append.1 hx with hx | hx
      · have := h2 x hx; omega
      · simp at hx; subst hx; omega
    · rcases m.2.2 with e | e
      · rcases h3 with h3 | ⟨x, hx, h3⟩
        · exact .inl (by omega)
        · exact .inr ⟨x, by simp [hx], by omega⟩
      · exact .inr ⟨s, by simp, e⟩
def cntT (L : List Bi) (T : Int) (l : List (List Int)) : Nat := (l.filter fun s => decide (prc L s = T)).length
def cntC (L : List Bi) (T c : Int) (l : List (List Int)) : Nat := (l.filter fun s => decide (prc L s = T) && decide (c ∈ s)).length
theorem cntT_snoc {L : List Bi} {T : Int} {l : List (List Int)} {s : List Int} : cntT L T (l ++ [s]) = cntT L T l + if prc L s = T then 1 else 0 := by
  unfold cntT; rw [List.filter_append, List.length_append]
  by_cases h : prc L s = T <;> simp [h]
theorem cntC_snoc {L : List Bi} {T c : Int} {l : List (List Int)} {s : List Int} : cntC L T c (l ++ [s]) = cntC L T c l + if prc L s = T ∧ c ∈ s then 1 else 0 := by
  unfold cntC; rw [List.filter_append, List.length_append]
  by_cases h : prc L s = T <;> by_cases h2 : c ∈ s <;> simp [h, h2]
theorem cnt_le {L : List Bi} {T c : Int} {l : List (List Int)} : cntT L T l ≤ l.length ∧ cntC L T c l ≤ l.length := ⟨List.length_filter_le _ _, List.length_filter_le _ _⟩
theorem cnt_spec {L : List Bi} {T c : Int} (l : List (List Int)) : cntC L T c l ≤ cntT L T l ∧ (cntC L T c l = 0 ↔ ∀ s ∈ l, prc L s = T → ¬ c ∈ s) ∧ (cntC L T c l = cntT L T l ↔ ∀ s ∈ l, prc L s = T → c ∈ s) := by
  induction l using snocRec with
  | nil => simp [cntC, cntT]
  | snoc l s ih =>
    obtain ⟨h1, h2, h3⟩ := ih
    rw [cntC_snoc, cntT_snoc]
    have q : ∀ {P : List Int → Prop}, (∀ x ∈ l ++ [s], P x) ↔ (∀ x ∈ l, P x) ∧ P s := by
      intro P
      constructor
      · intro h; exact ⟨fun x hx => h x (by simp [hx]), h s (by simp)⟩
      · rintro ⟨h, h'⟩ x hx
        rcases List.mem_append.1 hx with hx | hx
        · exact h x hx
        · simp at hx; subst hx; exact h'
    rw [q, q, ← h2, ← h3]
    by_cases a : prc L s = T <;> by_cases b : c ∈ s
    · rw [if_pos ⟨a, b⟩, if_pos a]
      exact ⟨by omega, ⟨fun h => by omega, fun h => absurd b (h.2 a)⟩, ⟨fun h => ⟨by omega, fun _ => b⟩, fun h => by omega⟩⟩
    · rw [if_neg (fun h => b h.2), if_pos a]
      exact ⟨by omega, ⟨fun h => ⟨by omega, fun _ => b⟩, fun h => by omega⟩, ⟨fun h => by omega, fun h => absurd (h.2 a) b⟩⟩
    · rw [if_neg (fun h => a h.1), if_neg a]
      exact ⟨by omega, ⟨fun h => ⟨by omega, fun h => absurd h a⟩, fun h => by omega⟩, ⟨fun h => ⟨by omega, fun h => absurd h a⟩, fun h => by omega⟩⟩
    · rw [if_neg (fun h => a h.1), if_neg a]
      exact ⟨by omega, ⟨fun h => ⟨by omega, fun h => absurd h a⟩, fun h => by omega⟩, ⟨fun h => ⟨by omega, fun h => absurd h a⟩, fun h => by omega⟩⟩
theorem mxP_top {r : Int → Bool} {n : Int} {nb : Nat} {L : List Bi} (G : BG n nb L) : mxP L (allS r L) = tops L r := by
  have w1 := wins_is G (r := r)
  obtain ⟨h1, h2, h3⟩ := mxP_spec (L := L) (allS r L)
  have := h2 _ (mem_allS.2 w1.1)
  have t0 := tops_ge G (r := r) (s := []) isS_nil
  simp only [prc, List.map_nil, sm] at t0
  rcases h3 with h3 | ⟨s, hs, h3⟩
  · omega
  · have := tops_ge G (mem_allS.1 hs); omega
theorem known_is {r : Int → Bool} {n : Int} {nb : Nat} {L : List Bi} (G : BG n nb L) (c : Int) :
    (if (cntC L (tops L r) c (allS r L) : Int) = 0 then (2 : Int) else if (cntC L (tops L r) c (allS r L) : Int) = (cntT L (tops L r) (allS r L) : Int) then 1 else 3) = wonF L r c := by
  obtain ⟨h1, h2, h3⟩ := cnt_spec (L := L) (T := tops L r) (c := c) (allS r L)
  have wl := wit_le G (r := r) (c := c)
  have A := best_at G (r := r) (pm := fun s => decide (c ∈ s))
  have B := best_at G (r := r) (pm := fun s => !decide (c ∈ s))
  have t0 := tops_ge G (r := r) (s := []) isS_nil
  simp only [prc, List.map_nil, sm] at t0
  have e1 : wit L r c = tops L r ↔ ∃ s, isS r L s = true ∧ prc L s = tops L r ∧ c ∈ s := by
    constructor
    · intro e
      rcases A with ⟨a, _, _⟩ | ⟨a1, a2, a3, _⟩
      · have : wit L r c = -1 := a
        omega
      · have : wit L r c = prc L _ := a3
        exact ⟨_, a1, by omega, by simpa using a2⟩
    · rintro ⟨s, hs, hp, hc⟩
      have : prc L s ≤ wit L r c := best_ge G hs (by simpa using hc)
      omega
  have e2 : wot L r c = tops L r ↔ ∃ s, isS r L s = true ∧ prc L s = tops L r ∧ ¬ c ∈ s := by
    constructor
    · intro e
      rcases B with ⟨a, _, _⟩ | ⟨a1, a2, a3, _⟩
      · have : wot L r c = -1 := a
        omega
      · have : wot L r c = prc L _ := a3
        exact ⟨_, a1, by omega, by simpa using a2⟩
    · rintro ⟨s, hs, hp, hc⟩
      have : prc L s ≤ wot L r c := best_ge G hs (by simpa using hc)
      omega
  have f1 : cntC L (tops L r) c (allS r L) = 0 ↔ ¬ wit L r c = tops L r := by
    rw [h2, e1]
    constructor
    · rintro h ⟨s, hs, hp, hc⟩; exact h s (mem_allS.2 hs) hp hc
    · intro h s hs hp hc; exact h ⟨s, mem_allS.1 hs, hp, hc⟩
  have f2 : cntC L (tops L r) c (allS r L) = cntT L (tops L r) (allS r L) ↔ ¬ wot L r c = tops L r := by
    rw [h3, e2]
    constructor
    · rintro h ⟨s, hs, hp, hc⟩; exact hc (h s (mem_allS.2 hs) hp)
    · intro h s hs hp
      by_cases hc : c ∈ s
      · exact hc
      · exact absurd ⟨s, mem_allS.1 hs, hp, hc⟩ h
  by_cases c1 : cntC L (tops L r) c (allS r L) = 0
  · have := f1.1 c1
    rw [if_pos (by omega)]
    unfold wonF; rw [if_pos (by omega)]
  · have g1 : wit L r c = tops L r := by
      by_cases h : wit L r c = tops L r
      · exact h
      · exact absurd (f1.2 h) c1
    rw [if_neg (by omega)]
    by_cases c2 : cntC L (tops L r) c (allS r L) = cntT L (tops L r) (allS r L)
    · have := f2.1 c2
      rw [if_pos (by omega)]
      unfold wonF; rw [if_neg (by omega), if_pos (by omega)]
    · have g2 : wot L r c = tops L r := by
        by_cases h : wot L r c = tops L r
        · exact h
        · exact absurd (f2.2 h) c2
      rw [if_neg (by omega)]
      unfold wonF; rw [if_neg (by omega), if_neg (by omega)]
section
variable {f : Fs} {k p b pv bv : AV} {w : Nat → AV}
set_option maxHeartbeats 4000000 in
theorem t86 (H : FsOk f k p b pv bv w) (G : FG f) {l : List (List Int)} (hl : l = allS f.r f.bids) {W : AV} (WI : IsSl 1 resE l W) (c : Int) : Iso E 86 [frV f k p b pv bv, W, I c] false = some (I (wonF f.bids f.r c)) := by
  have nb := H.nb
  have his : ∀ x ∈ l, isS f.r f.bids x = true := fun x hx => by rw [hl] at hx; exact mem_allS.1 hx
  have lln : l.length ≤ 30000 := by rw [hl]; exact allS_len G.bg
  have ew : ∀ i : Int, 0 ≤ i → i < l.length → elemAt 1 W (I i) = some (.cptr [resL (l.getD i.toNat [])]) := fun i h0 hi => elem_sl rE WI i h0 hi
  have v1 := fun x => view_sl (resL_is x)
  have v2 := fun x => pure_sl (resL_is x)
  have v3 := fun x => scalar_sl (resL_is x)
  have v4 := fun x => cells_sl (resL_is x)
  have a19 := fun x (hx : isS f.r f.bids x = true) st => t19 H G (resL_is x) (by have := isS_lenL hx; omega) (isS_mem hx) st
  have mt : mxP f.bids l = tops f.bids f.r := by rw [hl]; exact mxP_top G.bg
  have kn := known_is G.bg (r := f.r) c
  rw [← hl] at kn
  simp only [frV] at a19
  refine Iso_of (es _ _ _ _) e86 ?_
  simp only [f86, frV]
  simp (disch := first | assumption | omega | (simp only [az]; done)) only [ru, eq_self, if_true, if_false, BEq.rfl, binI, AO.row?, splice, fillL, mmAll, loadV, storeV, zeros, Am.rowAt, Am.part, addOff, Nat.reduceAdd, Nat.reduceMul, Nat.reduceLeDiff, Nat.reduceSub, Nat.reduceLT, Int.reduceEq, Int.reduceLT, Int.reduceLE, Int.reduceGT, Int.reduceGE, Int.reduceAdd, Int.reduceSub, Int.reduceMul, Int.reduceNeg, Int.reduceToNat, reduceCtorEq, reduceIte, lenV_sl H.h.k, lenV_sl H.h.p, lenV_sl H.h.b, elem_kd H.h.k, elem_pr H.h.p, elem_in H.h.b, view_sl H.h.k, view_sl H.h.p, view_sl H.h.b, scalar_sl H.h.k, scalar_sl H.h.p, scalar_sl H.h.b, cells_sl H.h.k, cells_sl H.h.p, cells_sl H.h.b, pure_sl H.h.k, pure_sl H.h.p, pure_sl H.h.b, Int.toNat_natCast, lenV_sl H.pk, view_sl H.pk, scalar_sl H.pk, cells_sl H.pk, pure_sl H.pk, H.bi.len, H.bi.sc, H.bi.ce, H.bi.pu, H.bi.vw, lenV_sl WI, view_sl WI, scalar_sl WI, cells_sl WI, pure_sl WI]
  refine G_loop_ind (fun m ts hh mk => ∃ (i : Nat), i ≤ l.length ∧ m = l.length - i ∧ ts.length = 53 ∧ ts.getD 1 .undef = W ∧ ts.getD 2 .undef = I c ∧ ts.getD 3 .undef = .ptr 0 0 ∧ ts.getD 7 .undef = I (mxP f.bids (l.take i)) ∧ ts.getD 8 .undef = I 0 ∧ ts.getD 9 .undef = I 0 ∧ ts.getD 10 .undef = I i ∧ hh = [.cells [k, I f.h.fl, p, b, pv, I f.d, I f.n, bv] false] ∧ mk = []) ?_ l.length _ _ _
    ⟨0, Nat.zero_le _, rfl, rfl, rfl, rfl, rfl, rfl, rfl, rfl, rfl, rfl, rfl⟩
  rintro m ts hh mk ih ⟨i, hi', rfl, hl', q1, q2, q3, q7, q8, q9, q10, rfl, rfl⟩
  rw [lit_all hl']
  simp only [lit0, litS, Nat.reduceAdd, q1, q2, q3, q7, q8, q9, q10]
  simp (disch := first | assumption | omega | (simp only [az]; done)) only [ru, eq_self, if_true, if_false, BEq.rfl, binI, AO.row?, splice, fillL, mmAll, loadV, storeV, zeros, Am.rowAt, Am.part, addOff, Nat.reduceAdd, Nat.reduceMul, Nat.reduceLeDiff, Nat.reduceSub, Nat.reduceLT, Int.reduceEq, Int.reduceLT, Int.reduceLE, Int.reduceGT, Int.reduceGE, Int.reduceAdd, Int.reduceSub, Int.reduceMul, Int.reduceNeg, Int.reduceToNat, reduceCtorEq, reduceIte, lenV_sl WI, view_sl WI, scalar_sl WI, cells_sl WI, pure_sl WI]
  by_cases hlt : (i : Int) < l.length
  case pos =>
    have hi2 : i < l.length := by omega
    have ei := ew i (by omega) hlt
    rw [Int.toNat_natCast] at ei
    have ax := a19 _ (his _ (getD_memL2 hi2))
    have tk := take_snoc (d := []) hi2
    obtain ⟨x, ex⟩ : ∃ x, x = l.getD i [] := ⟨_, rfl⟩
    rw [← ex] at ei ax tk
    simp (disch := first | assumption | omega | (simp only [az]; done)) only [ru, eq_self, if_true, if_false, BEq.rfl, binI, AO.row?, splice, fillL, mmAll, loadV, storeV, zeros, Am.rowAt, Am.part, addOff, Nat.reduceAdd, Nat.reduceMul, Nat.reduceLeDiff, Nat.reduceSub, Nat.reduceLT, Int.reduceEq, Int.reduceLT, Int.reduceLE, Int.reduceGT, Int.reduceGE, Int.reduceAdd, Int.reduceSub, Int.reduceMul, Int.reduceNeg, Int.reduceToNat, reduceCtorEq, reduceIte, lenV_sl H.h.k, lenV_sl H.h.p, lenV_sl H.h.b, elem_kd H.h.k, elem_pr H.h.p, elem_in H.h.b, view_sl H.h.k, view_sl H.h.p, view_sl H.h.b, scalar_sl H.h.k, scalar_sl H.h.p, scalar_sl H.h.b, cells_sl H.h.k, cells_sl H.h.p, cells_sl H.h.b, pure_sl H.h.k, pure_sl H.h.p, pure_sl H.h.b, Int.toNat_natCast, lenV_sl H.pk, view_sl H.pk, scalar_sl H.pk, cells_sl H.pk, pure_sl H.pk, H.bi.len, H.bi.sc, H.bi.ce, H.bi.pu, H.bi.vw, lenV_sl WI, view_sl WI, scalar_sl WI, cells_sl WI, pure_sl WI, hlt, ei, v1, v2, v3, v4, ax]
    refine ih (l.length - (i + 1)) _ _ _ (by omega) ⟨i + 1, by omega, rfl, rfl, rfl, rfl, rfl, ?_, rfl, rfl, rfl, rfl, rfl⟩
    rw [tk, mxP_snoc]; rfl
  obtain rfl : i = l.length := by omega
  rw [List.take_length, mt]
  simp (disch := first | assumption | omega | (simp only [az]; done)) only [ru, eq_self, if_true, if_false, BEq.rfl, binI, AO.row?, splice, fillL, mmAll, loadV, storeV, zeros, Am.rowAt, Am.part, addOff, Nat.reduceAdd, Nat.reduceMul, Nat.reduceLeDiff, Nat.reduceSub, Nat.reduceLT, Int.reduceEq, Int.reduceLT, Int.reduceLE, Int.reduceGT, Int.reduceGE, Int.reduceAdd, Int.reduceSub, Int.reduceMul, Int.reduceNeg, Int.reduceToNat, reduceCtorEq, reduceIte, hlt]
  clear ih q1 q2 q3 q7 q8 q9 q10 hl' hlt
  obtain ⟨T, hT⟩ : ∃ T, T = tops f.bids f.r := ⟨_, rfl⟩
  rw [← hT] at kn ⊢
  refine G_loop_ind (fun m ts hh mk => ∃ (i : Nat), i ≤ l.length ∧ m = l.length - i ∧ ts.length = 53 ∧ ts.getD 1 .undef = W ∧ ts.getD 2 .undef = I c ∧ ts.getD 3 .undef = .ptr 0 0 ∧ ts.getD 7 .undef = I T ∧ ts.getD 8 .undef = I (cntC f.bids T c (l.take i)) ∧ ts.getD 9 .undef = I (cntT f.bids T (l.take i)) ∧ ts.getD 11 .undef = I i ∧ hh = [.cells [k, I f.h.fl, p, b, pv, I f.d, I f.n, bv] false] ∧ mk = []) ?_ l.length _ _ _
    ⟨0, Nat.zero_le _, rfl, rfl, rfl, rfl, rfl, rfl, rfl, rfl, rfl, rfl, rfl⟩
  clear ts
  rintro m ts hh mk ih ⟨i, hi', rfl, hl', q1, q2, q3, q7, q8, q9, q11, rfl, rfl⟩
  rw [lit_all hl']
  simp only [lit0, litS, Nat.reduceAdd, q1, q2, q3, q7, q8, q9, q11]
  simp (disch := first | assumption | omega | (simp only [az]; done)) only [ru, eq_self, if_true, if_false, BEq.rfl, binI, AO.row?, splice, fillL, mmAll, loadV, storeV, zeros, Am.rowAt, Am.part, addOff, Nat.reduceAdd, Nat.reduceMul, Nat.reduceLeDiff, Nat.reduceSub, Nat.reduceLT, Int.reduceEq, Int.reduceLT, Int.reduceLE, Int.reduceGT, Int.reduceGE, Int.reduceAdd, Int.reduceSub, Int.reduceMul, Int.reduceNeg, Int.reduceToNat, reduceCtorEq, reduceIte, lenV_sl WI, view_sl WI, scalar_sl WI, cells_sl WI, pure_sl WI]
  by_cases hlt : (i : Int) < l.length
  case neg =>
    obtain rfl : i = l.length := by omega
    rw [List.take_length]
    simp (disch := first | assumption | omega | (simp only [az]; done)) only [ru, eq_self, if_true, if_false, BEq.rfl, binI, AO.row?, splice, fillL, mmAll, loadV, storeV, zeros, Am.rowAt, Am.part, addOff, Nat.reduceAdd, Nat.reduceMul, Nat.reduceLeDiff, Nat.reduceSub, Nat.reduceLT, Int.reduceEq, Int.reduceLT, Int.reduceLE, Int.reduceGT, Int.reduceGE, Int.reduceAdd, Int.reduceSub, Int.reduceMul, Int.reduceNeg, Int.reduceToNat, reduceCtorEq, reduceIte, hlt, t119, kn]
    try rfl
  have hi2 : i < l.length := by omega
  have ei := ew i (by omega) hlt
  rw [Int.toNat_natCast] at ei
  have ax := a19 _ (his _ (getD_memL2 hi2))
  have tk := take_snoc (d := []) hi2
  have xle := isS_lenL (his _ (getD_memL2 hi2))
  have cl := cnt_le (L := f.bids) (T := T) (c := c) (l := l.take i)
  have lt2 : (l.take i).length = i := by rw [List.length_take]; omega
  have b1 : cntT f.bids T (l.take i) ≤ 30000 := by omega
  have b2 : cntC f.bids T c (l.take i) ≤ 30000 := by omega
  obtain ⟨x, ex⟩ : ∃ x, x = l.getD i [] := ⟨_, rfl⟩
  rw [← ex] at ei ax tk xle
  have a22 := fun st => s55 (resL_is x) (by omega) c st
  have nT := cntT_snoc (L := f.bids) (T := T) (l := l.take i) (s := x)
  have nC := cntC_snoc (L := f.bids) (T := T) (c := c) (l := l.take i) (s := x)
  rw [← tk] at nT nC
  obtain ⟨A, hA⟩ : ∃ A, A = cntT f.bids T (l.take i) := ⟨_, rfl⟩
  obtain ⟨B, hB⟩ : ∃ A, A = cntC f.bids T c (l.take i) := ⟨_, rfl⟩
  rw [← hA] at nT b1
  rw [← hB] at nC b2
  simp only [← hA, ← hB]
  by_cases h1 : prc f.bids x = T
  case neg =>
    have h1' : (prc f.bids x != T) = true := by rw [bne_iff_ne]; exact h1
    rw [if_neg h1] at nT
    rw [if_neg (fun h => h1 h.1)] at nC
    simp (disch := first | assumption | omega | (simp only [az]; done)) only [ru, eq_self, if_true, if_false, BEq.rfl, binI, AO.row?, splice, fillL, mmAll, loadV, storeV, zeros, Am.rowAt, Am.part, addOff, Nat.reduceAdd, Nat.reduceMul, Nat.reduceLeDiff, Nat.reduceSub, Nat.reduceLT, Int.reduceEq, Int.reduceLT, Int.reduceLE, Int.reduceGT, Int.reduceGE, Int.reduceAdd, Int.reduceSub, Int.reduceMul, Int.reduceNeg, Int.reduceToNat, reduceCtorEq, reduceIte, lenV_sl H.h.k, lenV_sl H.h.p, lenV_sl H.h.b, elem_kd H.h.k, elem_pr H.h.p, elem_in H.h.b, view_sl H.h.k, view_sl H.h.p, view_sl H.h.b, scalar_sl H.h.k, scalar_sl H.h.p, scalar_sl H.h.b, cells_sl H.h.k, cells_sl H.h.p, cells_sl H.h.b, pure_sl H.h.k, pure_sl H.h.p, pure_sl H.h.b, Int.toNat_natCast, lenV_sl H.pk, view_sl H.pk, scalar_sl H.pk, cells_sl H.pk, pure_sl H.pk, H.bi.len, H.bi.sc, H.bi.ce, H.bi.pu, H.bi.vw, lenV_sl WI, view_sl WI, scalar_sl WI, cells_sl WI, pure_sl WI, hlt, ei, v1, v2, v3, v4, ax, h1']
    refine ih (l.length - (i + 1)) _ _ _ (by omega) ⟨i + 1, by omega, rfl, rfl, rfl, rfl, rfl, rfl, ?_, ?_, rfl, rfl, rfl⟩
    · rw [nC]; rfl
    · rw [nT]; rfl
  have h1' : (prc f.bids x != T) = false := by rw [bne_eq_false_iff_eq]; exact h1
  rw [if_pos h1] at nT
  by_cases h2 : c ∈ x
  · rw [if_pos ⟨h1, h2⟩] at nC
    have h2' : decide (c ∈ x) = true := decide_eq_true h2
    simp (disch := first | assumption | omega | (simp only [az]; done)) only [ru, eq_self, if_true, if_false, BEq.rfl, binI, AO.row?, splice, fillL, mmAll, loadV, storeV, zeros, Am.rowAt, Am.part, addOff, Nat.reduceAdd, Nat.reduceMul, Nat.reduceLeDiff, Nat.reduceSub, Nat.reduceLT, Int.reduceEq, Int.reduceLT, Int.reduceLE, Int.reduceGT, Int.reduceGE, Int.reduceAdd, Int.reduceSub, Int.reduceMul, Int.reduceNeg, Int.reduceToNat, reduceCtorEq, reduceIte, lenV_sl H.h.k, lenV_sl H.h.p, lenV_sl H.h.b, elem_kd H.h.k, elem_pr H.h.p, elem_in H.h.b, view_sl H.h.k, view_sl H.h.p, view_sl H.h.b, scalar_sl H.h.k, scalar_sl H.h.p, scalar_sl H.h.b, cells_sl H.h.k, cells_sl H.h.p, cells_sl H.h.b, pure_sl H.h.k, pure_sl H.h.p, pure_sl H.h.b, Int.toNat_natCast, lenV_sl H.pk, view_sl H.pk, scalar_sl H.pk, cells_sl H.pk, pure_sl H.pk, H.bi.len, H.bi.sc, H.bi.ce, H.bi.pu, H.bi.vw, lenV_sl WI, view_sl WI, scalar_sl WI, cells_sl WI, pure_sl WI, hlt, ei, v1, v2, v3, v4, ax, h1', a22, h2']
    refine ih (l.length - (i + 1)) _ _ _ (by omega) ⟨i + 1, by omega, rfl, rfl, rfl, rfl, rfl, rfl, ?_, ?_, rfl, rfl, rfl⟩
    · rw [nC]; rfl
    · rw [nT]; rfl
  · rw [if_neg (fun h => h2 h.2)] at nC
    have h2' : decide (c ∈ x) = false := decide_eq_false h2
    simp (disch := first | assumption | omega | (simp only [az]; done)) only [ru, eq_self, if_true, if_false, BEq.rfl, binI, AO.row?, splice, fillL, mmAll, loadV, storeV, zeros, Am.rowAt, Am.part, addOff, Nat.reduceAdd, Nat.reduceMul, Nat.reduceLeDiff, Nat.reduceSub, Nat.reduceLT, Int.reduceEq, Int.reduceLT, Int.reduceLE, Int.reduceGT, Int.reduceGE, Int.reduceAdd, Int.reduceSub, Int.reduceMul, Int.reduceNeg, Int.reduceToNat, reduceCtorEq, reduceIte, lenV_sl H.h.k, lenV_sl H.h.p, lenV_sl H.h.b, elem_kd H.h.k, elem_pr H.h.p, elem_in H.h.b, view_sl H.h.k, view_sl H.h.p, view_sl H.h.b, scalar_sl H.h.k, scalar_sl H.h.p, scalar_sl H.h.b, cells_sl H.h.k, cells_sl H.h.p, cells_sl H.h.b, pure_sl H.h.k, pure_sl H.h.p, pure_sl H.h.b, Int.toNat_natCast, lenV_sl H.pk, view_sl H.pk, scalar_sl H.pk, cells_sl H.pk, pure_sl H.pk, H.bi.len, H.bi.sc, H.bi.ce, H.bi.pu, H.bi.vw, lenV_sl WI, view_sl WI, scalar_sl WI, cells_sl WI, pure_sl WI, hlt, ei, v1, v2, v3, v4, ax, h1', a22, h2']
    refine ih (l.length - (i + 1)) _ _ _ (by omega) ⟨i + 1, by omega, rfl, rfl, rfl, rfl, rfl, rfl, ?_, ?_, rfl, rfl, rfl⟩
    · rw [nC]; rfl
    · rw [nT]; rfl
theorem t48 (H : FsOk f k p b pv bv w) (c : Int) : Iso E 48 [frV f k p b pv bv, I c] false = some (.tup [I (if askF f.valid (inR c 0 (f.bids.length - 1)) = 0 then wonF f.bids f.r c else 0), I (askF f.valid (inR c 0 (f.bids.length - 1)))]) := by
  have a85 := fun st => t85 H c st
  have a84 := fun q st => t84 H q st
  simp only [frV] at a85 a84
  refine Iso_of (es _ _ _ _) e48 ?_
  simp only [f48]
  by_cases h : askF f.valid (inR c 0 (f.bids.length - 1)) = 0
  · have hv : f.valid = true := by
      cases hv : f.valid
      · rw [hv] at h; simp [askF] at h
      · rfl
    have G := fvalid_iff hv
    have a87 := t87 H G
    obtain ⟨W, hW⟩ : ∃ W, W = resLL (allS f.r f.bids) := ⟨_, rfl⟩
    have WI : IsSl 1 resE (allS f.r f.bids) W := by rw [hW]; exact resLL_is2 _
    rw [← hW] at a87
    have a86 := t86 H G rfl WI c
    simp only [frV] at a87 a86
    rw [if_pos h]
    simp (disch := first | assumption | omega | (simp only [az]; done)) only [ru, eq_self, if_true, if_false, BEq.rfl, binI, AO.row?, splice, fillL, mmAll, loadV, storeV, zeros, Am.rowAt, Am.part, addOff, Nat.reduceAdd, Nat.reduceMul, Nat.reduceLeDiff, Nat.reduceSub, Nat.reduceLT, Int.reduceEq, Int.reduceLT, Int.reduceLE, Int.reduceGT, Int.reduceGE, Int.reduceAdd, Int.reduceSub, Int.reduceMul, Int.reduceNeg, Int.reduceToNat, reduceCtorEq, reduceIte, lenV_sl H.h.k, lenV_sl H.h.p, lenV_sl H.h.b, elem_kd H.h.k, elem_pr H.h.p, elem_in H.h.b, view_sl H.h.k, view_sl H.h.p, view_sl H.h.b, scalar_sl H.h.k, scalar_sl H.h.p, scalar_sl H.h.b, cells_sl H.h.k, cells_sl H.h.p, cells_sl H.h.b, pure_sl H.h.k, pure_sl H.h.p, pure_sl H.h.b, Int.toNat_natCast, lenV_sl H.pk, view_sl H.pk, scalar_sl H.pk, cells_sl H.pk, pure_sl H.pk, H.bi.len, H.bi.sc, H.bi.ce, H.bi.pu, H.bi.vw, lenV_sl WI, view_sl WI, scalar_sl WI, cells_sl WI, pure_sl WI, a85, a84, h, a87, a86, fin2]
    try rfl
  · have h' : (askF f.valid (inR c 0 (f.bids.length - 1)) != 0) = true := by rw [bne_iff_ne]; exact h
    rw [if_neg h]
    simp (disch := first | assumption | omega | (simp only [az]; done)) only [ru, eq_self, if_true, if_false, BEq.rfl, binI, AO.row?, splice, fillL, mmAll, loadV, storeV, zeros, Am.rowAt, Am.part, addOff, Nat.reduceAdd, Nat.reduceMul, Nat.reduceLeDiff, Nat.reduceSub, Nat.reduceLT, Int.reduceEq, Int.reduceLT, Int.reduceLE, Int.reduceGT, Int.reduceGE, Int.reduceAdd, Int.reduceSub, Int.reduceMul, Int.reduceNeg, Int.reduceToNat, reduceCtorEq, reduceIte, lenV_sl H.h.k, lenV_sl H.h.p, lenV_sl H.h.b, elem_kd H.h.k, elem_pr H.h.p, elem_in H.h.b, view_sl H.h.k, view_sl H.h.p, view_sl H.h.b, scalar_sl H.h.k, scalar_sl H.h.p, scalar_sl H.h.b, cells_sl H.h.k, cells_sl H.h.p, cells_sl H.h.b, pure_sl H.h.k, pure_sl H.h.p, pure_sl H.h.b, Int.toNat_natCast, lenV_sl H.pk, view_sl H.pk, scalar_sl H.pk, cells_sl H.pk, pure_sl H.pk, H.bi.len, H.bi.sc, H.bi.ce, H.bi.pu, H.bi.vw, a85, a84, h', fin2]
    try rfl
end
end Go.Proofs.YtfagcnokdnanpaaGreat.S
