/-
The law of stage 2 on what is needed.
-/
import Derived.Test.YtpflneddfhifkaaHn
namespace Go.Proofs.Ytpflneddfhifkaa.S
open Go Go.Am Go.Proofs.Ytpflneddfhifkaa.T
set_option maxRecDepth 100000
set_option linter.unusedSimpArgs false
set_option linter.unusedVariables false

/-- the first k anchors are heavier by as much as they need -/
def hvy (n : Net) : Nat → Net
  | 0 => n
  | k + 1 => heavy (hvy n k) k (ndT n (rough n) k)
theorem hvy_len {n : Net} : ∀ {k : Nat}, (hvy n k).ancs.length = n.ancs.length
  | 0 => rfl
  | k + 1 => by rw [hvy, heavy_len, hvy_len]
theorem hvy_rough {n : Net} : ∀ {k : Nat}, rough (hvy n k) = rough n
  | 0 => rfl
  | k + 1 => hvy_rough (n := n) (k := k)
theorem hvy_at {n : Net} : ∀ {k : Nat}, k ≤ n.ancs.length → ∀ i, (hvy n k).ancs.getD i default = if i < k then ⟨(n.ancs.getD i default).w + ndT n (rough n) i, (n.ancs.getD i default).b⟩ else n.ancs.getD i default
  | 0, _, i => by rw [if_neg (by omega)]; rfl
  | k + 1, h, i => by
    rw [hvy, heavy_at (by rw [hvy_len]; omega), hvy_at (by omega), hvy_at (by omega)]
    by_cases e : k = i
    · subst e; rw [if_pos rfl, if_neg (by omega), if_pos (by omega)]
    · rw [if_neg e]
      by_cases h2 : i < k
      · rw [if_pos h2, if_pos (by omega)]
      · rw [if_neg h2, if_neg (by omega)]
theorem nd_le {n : Net} (hv : n.valid = true) (hA : ndAll n = true) {i : Nat} (hi : i < n.ancs.length) : (ndT n (rough n) i : Int) ≤ 20 - (n.ancs.getD i default).w ∧ 0 ≤ (n.ancs.getD i default).w ∧ (n.ancs.getD i default).w ≤ 20 := by
  have b := (netB hv).a _ (getD_mem (l := n.ancs) hi)
  have h : ndOk n (rough n) i = true := List.all_eq_true.1 hA i (List.mem_range.2 hi)
  unfold ndOk roomI at h
  rw [decide_eq_true_eq] at h
  omega
theorem hvy_valid {n : Net} (hv : n.valid = true) (hA : ndAll n = true) : ∀ {k : Nat}, k ≤ n.ancs.length → (hvy n k).valid = true
  | 0, _ => hv
  | k + 1, h => by
    have e := hvy_at (n := n) (k := k) (by omega) k
    rw [if_neg (by omega)] at e
    have b := nd_le hv hA (i := k) (by omega)
    exact heavy_valid (hvy_valid hv hA (by omega)) (by rw [hvy_len]; omega) (by rw [e]; omega) (by rw [e]; omega)
theorem hvy_bears {n : Net} {t : Tru} (i : Nat) (D : Nat → Bool) : ∀ {k : Nat}, bearsI (hvy n k) t i D = bearsI n t i D
  | 0 => rfl
  | k + 1 => by rw [hvy, heavy_bears, hvy_bears]
theorem hvy_spare {n : Net} {t : Tru} {i : Nat} (hi : i < n.ancs.length) : spareI (hvy n n.ancs.length) t i = spareI n t i + 2 * (ndT n (rough n) i : Int) * gripI n t i := by
  unfold spareI canI gripI
  rw [hvy_bears, hvy_at (Nat.le_refl _), if_pos hi]
  simp only [Int.mul_add, Int.add_mul]
  omega
theorem safe_one {n : Net} : safeR n = 1 ↔ still n (rough n) = true := by
  unfold safeR
  by_cases h : still n (rough n) = true
  · simp [h]
  · rw [if_neg h]
    constructor
    · intro e; split at e <;> omega
    · intro e; exact absurd e h
theorem still_spare {n : Net} {t : Tru} : still n t = true ↔ ∀ i, i < n.ancs.length → 0 ≤ spareI n t i := by
  rw [still_iff]
  constructor
  · intro h i hi
    have := h i hi
    rw [first_at, decide_eq_false_iff_not] at this; omega
  · intro h i hi
    have := h i hi
    rw [first_at, decide_eq_false_iff_not]; omega
theorem nd_zero {n : Net} {t : Tru} {i : Nat} (hr : 0 < roomI n i) : ndT n t i = 0 ↔ 0 ≤ spareI n t i := by
  unfold ndT
  obtain ⟨f, hf⟩ : ∃ f, roomI n i = f + 1 := ⟨roomI n i - 1, by omega⟩
  have e : 2 * ((0 : Nat) : Int) * gripI n t i = 0 := by simp
  rw [hf, ndGo, e]
  have := (ndGo_ge (s := spareI n t i) (g := gripI n t i) (f := f) (m := 0 + 1)).1
  split <;> omega
theorem room_pos {n : Net} (hv : n.valid = true) {i : Nat} (hi : i < n.ancs.length) : 0 < roomI n i ∧ roomI n i ≤ 21 := by
  have b := (netB hv).a _ (getD_mem (l := n.ancs) hi)
  unfold roomI; omega
def smI (n : Net) : Nat → Nat
  | 0 => 0
  | k + 1 => smI n k + ndT n (rough n) k
theorem sm_le {n : Net} (hv : n.valid = true) : ∀ {k : Nat}, k ≤ n.ancs.length → smI n k ≤ 21 * k
  | 0, _ => Nat.le_refl _
  | k + 1, h => by
    have := sm_le hv (k := k) (by omega)
    have r := room_pos hv (i := k) (by omega)
    have := (ndGo_ge (s := spareI n (rough n) k) (g := gripI n (rough n) k) (f := roomI n k) (m := 0)).2
    rw [smI]; unfold ndT; omega
theorem sm_zero {n : Net} : ∀ {k : Nat}, smI n k = 0 ↔ ∀ i, i < k → ndT n (rough n) i = 0
  | 0 => by simp [smI]
  | k + 1 => by
    rw [smI]
    constructor
    · intro h i hi
      by_cases e : i = k
      · subst e; omega
      · exact (sm_zero (k := k)).1 (by omega) i (by omega)
    · intro h
      have h1 := sm_zero.2 fun i (hi : i < k) => h i (by omega)
      have h2 := h k (by omega)
      omega
theorem sum_safe {n : Net} (hv : n.valid = true) : smI n n.ancs.length = 0 ↔ safeR n = 1 := by
  rw [sm_zero, safe_one, still_spare]
  constructor
  · intro h i hi; exact (nd_zero (room_pos hv hi).1).1 (h i hi)
  · intro h i hi; exact (nd_zero (room_pos hv hi).1).2 (h i hi)
theorem hvy_safe {n : Net} (hv : n.valid = true) (hA : ndAll n = true) : safeR (hvy n n.ancs.length) = 1 := by
  rw [safe_one, still_spare]
  intro i hi
  rw [hvy_len] at hi
  rw [hvy_rough, hvy_spare hi]
  have h : ndOk n (rough n) i = true := List.all_eq_true.1 hA i (List.mem_range.2 hi)
  unfold ndOk at h
  rw [decide_eq_true_eq] at h
  exact ndGo_yes (by rw [Nat.zero_add]; exact h)
theorem not_safe {n : Net} (hv : n.valid = true) (hA : ndAll n = false) : ¬ safeR n = 1 := by
  rw [safe_one, still_spare]
  intro h
  unfold ndAll at hA
  rw [List.all_eq_false] at hA
  obtain ⟨i, hi, hn⟩ := hA
  have hi' := List.mem_range.1 hi
  have := (nd_zero (room_pos hv hi').1).2 (h i hi')
  have r := (room_pos hv hi').1
  simp [ndOk, this, r] at hn
theorem less_safe {n : Net} (hv : n.valid = true) (hA : ndAll n = true) {i : Nat} (hi : i < n.ancs.length) (hm : 0 < ndT n (rough n) i) : ¬ safeR (heavy (hvy n n.ancs.length) i (-1)) = 1 := by
  rw [safe_one, still_spare]
  intro h
  have := h i (by rw [heavy_len, hvy_len]; exact hi)
  have e : rough (heavy (hvy n n.ancs.length) i (-1)) = rough n := hvy_rough (n := n) (k := n.ancs.length)
  rw [e] at this
  have hno := ndGo_no (s := spareI n (rough n) i) (g := gripI n (rough n) i) (f := roomI n i) (m := 0) (j := ndT n (rough n) i - 1) (Nat.zero_le _) (by show _ < ndT n (rough n) i; omega)
  apply hno
  have es : spareI (heavy (hvy n n.ancs.length) i (-1)) (rough n) i = spareI n (rough n) i + 2 * ((ndT n (rough n) i - 1 : Nat) : Int) * gripI n (rough n) i := by
    unfold spareI canI gripI
    rw [heavy_bears, hvy_bears, heavy_at (by rw [hvy_len]; exact hi), if_pos rfl, hvy_at (Nat.le_refl _), if_pos hi]
    have e1 : ((ndT n (rough n) i - 1 : Nat) : Int) = (ndT n (rough n) i : Int) - 1 := by omega
    simp only [e1, Int.mul_add, Int.add_mul, Int.mul_sub, Int.sub_mul]
    omega
  rw [es] at this
  exact this
theorem less_valid {n : Net} (hv : n.valid = true) (hA : ndAll n = true) {i : Nat} (hi : i < n.ancs.length) (hm : 0 < ndT n (rough n) i) : (heavy (hvy n n.ancs.length) i (-1)).valid = true := by
  have b := nd_le hv hA hi
  exact heavy_valid (hvy_valid hv hA (Nat.le_refl _)) (by rw [hvy_len]; exact hi) (by rw [hvy_at (Nat.le_refl _), if_pos hi]; simp only; omega) (by rw [hvy_at (Nat.le_refl _), if_pos hi]; simp only; omega)
theorem ndl_at {n : Net} {k i : Nat} (h : i < k) : (ndl n k).getD i default = (ndT n (rough n) i : Int) := by
  simp [ndl, List.getD_eq_getElem?_getD, h]

set_option maxHeartbeats 4000000 in
theorem s13 {n : Net} {g a w : AV} (H0 : NetIn n g a w) (x : Int) (st : Bool) : Iso E 13 [netV n g a w, I x] st = some (Bo true) := by
  refine Iso_of (es _ _ _ _) e13 ?_
  simp only [f13, netV]
  by_cases hs : smallN n
  case neg =>
    simp (disch := first | assumption | omega | (simp only [az]; done)) only [ru, eq_self, if_true, if_false, BEq.rfl, binI, AO.row?, splice, fillL, mmAll, loadV, storeV, zeros, Am.rowAt, Am.part, addOff, Nat.reduceAdd, Nat.reduceMul, Nat.reduceLeDiff, Nat.reduceSub, Nat.reduceLT, Int.reduceEq, Int.reduceLT, Int.reduceLE, Int.reduceGT, Int.reduceGE, Int.reduceAdd, Int.reduceSub, Int.reduceMul, Int.reduceNeg, Int.reduceToNat, reduceCtorEq, reduceIte, s62h H0 hs, view_sl H0.g, view_sl H0.a, view_sl H0.w, gUn, s16]
  have H : NetOk n g a w := ⟨H0.g, H0.a, H0.w, hs.1, hs.2.1, hs.2.2⟩
  have sa := H.sa
  cases hr : rdy n
  · simp (disch := first | assumption | omega | (simp only [az]; done)) only [ru, eq_self, if_true, if_false, BEq.rfl, binI, AO.row?, splice, fillL, mmAll, loadV, storeV, zeros, Am.rowAt, Am.part, addOff, Nat.reduceAdd, Nat.reduceMul, Nat.reduceLeDiff, Nat.reduceSub, Nat.reduceLT, Int.reduceEq, Int.reduceLT, Int.reduceLE, Int.reduceGT, Int.reduceGE, Int.reduceAdd, Int.reduceSub, Int.reduceMul, Int.reduceNeg, Int.reduceToNat, reduceCtorEq, reduceIte, lenV_sl H.g, lenV_sl H.a, lenV_sl H.w, elem_sl Spn.el H.g, elem_sl Anc.el H.a, elem_sl Wal.el H.w, view_sl H.g, view_sl H.a, view_sl H.w, scalar_sl H.g, scalar_sl H.a, scalar_sl H.w, cells_sl H.g, cells_sl H.a, cells_sl H.w, pure_sl H.g, pure_sl H.a, pure_sl H.w, Spn.e, Anc.e, Wal.e, Spn.eta, Anc.eta, Wal.eta, Int.toNat_natCast, s62 H, hr, gUn, s16]
  have hv : n.valid = true := by simp only [rdy, Bool.and_eq_true] at hr; exact hr.2
  cases hx : inR x 0 ((n.ancs.length : Int) - 1)
  · simp (disch := first | assumption | omega | (simp only [az]; done)) only [ru, eq_self, if_true, if_false, BEq.rfl, binI, AO.row?, splice, fillL, mmAll, loadV, storeV, zeros, Am.rowAt, Am.part, addOff, Nat.reduceAdd, Nat.reduceMul, Nat.reduceLeDiff, Nat.reduceSub, Nat.reduceLT, Int.reduceEq, Int.reduceLT, Int.reduceLE, Int.reduceGT, Int.reduceGE, Int.reduceAdd, Int.reduceSub, Int.reduceMul, Int.reduceNeg, Int.reduceToNat, reduceCtorEq, reduceIte, lenV_sl H.g, lenV_sl H.a, lenV_sl H.w, elem_sl Spn.el H.g, elem_sl Anc.el H.a, elem_sl Wal.el H.w, view_sl H.g, view_sl H.a, view_sl H.w, scalar_sl H.g, scalar_sl H.a, scalar_sl H.w, cells_sl H.g, cells_sl H.a, cells_sl H.w, pure_sl H.g, pure_sl H.a, pure_sl H.w, Spn.e, Anc.e, Wal.e, Spn.eta, Anc.eta, Wal.eta, Int.toNat_natCast, s62 H, hr, s57 H, hx, gUn, s16]
  have hx' := inR_iff.1 hx
  obtain ⟨k, rfl⟩ : ∃ k : Nat, x = k := ⟨x.toNat, by omega⟩
  have hk : k < n.ancs.length := by omega
  have a1 := fun st => s49 H hv st
  have a2 := fun st => s39 H hv st
  obtain ⟨S, hS⟩ : ∃ S, S = safeR n := ⟨_, rfl⟩
  simp only [← hS] at a2
  cases hA : ndAll n
  · simp only [hA, Bool.false_eq_true, if_false] at a1
    have ns := not_safe hv hA
    rw [← hS] at ns
    simp (disch := first | assumption | omega | (simp only [az]; done)) only [ru, eq_self, if_true, if_false, BEq.rfl, binI, AO.row?, splice, fillL, mmAll, loadV, storeV, zeros, Am.rowAt, Am.part, addOff, Nat.reduceAdd, Nat.reduceMul, Nat.reduceLeDiff, Nat.reduceSub, Nat.reduceLT, Int.reduceEq, Int.reduceLT, Int.reduceLE, Int.reduceGT, Int.reduceGE, Int.reduceAdd, Int.reduceSub, Int.reduceMul, Int.reduceNeg, Int.reduceToNat, reduceCtorEq, reduceIte, lenV_sl H.g, lenV_sl H.a, lenV_sl H.w, elem_sl Spn.el H.g, elem_sl Anc.el H.a, elem_sl Wal.el H.w, view_sl H.g, view_sl H.a, view_sl H.w, scalar_sl H.g, scalar_sl H.a, scalar_sl H.w, cells_sl H.g, cells_sl H.a, cells_sl H.w, pure_sl H.g, pure_sl H.a, pure_sl H.w, Spn.e, Anc.e, Wal.e, Spn.eta, Anc.eta, Wal.eta, Int.toNat_natCast, s62 H, hr, s57 H, hx, a1, a2, ns, gUn, s16]
  simp only [hA, if_true] at a1
  have la := (netB hv).la
  obtain ⟨L, hL⟩ : ∃ L, L = ndl n n.ancs.length := ⟨_, rfl⟩
  have lL : L.length = n.ancs.length := by rw [hL, ndl_len]
  have atL : ∀ i, i < n.ancs.length → L.getD i default = (ndT n (rough n) i : Int) := fun i hi => by rw [hL, ndl_at hi]
  simp only [← hL] at a1
  have LL := resL_is L
  simp (disch := first | assumption | omega | (simp only [az]; done)) only [ru, eq_self, if_true, if_false, BEq.rfl, binI, AO.row?, splice, fillL, mmAll, loadV, storeV, zeros, Am.rowAt, Am.part, addOff, Nat.reduceAdd, Nat.reduceMul, Nat.reduceLeDiff, Nat.reduceSub, Nat.reduceLT, Int.reduceEq, Int.reduceLT, Int.reduceLE, Int.reduceGT, Int.reduceGE, Int.reduceAdd, Int.reduceSub, Int.reduceMul, Int.reduceNeg, Int.reduceToNat, reduceCtorEq, reduceIte, lenV_sl H.g, lenV_sl H.a, lenV_sl H.w, elem_sl Spn.el H.g, elem_sl Anc.el H.a, elem_sl Wal.el H.w, view_sl H.g, view_sl H.a, view_sl H.w, scalar_sl H.g, scalar_sl H.a, scalar_sl H.w, cells_sl H.g, cells_sl H.a, cells_sl H.w, pure_sl H.g, pure_sl H.a, pure_sl H.w, Spn.e, Anc.e, Wal.e, Spn.eta, Anc.eta, Wal.eta, Int.toNat_natCast, s62 H, hr, s57 H, hx, a1, a2, gUn, resL_sc, resL_ce, resL_pu, resL_vi, lenV_sl LL, lL]
  refine G_loop_ind (fun m ts h mk => ∃ (i : Nat) (o : Net) (g' a' w' : AV), i ≤ n.ancs.length ∧ m = n.ancs.length - i ∧ o = hvy n i ∧ NetOk o g' a' w' ∧ ts.length = 132 ∧ ts.getD 1 .undef = I k ∧ ts.getD 2 .undef = .ptr 0 0 ∧
    ts.getD 5 .undef = resL L ∧ ts.getD 7 .undef = I S ∧ ts.getD 9 .undef = .ptr 1 0 ∧ ts.getD 10 .undef = I (smI n i) ∧ ts.getD 11 .undef = I i ∧
    h = [.cells [I n.wind.lo, I n.wind.hi, I n.cur.lo, I n.cur.hi, g, a, w] false, .cells [I o.wind.lo, I o.wind.hi, I o.cur.lo, I o.cur.hi, g', a', w'] false] ∧ mk = []) ?_ _ _ _ _ ⟨0, n, g, a, w, Nat.zero_le _, rfl, rfl, H, rfl, rfl, rfl, rfl, rfl, rfl, rfl, rfl, rfl, rfl⟩
  rintro m ts h mk ih ⟨i, o, g', a', w', hi, rfl, ho, H', hl, q1, q2, q5, q7, q9, q10, q11, rfl, rfl⟩
  rw [lit_all hl]
  simp only [lit0, litS, Nat.reduceAdd, q1, q2, q5, q7, q9, q10, q11]
  simp (disch := first | assumption | omega | (simp only [az]; done)) only [ru, eq_self, if_true, if_false, BEq.rfl, binI, AO.row?, splice, fillL, mmAll, loadV, storeV, zeros, Am.rowAt, Am.part, addOff, Nat.reduceAdd, Nat.reduceMul, Nat.reduceLeDiff, Nat.reduceSub, Nat.reduceLT, Int.reduceEq, Int.reduceLT, Int.reduceLE, Int.reduceGT, Int.reduceGE, Int.reduceAdd, Int.reduceSub, Int.reduceMul, Int.reduceNeg, Int.reduceToNat, reduceCtorEq, reduceIte, lenV_sl LL, lL]
  have vo : ∀ st, view false st 8 g' = some g' := fun _ => view_sl H'.g _ _
  by_cases hlt : (i : Int) < n.ancs.length
  case pos =>
    have hi' : i < n.ancs.length := by omega
    have b := nd_le hv hA hi'
    have hw : inR (ndT n (rough n) i : Int) 0 (20 - (n.ancs.getD i default).w) = true := inR_iff.2 ⟨by omega, b.1⟩
    have eo := hvy_at (n := n) (k := i) (by omega) i
    rw [if_neg (by omega), ← ho] at eo
    have c1 := fun st => s59 H' (k := i) (by rw [ho, hvy_len]; exact hi') (x := (ndT n (rough n) i : Int)) (by rw [eo]; omega) (by omega) st
    have sm := sm_le hv (k := i + 1) (by omega)
    rw [smI] at sm
    obtain ⟨o', hn⟩ : ∃ o', o' = heavy o i (ndT n (rough n) i : Int) := ⟨_, rfl⟩
    simp only [← hn, netC, netV] at c1
    simp (disch := first | assumption | omega | (simp only [az]; done)) only [ru, eq_self, if_true, if_false, BEq.rfl, binI, AO.row?, splice, fillL, mmAll, loadV, storeV, zeros, Am.rowAt, Am.part, addOff, Nat.reduceAdd, Nat.reduceMul, Nat.reduceLeDiff, Nat.reduceSub, Nat.reduceLT, Int.reduceEq, Int.reduceLT, Int.reduceLE, Int.reduceGT, Int.reduceGE, Int.reduceAdd, Int.reduceSub, Int.reduceMul, Int.reduceNeg, Int.reduceToNat, reduceCtorEq, reduceIte, lenV_sl H.g, lenV_sl H.a, lenV_sl H.w, elem_sl Spn.el H.g, elem_sl Anc.el H.a, elem_sl Wal.el H.w, view_sl H.g, view_sl H.a, view_sl H.w, scalar_sl H.g, scalar_sl H.a, scalar_sl H.w, cells_sl H.g, cells_sl H.a, cells_sl H.w, pure_sl H.g, pure_sl H.a, pure_sl H.w, Spn.e, Anc.e, Wal.e, Spn.eta, Anc.eta, Wal.eta, Int.toNat_natCast, hlt, elem_sl intE LL, lL, atL i hi', s58, hw, view_sl H'.g, view_sl H'.a, view_sl H'.w, scalar_sl H'.g, scalar_sl H'.a, scalar_sl H'.w, cells_sl H'.g, cells_sl H'.a, cells_sl H'.w, pure_sl H'.g, pure_sl H'.a, pure_sl H'.w, c1, slV_sc, slV_ce, slV_vi, slV_pu]
    refine ih (n.ancs.length - (i + 1)) _ _ _ (by omega) ⟨i + 1, o', _, _, _, by omega, rfl, by rw [hn, hvy, ho], ⟨slV_is, slV_is, slV_is, ?_, ?_, ?_⟩, rfl, rfl, rfl, rfl, rfl, rfl, rfl, rfl, rfl, rfl⟩
    · rw [hn]; exact H'.sg
    · rw [hn, heavy_len]; exact H'.sa
    · rw [hn]; exact H'.sw
  obtain rfl : i = n.ancs.length := by omega
  have vo' : o.valid = true := by rw [ho]; exact hvy_valid hv hA (Nat.le_refl _)
  have d1 := fun st => s39 H' vo' st
  have so : safeR o = 1 := by rw [ho]; exact hvy_safe hv hA
  simp only [so] at d1
  have ss := sum_safe hv
  rw [← hS] at ss
  have hk' : (k : Int) < n.ancs.length := by omega
  have hb : (decide ((smI n n.ancs.length : Int) = 0) == decide (S = 1)) = true := by
    by_cases h : S = 1
    · have := ss.2 h; simp [h, this]
    · have : ¬ smI n n.ancs.length = 0 := fun e => h (ss.1 e)
      simp [h, this]
  by_cases hz : ndT n (rough n) k = 0
  · have hz' : (ndT n (rough n) k : Int) = 0 := by omega
    simp (disch := first | assumption | omega | (simp only [az]; done)) only [ru, eq_self, if_true, if_false, BEq.rfl, binI, AO.row?, splice, fillL, mmAll, loadV, storeV, zeros, Am.rowAt, Am.part, addOff, Nat.reduceAdd, Nat.reduceMul, Nat.reduceLeDiff, Nat.reduceSub, Nat.reduceLT, Int.reduceEq, Int.reduceLT, Int.reduceLE, Int.reduceGT, Int.reduceGE, Int.reduceAdd, Int.reduceSub, Int.reduceMul, Int.reduceNeg, Int.reduceToNat, reduceCtorEq, reduceIte, hlt, lenV_sl H.g, lenV_sl H.a, lenV_sl H.w, elem_sl Spn.el H.g, elem_sl Anc.el H.a, elem_sl Wal.el H.w, view_sl H.g, view_sl H.a, view_sl H.w, scalar_sl H.g, scalar_sl H.a, scalar_sl H.w, cells_sl H.g, cells_sl H.a, cells_sl H.w, pure_sl H.g, pure_sl H.a, pure_sl H.w, Spn.e, Anc.e, Wal.e, Spn.eta, Anc.eta, Wal.eta, Int.toNat_natCast, view_sl H'.g, view_sl H'.a, view_sl H'.w, scalar_sl H'.g, scalar_sl H'.a, scalar_sl H'.w, cells_sl H'.g, cells_sl H'.a, cells_sl H'.w, pure_sl H'.g, pure_sl H'.a, pure_sl H'.w, d1, hb, elem_sl intE LL, lL, hk', atL k hk, hz', gUn, s16]
  have hz' : ¬ (ndT n (rough n) k : Int) = 0 := by omega
  have b := nd_le hv hA hk
  have eo := hvy_at (n := n) (k := n.ancs.length) (Nat.le_refl _) k
  rw [if_pos hk, ← ho] at eo
  have c1 := fun st => s59 H' (k := k) (by rw [ho, hvy_len]; exact hk) (x := -1) (by rw [eo]; simp only; omega) (by omega) st
  have vl := less_valid hv hA hk (by omega)
  have ns := less_safe hv hA hk (by omega)
  rw [← ho] at vl ns
  obtain ⟨o', hn⟩ : ∃ o', o' = heavy o k (-1) := ⟨_, rfl⟩
  simp only [← hn, netC, netV] at c1
  rw [← hn] at vl ns
  have Hl : NetOk o' (slV 2 Spn.e o'.grips) (slV 2 Anc.e o'.ancs) (slV 5 Wal.e o'.walls) := ⟨slV_is, slV_is, slV_is, by rw [hn]; exact H'.sg, by rw [hn, heavy_len]; exact H'.sa, by rw [hn]; exact H'.sw⟩
  have d2 := fun st => s39 Hl vl st
  simp only [netV] at d2
  simp (disch := first | assumption | omega | (simp only [az]; done)) only [ru, eq_self, if_true, if_false, BEq.rfl, binI, AO.row?, splice, fillL, mmAll, loadV, storeV, zeros, Am.rowAt, Am.part, addOff, Nat.reduceAdd, Nat.reduceMul, Nat.reduceLeDiff, Nat.reduceSub, Nat.reduceLT, Int.reduceEq, Int.reduceLT, Int.reduceLE, Int.reduceGT, Int.reduceGE, Int.reduceAdd, Int.reduceSub, Int.reduceMul, Int.reduceNeg, Int.reduceToNat, reduceCtorEq, reduceIte, hlt, lenV_sl H.g, lenV_sl H.a, lenV_sl H.w, elem_sl Spn.el H.g, elem_sl Anc.el H.a, elem_sl Wal.el H.w, view_sl H.g, view_sl H.a, view_sl H.w, scalar_sl H.g, scalar_sl H.a, scalar_sl H.w, cells_sl H.g, cells_sl H.a, cells_sl H.w, pure_sl H.g, pure_sl H.a, pure_sl H.w, Spn.e, Anc.e, Wal.e, Spn.eta, Anc.eta, Wal.eta, Int.toNat_natCast, view_sl H'.g, view_sl H'.a, view_sl H'.w, scalar_sl H'.g, scalar_sl H'.a, scalar_sl H'.w, cells_sl H'.g, cells_sl H'.a, cells_sl H'.w, pure_sl H'.g, pure_sl H'.a, pure_sl H'.w, d1, hb, elem_sl intE LL, lL, hk', atL k hk, hz', c1, d2, ns, slV_sc, slV_ce, slV_vi, slV_pu, gUn, s16]
end Go.Proofs.Ytpflneddfhifkaa.S
