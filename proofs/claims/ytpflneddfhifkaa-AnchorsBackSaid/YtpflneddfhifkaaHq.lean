/-
What is the same in a net backwards; the law of stage 2 on it.
-/
import Derived.Test.YtpflneddfhifkaaHp
namespace Go.Proofs.Ytpflneddfhifkaa.S
open Go Go.Am Go.Proofs.Ytpflneddfhifkaa.T
set_option maxRecDepth 100000
set_option linter.unusedSimpArgs false
set_option linter.unusedVariables false

theorem s61 {n : Net} {g a w : AV} (H : NetOk n g a w) {K L : List Int} {va vb : AV} (hK : IsSl 1 (fun n => [I n]) K va) (hL : IsSl 1 (fun n => [I n]) L vb) (lK : K.length ≤ 1000000) (hl : L.length = K.length)
    (hb : ∀ i, i < L.length → 0 ≤ L.getD i default ∧ L.getD i default ≤ 1000000) (hm : ∀ i, i < K.length → K.getD i default = (n.ancs.length : Int) - 1 - L.getD (K.length - 1 - i) default) (st : Bool) : Iso E 61 [netV n g a w, va, vb] st = some (Bo true) := by
  have sa := H.sa
  refine Iso_of (es _ _ _ _) e61 ?_
  simp only [f61, netV]
  simp (disch := first | assumption | omega | (simp only [az]; done)) only [ru, eq_self, if_true, if_false, BEq.rfl, binI, AO.row?, splice, fillL, mmAll, loadV, storeV, zeros, Am.rowAt, Am.part, addOff, Nat.reduceAdd, Nat.reduceMul, Nat.reduceLeDiff, Nat.reduceSub, Nat.reduceLT, Int.reduceEq, Int.reduceLT, Int.reduceLE, Int.reduceGT, Int.reduceGE, Int.reduceAdd, Int.reduceSub, Int.reduceMul, Int.reduceNeg, Int.reduceToNat, reduceCtorEq, reduceIte, lenV_sl H.g, lenV_sl H.a, lenV_sl H.w, elem_sl Spn.el H.g, elem_sl Anc.el H.a, elem_sl Wal.el H.w, view_sl H.g, view_sl H.a, view_sl H.w, scalar_sl H.g, scalar_sl H.a, scalar_sl H.w, cells_sl H.g, cells_sl H.a, cells_sl H.w, pure_sl H.g, pure_sl H.a, pure_sl H.w, Spn.e, Anc.e, Wal.e, Spn.eta, Anc.eta, Wal.eta, Int.toNat_natCast, lenV_sl hK, lenV_sl hL, hl]
  refine G_loop_ind (fun m ts h mk => ∃ i : Nat, i ≤ K.length ∧ m = K.length - i ∧ ts.length = 37 ∧ ts.getD 1 .undef = va ∧ ts.getD 2 .undef = vb ∧ ts.getD 3 .undef = .ptr 0 0 ∧ ts.getD 7 .undef = I i ∧ h = [.cells [I n.wind.lo, I n.wind.hi, I n.cur.lo, I n.cur.hi, g, a, w] false] ∧ mk = []) ?_ _ _ _ _ ⟨0, Nat.zero_le _, rfl, rfl, rfl, rfl, rfl, rfl, rfl, rfl⟩
  rintro m ts h mk ih ⟨i, hi, rfl, hl', q1, q2, q3, q7, rfl, rfl⟩
  rw [lit_all hl']
  simp only [lit0, litS, Nat.reduceAdd, q1, q2, q3, q7]
  simp (disch := first | assumption | omega | (simp only [az]; done)) only [ru, eq_self, if_true, if_false, BEq.rfl, binI, AO.row?, splice, fillL, mmAll, loadV, storeV, zeros, Am.rowAt, Am.part, addOff, Nat.reduceAdd, Nat.reduceMul, Nat.reduceLeDiff, Nat.reduceSub, Nat.reduceLT, Int.reduceEq, Int.reduceLT, Int.reduceLE, Int.reduceGT, Int.reduceGE, Int.reduceAdd, Int.reduceSub, Int.reduceMul, Int.reduceNeg, Int.reduceToNat, reduceCtorEq, reduceIte, lenV_sl hK]
  by_cases hlt : (i : Int) < K.length
  case pos =>
    have hi' : i < K.length := by omega
    have htn : ((K.length : Int) - 1 - (i : Int)).toNat = K.length - 1 - i := by omega
    have b := hb (K.length - 1 - i) (by omega)
    have e := hm i hi'
    simp (disch := first | assumption | omega | (simp only [az]; done)) only [ru, eq_self, if_true, if_false, BEq.rfl, binI, AO.row?, splice, fillL, mmAll, loadV, storeV, zeros, Am.rowAt, Am.part, addOff, Nat.reduceAdd, Nat.reduceMul, Nat.reduceLeDiff, Nat.reduceSub, Nat.reduceLT, Int.reduceEq, Int.reduceLT, Int.reduceLE, Int.reduceGT, Int.reduceGE, Int.reduceAdd, Int.reduceSub, Int.reduceMul, Int.reduceNeg, Int.reduceToNat, reduceCtorEq, reduceIte, lenV_sl H.g, lenV_sl H.a, lenV_sl H.w, elem_sl Spn.el H.g, elem_sl Anc.el H.a, elem_sl Wal.el H.w, view_sl H.g, view_sl H.a, view_sl H.w, scalar_sl H.g, scalar_sl H.a, scalar_sl H.w, cells_sl H.g, cells_sl H.a, cells_sl H.w, pure_sl H.g, pure_sl H.a, pure_sl H.w, Spn.e, Anc.e, Wal.e, Spn.eta, Anc.eta, Wal.eta, Int.toNat_natCast, hlt, elem_sl intE hK, elem_sl intE hL, lenV_sl hL, hl, Int.toNat_natCast, htn, e, not_true_eq_false]
    exact ih (K.length - (i + 1)) _ _ _ (by omega) ⟨i + 1, by omega, rfl, rfl, rfl, rfl, rfl, rfl, rfl, rfl⟩
  simp (disch := first | assumption | omega | (simp only [az]; done)) only [ru, eq_self, if_true, if_false, BEq.rfl, binI, AO.row?, splice, fillL, mmAll, loadV, storeV, zeros, Am.rowAt, Am.part, addOff, Nat.reduceAdd, Nat.reduceMul, Nat.reduceLeDiff, Nat.reduceSub, Nat.reduceLT, Int.reduceEq, Int.reduceLT, Int.reduceLE, Int.reduceGT, Int.reduceGE, Int.reduceAdd, Int.reduceSub, Int.reduceMul, Int.reduceNeg, Int.reduceToNat, reduceCtorEq, reduceIte, hlt]

/-- counted from the last anchor -/
def rv (n : Net) (i : Nat) : Nat := n.ancs.length - 1 - i
section
variable {n : Net} {t : Tru}
theorem turn_len : (turned n).ancs.length = n.ancs.length := List.length_reverse
theorem turn_lw : (turned n).walls.length = n.walls.length := List.length_reverse
theorem rv_lt {i : Nat} (hi : i < n.ancs.length) : rv n i < n.ancs.length := by unfold rv; omega
theorem rv_rv {i : Nat} (hi : i < n.ancs.length) : rv n (rv n i) = i := by unfold rv; omega
theorem turn_anc {i : Nat} (hi : i < n.ancs.length) : (turned n).ancs.getD (rv n i) default = n.ancs.getD i default := by
  have : n.ancs.length - 1 - (n.ancs.length - 1 - i) = i := by omega
  simp only [turned, rv, List.getD_eq_getElem?_getD]
  rw [List.getElem?_reverse (by omega), this]
theorem turn_wal {i j : Nat} (hi : i < n.walls.length) (hj : j = n.walls.length - 1 - i) : (turned n).walls.getD j default = n.walls.getD i default := by
  subst hj
  have : n.walls.length - 1 - (n.walls.length - 1 - i) = i := by omega
  simp only [turned, List.getD_eq_getElem?_getD]
  rw [List.getElem?_reverse (by omega), this]
theorem turn_valid (hv : n.valid = true) : (turned n).valid = true := by
  have e : ∀ a, ancOk (turned n) a = ancOk n a := fun a => rfl
  simp only [Net.valid, Bool.and_eq_true] at hv ⊢
  obtain ⟨⟨⟨⟨⟨⟨⟨a1, a2⟩, a3⟩, a4⟩, a5⟩, a6⟩, a7⟩, a8⟩ := hv
  refine ⟨⟨⟨⟨⟨⟨⟨a1, a2⟩, a3⟩, ?_⟩, ?_⟩, a6⟩, ?_⟩, ?_⟩
  · rw [turn_len]; exact a4
  · rw [turn_len, turn_lw]; exact a5
  · show n.ancs.reverse.all (ancOk n) = true
    rw [List.all_reverse]; exact a7
  · show n.walls.reverse.all walOk = true
    rw [List.all_reverse]; exact a8
theorem turn_good (G : Good n t) : Good (turned n) t := good_of (turn_valid G.v) G.tr
theorem turn_fair (G : Fair n t) : Fair (turned n) t := ⟨turn_valid G.v, G.b⟩
theorem turn_can {i : Nat} (hi : i < n.ancs.length) : canI (turned n) t (rv n i) = canI n t i := by unfold canI; rw [turn_anc hi]
theorem turn_bears (lw : n.walls.length = n.ancs.length - 1) {i : Nat} (hi : i < n.ancs.length) {D D' : Nat → Bool} (hD : ∀ j, j < n.ancs.length → D' (rv n j) = D j) : bearsI (turned n) t (rv n i) D' = bearsI n t i D := by
  unfold bearsI
  rw [turn_len, Int.add_comm]
  congr 1
  · by_cases h : 0 < i
    · have h1 : rv n i + 1 = rv n (i - 1) := by unfold rv; omega
      have h2 : ldI (turned n) t (rv n i) = ldI n t (i - 1) := by
        unfold ldI; rw [turn_wal (i := i - 1) (j := rv n i) (by omega) (by unfold rv; omega)]
      rw [if_pos h, if_pos (by unfold rv; omega), h1, hD _ (by omega), h2]
    · rw [if_neg h, if_neg (by unfold rv; omega)]
  · by_cases h : i + 1 < n.ancs.length
    · have h1 : rv n i - 1 = rv n (i + 1) := by unfold rv; omega
      have h2 : ldI (turned n) t (rv n i - 1) = ldI n t i := by
        unfold ldI; rw [turn_wal (i := i) (j := rv n i - 1) (by omega) (by unfold rv; omega)]
      rw [if_pos h, if_pos (by unfold rv; omega), h2, h1, hD _ (by omega)]
    · rw [if_neg h, if_neg (by unfold rv; omega)]
theorem turn_drg (lw : n.walls.length = n.ancs.length - 1) {i : Nat} (hi : i < n.ancs.length) {D D' : Nat → Bool} (hD : ∀ j, j < n.ancs.length → D' (rv n j) = D j) : drg (turned n) t (rv n i) D' = drg n t i D := by
  unfold drg; rw [turn_bears lw hi hD, turn_can hi]
theorem turn_spare (lw : n.walls.length = n.ancs.length - 1) {i : Nat} (hi : i < n.ancs.length) : spareI (turned n) t (rv n i) = spareI n t i := by
  unfold spareI; rw [turn_bears lw hi (D := none6) (fun _ _ => rfl), turn_can hi]
theorem turn_lfp (G : Fair n t) {i : Nat} (hi : i < n.ancs.length) : lfp (turned n) t none6 (rv n i) = lfp n t none6 i := by
  have lw := (netB G.v).lw
  have N := none_lfp G
  have key : IsLfp (turned n) t none6 (fun j => lfp n t none6 (rv n j)) := by
    refine ⟨fun j hj hd => ?_, fun j hj h => by simp [none6] at h, fun D hc hs j hj h => ?_⟩
    · rw [turn_len] at hj
      rw [← rv_rv hj, turn_drg lw (rv_lt hj) (D := lfp n t none6) (fun k hk => by rw [rv_rv hk])] at hd
      exact N.cl _ (rv_lt hj) hd
    · rw [turn_len] at hj
      have := N.least (fun k => D (rv n k)) (fun k hk hd => by
        have h1 : drg (turned n) t (rv n k) D = true := by rw [turn_drg lw hk (D := fun k => D (rv n k)) (fun k hk => rfl)]; exact hd
        exact hc _ (by rw [turn_len]; exact rv_lt hk) h1) (fun k hk h => by simp [none6] at h) (rv n j) (rv_lt hj) h
      simpa only [rv_rv hj] using this
  have := lfp_unique (none_lfp (turn_fair G)) key (rv n i) (by rw [turn_len]; exact rv_lt hi)
  rw [this, rv_rv hi]
theorem turn_still (G : Fair n t) : still (turned n) t = still n t := by
  have lw := (netB G.v).lw
  have : still (turned n) t = true ↔ still n t = true := by
    rw [still_iff, still_iff]
    constructor
    · intro h i hi
      have := h (rv n i) (by rw [turn_len]; exact rv_lt hi)
      rwa [first_at, turn_spare lw hi, ← first_at] at this
    · intro h i hi
      rw [turn_len] at hi
      have := h (rv n i) (rv_lt hi)
      rwa [first_at, ← turn_spare lw (rv_lt hi), rv_rv hi, ← first_at] at this
  cases h1 : still (turned n) t <;> cases h2 : still n t <;> simp_all
theorem turn_lwd (G : Fair n t) : lw (turned n) t = lw n t := by
  have e : ∀ j : Nat, j < 21 → still (turned n) (inW t j) = still n (inW t j) := fun j hj => turn_still (fair_w G (by omega) (by omega))
  unfold lw
  apply Nat.le_antisymm
  · exact lwGo_mono fun j hj h => by rw [← e j (by omega)]; exact h
  · exact lwGo_mono fun j hj h => by rw [e j (by omega)]; exact h
theorem turn_nd (hv : n.valid = true) {i : Nat} (hi : i < n.ancs.length) : ndT (turned n) t (rv n i) = ndT n t i := by
  unfold ndT roomI gripI
  rw [turn_spare (netB hv).lw hi, turn_anc hi]
theorem turn_ok (hv : n.valid = true) {i : Nat} (hi : i < n.ancs.length) : ndOk (turned n) t (rv n i) = ndOk n t i := by
  unfold ndOk
  rw [turn_nd hv hi]
  unfold roomI
  rw [turn_anc hi]
theorem turn_all (hv : n.valid = true) : ndAll (turned n) = ndAll n := by
  have : ndAll (turned n) = true ↔ ndAll n = true := by
    unfold ndAll
    rw [turn_len, List.all_eq_true, List.all_eq_true]
    constructor
    · intro h i hi
      have hi' := List.mem_range.1 hi
      have := h (rv n i) (List.mem_range.2 (rv_lt hi'))
      rwa [turn_ok hv hi'] at this
    · intro h i hi
      have hi' := List.mem_range.1 hi
      have := h (rv n i) (List.mem_range.2 (rv_lt hi'))
      rw [← turn_ok hv (rv_lt hi'), rv_rv hi'] at this
      exact this
  cases h1 : ndAll (turned n) <;> cases h2 : ndAll n <;> simp_all
theorem turn_ndl (hv : n.valid = true) {i : Nat} (hi : i < n.ancs.length) : (ndl n n.ancs.length).getD i default = (ndl (turned n) n.ancs.length).getD (n.ancs.length - 1 - i) default := by
  have a := turn_nd (t := rough n) hv hi
  have e : ∀ (m : Net) (k j : Nat), j < k → (ndl m k).getD j default = (ndT m (rough m) j : Int) := fun m k j h => by
    simp [ndl, List.getD_eq_getElem?_getD, h]
  rw [e _ _ _ hi, e _ _ _ (by omega), ← a]
  rfl
end
theorem rev_range (k : Nat) : (List.range k).reverse = (List.range k).map (fun i => k - 1 - i) := by
  apply List.ext_getElem
  · simp
  · intro i h1 h2
    simp
theorem turn_lst {n : Net} {D D' : Nat → Bool} (hD : ∀ j, j < n.ancs.length → D' (rv n j) = D j) : lst (turned n) D' = ((lst n D).map fun x => (n.ancs.length : Int) - 1 - x).reverse := by
  have h1 : ((List.range n.ancs.length).filter D').map (rv n) = ((List.range n.ancs.length).filter D).reverse := by
    rw [← List.filter_reverse, rev_range, List.filter_map]
    congr 1
    apply List.filter_congr
    intro i hi
    have hi' := List.mem_range.1 hi
    have := hD (rv n i) (rv_lt hi')
    rw [rv_rv hi'] at this
    exact this
  have h2 : (List.range n.ancs.length).filter D' = (((List.range n.ancs.length).filter D').map (rv n)).map (rv n) := by
    rw [List.map_map]
    conv => lhs; rw [← List.map_id ((List.range n.ancs.length).filter D')]
    apply List.map_congr_left
    intro i hi
    have hi' := List.mem_range.1 (List.mem_filter.1 hi).1
    simp only [id, Function.comp, rv_rv hi']
  unfold lst
  rw [turn_len, h2, h1, List.map_map, ← List.map_reverse, ← List.map_reverse, List.map_map]
  apply List.map_congr_left
  intro i hi
  have hi' := List.mem_range.1 (List.mem_filter.1 (List.mem_reverse.1 hi)).1
  simp only [Function.comp, rv]
  omega
theorem turn_mir {n : Net} {D D' : Nat → Bool} (hD : ∀ j, j < n.ancs.length → D' (rv n j) = D j) : (lst (turned n) D').length = (lst n D).length ∧ ∀ i, i < (lst n D).length → (lst n D).getD i default = (n.ancs.length : Int) - 1 - (lst (turned n) D').getD ((lst n D).length - 1 - i) default := by
  rw [turn_lst hD]
  refine ⟨by simp, fun i hi => ?_⟩
  have e : (lst n D).length - 1 - ((lst n D).length - 1 - i) = i := by omega
  simp only [List.getD_eq_getElem?_getD]
  rw [List.getElem?_reverse (by simp; omega)]
  simp only [List.length_map, e, List.getElem?_map, List.getElem?_eq_getElem hi, Option.map_some, Option.getD_some]
  omega
end Go.Proofs.Ytpflneddfhifkaa.S
