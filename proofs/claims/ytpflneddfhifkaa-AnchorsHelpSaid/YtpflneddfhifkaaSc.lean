import Derived.Test.YtpflneddfhifkaaSb
namespace Go.Proofs.Ytpflneddfhifkaa.S
open Go Go.Am Go.Proofs.Ytpflneddfhifkaa.T
set_option maxRecDepth 100000
set_option linter.unusedSimpArgs false
set_option linter.unusedVariables false



theorem nil0 : IsSl 1 (fun n => [I n]) [] .nils := .inr ⟨rfl, rfl⟩
theorem any_lst {n : Net} {S : Nat → Bool} {i : Nat} (hi : i < n.ancs.length) : anyIs (lst n S) (i : Int) = S i := by
  rw [Bool.eq_iff_iff]
  simp only [anyIs, List.any_eq_true, decide_eq_true_eq]
  constructor
  · rintro ⟨y, hy, rfl⟩; exact (mem_lst hi).1 hy
  · intro h; exact ⟨_, (mem_lst hi).2 h, rfl⟩

theorem s85 {n : Net} {g a w : AV} (H : NetOk n g a w) {t : Tru} {v : AV} (V : TruOk t v) (G : Fair n t) : ∀ (k : Nat) (S : Nat → Bool), n.ancs.length - (lst n S).length ≤ k →
    ∃ A, IsLfp n t S A ∧ ∀ (d : AV), IsSl 1 (fun n => [I n]) (lst n S) d → Iso E 85 [netV n g a w, .agg [I t.wind, I t.cur, v], d] false = some (resL (lst n A)) := by
  have hp := good_pos G
  have hw := (netB G.v).lw
  have sa := H.sa
  intro k
  induction k with
  | zero =>
    intro S hk
    obtain ⟨S', hS'⟩ : ∃ S' : Nat → Bool, S' = fun j => anyIs (lst n S) (j : Nat) := ⟨_, rfl⟩
    have hS : ∀ i, i < n.ancs.length → S' i = S i := fun i hi => by rw [hS']; exact any_lst hi
    have hl := lst_congr hS
    have he : (lst n (stepS n t S')).length = (lst n S').length := by
      have h1 := step_more (n := n) (t := t) (S := S')
      have h2 := lst_le (n := n) (D := stepS n t S')
      rw [hl] at h1 ⊢
      omega
    refine ⟨_, lfp_start (step_end hp hw he) hS, fun d D => ?_⟩
    have hlen := lst_le (n := n) (D := S)
    have q := s83 H V G D (by omega)
    rw [← hS'] at q
    refine Iso_of (es _ _ _ _) e85 ?_
    simp only [f85, netV]
    have hb : ((lst n (stepS n t S')).length : Int) = ((lst n S).length : Int) := by rw [he, hl]
    simp (disch := first | assumption | omega | (simp only [az]; done)) only [ru, eq_self, if_true, if_false, BEq.rfl, binI, AO.row?, splice, fillL, mmAll, loadV, storeV, zeros, Am.rowAt, Am.part, addOff, Nat.reduceAdd, Nat.reduceMul, Nat.reduceLeDiff, Nat.reduceSub, Nat.reduceLT, Int.reduceEq, Int.reduceLT, Int.reduceLE, Int.reduceGT, Int.reduceGE, Int.reduceAdd, Int.reduceSub, Int.reduceMul, Int.reduceNeg, Int.reduceToNat, reduceCtorEq, reduceIte, q, lenV_sl H.g, lenV_sl H.a, lenV_sl H.w, elem_sl Spn.el H.g, elem_sl Anc.el H.a, elem_sl Wal.el H.w, view_sl H.g, view_sl H.a, view_sl H.w, scalar_sl H.g, scalar_sl H.a, scalar_sl H.w, cells_sl H.g, cells_sl H.a, cells_sl H.w, pure_sl H.g, pure_sl H.a, pure_sl H.w, Spn.e, Anc.e, Wal.e, Spn.eta, Anc.eta, Wal.eta, Int.toNat_natCast, lenV_sl V.s, elem_sl intE V.s, view_sl V.s, scalar_sl V.s, cells_sl V.s, pure_sl V.s, view_sl D, lenV_sl D, lenV_sl (resL_is (lst n (stepS n t S'))), hb]
    exact view_sl (resL_is _) _ _
  | succ k ih =>
    intro S hk
    obtain ⟨S', hS'⟩ : ∃ S' : Nat → Bool, S' = fun j => anyIs (lst n S) (j : Nat) := ⟨_, rfl⟩
    have hS : ∀ i, i < n.ancs.length → S' i = S i := fun i hi => by rw [hS']; exact any_lst hi
    have hl := lst_congr hS
    have hlen := lst_le (n := n) (D := S)
    have h1 := step_more (n := n) (t := t) (S := S')
    rw [hl] at h1
    by_cases he : (lst n (stepS n t S')).length = (lst n S').length
    · refine ⟨_, lfp_start (step_end hp hw he) hS, fun d D => ?_⟩
      have q := s83 H V G D (by omega)
      rw [← hS'] at q
      refine Iso_of (es _ _ _ _) e85 ?_
      simp only [f85, netV]
      have hb : ((lst n (stepS n t S')).length : Int) = ((lst n S).length : Int) := by rw [he, hl]
      simp (disch := first | assumption | omega | (simp only [az]; done)) only [ru, eq_self, if_true, if_false, BEq.rfl, binI, AO.row?, splice, fillL, mmAll, loadV, storeV, zeros, Am.rowAt, Am.part, addOff, Nat.reduceAdd, Nat.reduceMul, Nat.reduceLeDiff, Nat.reduceSub, Nat.reduceLT, Int.reduceEq, Int.reduceLT, Int.reduceLE, Int.reduceGT, Int.reduceGE, Int.reduceAdd, Int.reduceSub, Int.reduceMul, Int.reduceNeg, Int.reduceToNat, reduceCtorEq, reduceIte, q, lenV_sl H.g, lenV_sl H.a, lenV_sl H.w, elem_sl Spn.el H.g, elem_sl Anc.el H.a, elem_sl Wal.el H.w, view_sl H.g, view_sl H.a, view_sl H.w, scalar_sl H.g, scalar_sl H.a, scalar_sl H.w, cells_sl H.g, cells_sl H.a, cells_sl H.w, pure_sl H.g, pure_sl H.a, pure_sl H.w, Spn.e, Anc.e, Wal.e, Spn.eta, Anc.eta, Wal.eta, Int.toNat_natCast, lenV_sl V.s, elem_sl intE V.s, view_sl V.s, scalar_sl V.s, cells_sl V.s, pure_sl V.s, view_sl D, lenV_sl D, lenV_sl (resL_is (lst n (stepS n t S'))), hb]
      exact view_sl (resL_is _) _ _
    · rw [hl] at he
      obtain ⟨A, hA, hcall⟩ := ih (stepS n t S') (by omega)
      refine ⟨A, lfp_start (lfp_step hp hw hA) hS, fun d D => ?_⟩
      have q := s83 H V G D (by omega)
      rw [← hS'] at q
      have q2 := hcall _ (resL_is (lst n (stepS n t S')))
      refine Iso_of (es _ _ _ _) e85 ?_
      simp only [f85, netV]
      have hb : ¬ ((lst n (stepS n t S')).length : Int) = ((lst n S).length : Int) := by omega
      simp (disch := first | assumption | omega | (simp only [az]; done)) only [ru, eq_self, if_true, if_false, BEq.rfl, binI, AO.row?, splice, fillL, mmAll, loadV, storeV, zeros, Am.rowAt, Am.part, addOff, Nat.reduceAdd, Nat.reduceMul, Nat.reduceLeDiff, Nat.reduceSub, Nat.reduceLT, Int.reduceEq, Int.reduceLT, Int.reduceLE, Int.reduceGT, Int.reduceGE, Int.reduceAdd, Int.reduceSub, Int.reduceMul, Int.reduceNeg, Int.reduceToNat, reduceCtorEq, reduceIte, q, q2, lenV_sl H.g, lenV_sl H.a, lenV_sl H.w, elem_sl Spn.el H.g, elem_sl Anc.el H.a, elem_sl Wal.el H.w, view_sl H.g, view_sl H.a, view_sl H.w, scalar_sl H.g, scalar_sl H.a, scalar_sl H.w, cells_sl H.g, cells_sl H.a, cells_sl H.w, pure_sl H.g, pure_sl H.a, pure_sl H.w, Spn.e, Anc.e, Wal.e, Spn.eta, Anc.eta, Wal.eta, Int.toNat_natCast, lenV_sl V.s, elem_sl intE V.s, view_sl V.s, scalar_sl V.s, cells_sl V.s, pure_sl V.s, view_sl D, lenV_sl D, lenV_sl (resL_is (lst n (stepS n t S'))), view_sl (resL_is (lst n (stepS n t S'))), pure_sl (resL_is (lst n (stepS n t S'))), hb]
      exact view_sl (resL_is _) _ _

/-- the least closed set above a set -/
noncomputable def lfp (n : Net) (t : Tru) (S : Nat → Bool) : Nat → Bool := open Classical in if h : ∃ A, IsLfp n t S A then h.choose else S
theorem lfp_is {n : Net} {t : Tru} {S A : Nat → Bool} (h : IsLfp n t S A) : IsLfp n t S (lfp n t S) := by
  have hx : ∃ A, IsLfp n t S A := ⟨A, h⟩
  unfold lfp
  rw [dif_pos hx]
  exact hx.choose_spec
theorem lst_lfp {n : Net} {t : Tru} {S A : Nat → Bool} (h : IsLfp n t S A) : lst n A = lst n (lfp n t S) := lst_congr (lfp_unique h (lfp_is h))

theorem s85' {n : Net} {g a w : AV} (H : NetOk n g a w) {t : Tru} {v : AV} (V : TruOk t v) (G : Fair n t) (S : Nat → Bool) {d : AV} (D : IsSl 1 (fun n => [I n]) (lst n S) d) :
    Iso E 85 [netV n g a w, .agg [I t.wind, I t.cur, v], d] false = some (resL (lst n (lfp n t S))) := by
  obtain ⟨A, hA, hc⟩ := s85 H V G _ S (Nat.le_refl _)
  rw [hc d D, lst_lfp hA]

def none6 : Nat → Bool := fun _ => false
def one6 (x : Nat) : Nat → Bool := fun i => decide (i = x)
theorem lst_none (n : Net) : lst n none6 = [] := by
  have e : (List.range n.ancs.length).filter none6 = [] := by simp [none6]
  rw [lst, e]; rfl
theorem filter_one {k x : Nat} (h : x < k) : (List.range k).filter (one6 x) = [x] := by
  induction k with
  | zero => omega
  | succ k ih =>
    rw [List.range_succ, List.filter_append]
    by_cases e : x = k
    · subst e
      have : (List.range x).filter (one6 x) = [] := by
        rw [List.filter_eq_nil_iff]
        intro a ha; have := List.mem_range.1 ha; simp [one6]; omega
      rw [this]; simp [one6]
    · rw [ih (by omega)]
      have : one6 x k = false := by simp [one6]; omega
      simp [this]
theorem lst_one {n : Net} {x : Nat} (h : x < n.ancs.length) : lst n (one6 x) = [(x : Int)] := by rw [lst, filter_one h]; rfl

/-- answers: a list and an error -/
def errL (e : Int) (l : List Int) : List Int := if e = 0 then l else []
theorem resL_nil : resL [] = .nils := rfl
def ansL (n : Net) (t : Tru) (D : Nat → Bool) : AV := .tup [resL (errL (givenE n t) (lst n D)), I (givenE n t)]
theorem given_cases (n : Net) (t : Tru) : (givenE n t = 0 ∧ Good n t) ∨ (¬ givenE n t = 0 ∧ (givenE n t = 1 ∨ givenE n t = 20)) := by
  unfold givenE
  by_cases h1 : n.valid = true <;> by_cases h2 : truthOk n t = true
  · exact .inl ⟨by simp [h1, h2], good_of h1 h2⟩
  all_goals (right; simp [h1, h2])

theorem s27 {n : Net} {g a w : AV} (H : NetOk n g a w) {t : Tru} {v : AV} (V : TruOk t v) : Iso E 27 [netV n g a w, .agg [I t.wind, I t.cur, v]] false = some (ansL n t (stepS n t none6)) := by
  refine Iso_of (es _ _ _ _) e27 ?_
  simp only [f27, netV]
  rcases given_cases n t with ⟨h0, G⟩ | ⟨h0, _⟩
  · have q := s83 H V G nil0 (by simp)
    have e : (fun (j : Nat) => anyIs [] (j : Int)) = none6 := rfl
    rw [e] at q
    simp (disch := first | assumption | omega | (simp only [az]; done)) only [ru, eq_self, if_true, if_false, BEq.rfl, binI, AO.row?, splice, fillL, mmAll, loadV, storeV, zeros, Am.rowAt, Am.part, addOff, Nat.reduceAdd, Nat.reduceMul, Nat.reduceLeDiff, Nat.reduceSub, Nat.reduceLT, Int.reduceEq, Int.reduceLT, Int.reduceLE, Int.reduceGT, Int.reduceGE, Int.reduceAdd, Int.reduceSub, Int.reduceMul, Int.reduceNeg, Int.reduceToNat, reduceCtorEq, reduceIte, s82 H V, lenV_sl H.g, lenV_sl H.a, lenV_sl H.w, elem_sl Spn.el H.g, elem_sl Anc.el H.a, elem_sl Wal.el H.w, view_sl H.g, view_sl H.a, view_sl H.w, scalar_sl H.g, scalar_sl H.a, scalar_sl H.w, cells_sl H.g, cells_sl H.a, cells_sl H.w, pure_sl H.g, pure_sl H.a, pure_sl H.w, Spn.e, Anc.e, Wal.e, Spn.eta, Anc.eta, Wal.eta, Int.toNat_natCast, lenV_sl V.s, elem_sl intE V.s, view_sl V.s, scalar_sl V.s, cells_sl V.s, pure_sl V.s, h0, q, view_sl (resL_is (lst n (stepS n t none6)))]
    simp only [ansL, errL, h0, if_true]
  · simp (disch := first | assumption | omega | (simp only [az]; done)) only [ru, eq_self, if_true, if_false, BEq.rfl, binI, AO.row?, splice, fillL, mmAll, loadV, storeV, zeros, Am.rowAt, Am.part, addOff, Nat.reduceAdd, Nat.reduceMul, Nat.reduceLeDiff, Nat.reduceSub, Nat.reduceLT, Int.reduceEq, Int.reduceLT, Int.reduceLE, Int.reduceGT, Int.reduceGE, Int.reduceAdd, Int.reduceSub, Int.reduceMul, Int.reduceNeg, Int.reduceToNat, reduceCtorEq, reduceIte, s82 H V, lenV_sl H.g, lenV_sl H.a, lenV_sl H.w, elem_sl Spn.el H.g, elem_sl Anc.el H.a, elem_sl Wal.el H.w, view_sl H.g, view_sl H.a, view_sl H.w, scalar_sl H.g, scalar_sl H.a, scalar_sl H.w, cells_sl H.g, cells_sl H.a, cells_sl H.w, pure_sl H.g, pure_sl H.a, pure_sl H.w, Spn.e, Anc.e, Wal.e, Spn.eta, Anc.eta, Wal.eta, Int.toNat_natCast, lenV_sl V.s, elem_sl intE V.s, view_sl V.s, scalar_sl V.s, cells_sl V.s, pure_sl V.s, h0]
    simp only [ansL, errL, h0, if_false, resL_nil]

theorem s29 {n : Net} {g a w : AV} (H : NetOk n g a w) {t : Tru} {v : AV} (V : TruOk t v) : Iso E 29 [netV n g a w, .agg [I t.wind, I t.cur, v]] false = some (ansL n t (lfp n t none6)) := by
  refine Iso_of (es _ _ _ _) e29 ?_
  simp only [f29, netV]
  rcases given_cases n t with ⟨h0, G⟩ | ⟨h0, _⟩
  · have q := s85' H V G none6 (d := .nils) (by rw [lst_none]; exact nil0)
    simp (disch := first | assumption | omega | (simp only [az]; done)) only [ru, eq_self, if_true, if_false, BEq.rfl, binI, AO.row?, splice, fillL, mmAll, loadV, storeV, zeros, Am.rowAt, Am.part, addOff, Nat.reduceAdd, Nat.reduceMul, Nat.reduceLeDiff, Nat.reduceSub, Nat.reduceLT, Int.reduceEq, Int.reduceLT, Int.reduceLE, Int.reduceGT, Int.reduceGE, Int.reduceAdd, Int.reduceSub, Int.reduceMul, Int.reduceNeg, Int.reduceToNat, reduceCtorEq, reduceIte, s82 H V, lenV_sl H.g, lenV_sl H.a, lenV_sl H.w, elem_sl Spn.el H.g, elem_sl Anc.el H.a, elem_sl Wal.el H.w, view_sl H.g, view_sl H.a, view_sl H.w, scalar_sl H.g, scalar_sl H.a, scalar_sl H.w, cells_sl H.g, cells_sl H.a, cells_sl H.w, pure_sl H.g, pure_sl H.a, pure_sl H.w, Spn.e, Anc.e, Wal.e, Spn.eta, Anc.eta, Wal.eta, Int.toNat_natCast, lenV_sl V.s, elem_sl intE V.s, view_sl V.s, scalar_sl V.s, cells_sl V.s, pure_sl V.s, h0, q, view_sl (resL_is (lst n (lfp n t none6)))]
    simp only [ansL, errL, h0, if_true]
  · simp (disch := first | assumption | omega | (simp only [az]; done)) only [ru, eq_self, if_true, if_false, BEq.rfl, binI, AO.row?, splice, fillL, mmAll, loadV, storeV, zeros, Am.rowAt, Am.part, addOff, Nat.reduceAdd, Nat.reduceMul, Nat.reduceLeDiff, Nat.reduceSub, Nat.reduceLT, Int.reduceEq, Int.reduceLT, Int.reduceLE, Int.reduceGT, Int.reduceGE, Int.reduceAdd, Int.reduceSub, Int.reduceMul, Int.reduceNeg, Int.reduceToNat, reduceCtorEq, reduceIte, s82 H V, lenV_sl H.g, lenV_sl H.a, lenV_sl H.w, elem_sl Spn.el H.g, elem_sl Anc.el H.a, elem_sl Wal.el H.w, view_sl H.g, view_sl H.a, view_sl H.w, scalar_sl H.g, scalar_sl H.a, scalar_sl H.w, cells_sl H.g, cells_sl H.a, cells_sl H.w, pure_sl H.g, pure_sl H.a, pure_sl H.w, Spn.e, Anc.e, Wal.e, Spn.eta, Anc.eta, Wal.eta, Int.toNat_natCast, lenV_sl V.s, elem_sl intE V.s, view_sl V.s, scalar_sl V.s, cells_sl V.s, pure_sl V.s, h0]
    simp only [ansL, errL, h0, if_false, resL_nil]

/-- the answer to Pulled -/
noncomputable def pulledE (n : Net) (t : Tru) (x : Int) : Int := if givenE n t = 0 then (if inR x 0 (n.ancs.length - 1) then 0 else 1) else givenE n t
noncomputable def ansP (n : Net) (t : Tru) (x : Int) : AV := .tup [resL (errL (pulledE n t x) (lst n (lfp n t (one6 x.toNat)))), I (pulledE n t x)]
theorem s32 {n : Net} {g a w : AV} (H : NetOk n g a w) {t : Tru} {v : AV} (V : TruOk t v) (x : Int) : Iso E 32 [netV n g a w, .agg [I t.wind, I t.cur, v], I x] false = some (ansP n t x) := by
  have sa := H.sa
  refine Iso_of (es _ _ _ _) e32 ?_
  simp only [f32, netV]
  rcases given_cases n t with ⟨h0, G⟩ | ⟨h0, _⟩
  · cases hx : inR x 0 (n.ancs.length - 1)
    · simp (disch := first | assumption | omega | (simp only [az]; done)) only [ru, eq_self, if_true, if_false, BEq.rfl, binI, AO.row?, splice, fillL, mmAll, loadV, storeV, zeros, Am.rowAt, Am.part, addOff, Nat.reduceAdd, Nat.reduceMul, Nat.reduceLeDiff, Nat.reduceSub, Nat.reduceLT, Int.reduceEq, Int.reduceLT, Int.reduceLE, Int.reduceGT, Int.reduceGE, Int.reduceAdd, Int.reduceSub, Int.reduceMul, Int.reduceNeg, Int.reduceToNat, reduceCtorEq, reduceIte, s82 H V, s57 H, lenV_sl H.g, lenV_sl H.a, lenV_sl H.w, elem_sl Spn.el H.g, elem_sl Anc.el H.a, elem_sl Wal.el H.w, view_sl H.g, view_sl H.a, view_sl H.w, scalar_sl H.g, scalar_sl H.a, scalar_sl H.w, cells_sl H.g, cells_sl H.a, cells_sl H.w, pure_sl H.g, pure_sl H.a, pure_sl H.w, Spn.e, Anc.e, Wal.e, Spn.eta, Anc.eta, Wal.eta, Int.toNat_natCast, lenV_sl V.s, elem_sl intE V.s, view_sl V.s, scalar_sl V.s, cells_sl V.s, pure_sl V.s, h0, hx]
      simp only [ansP, pulledE, errL, h0, hx, if_true, if_false, Bool.false_eq_true]
      all_goals rfl
    · have hx' := inR_iff.1 hx
      have q := s85' H V G (one6 x.toNat) (d := .cs 1 1 [I x]) (by
        rw [lst_one (by omega)]
        have : ((x.toNat : Nat) : Int) = x := by omega
        rw [this]; exact sl1 x)
      simp (disch := first | assumption | omega | (simp only [az]; done)) only [ru, eq_self, if_true, if_false, BEq.rfl, binI, AO.row?, splice, fillL, mmAll, loadV, storeV, zeros, Am.rowAt, Am.part, addOff, Nat.reduceAdd, Nat.reduceMul, Nat.reduceLeDiff, Nat.reduceSub, Nat.reduceLT, Int.reduceEq, Int.reduceLT, Int.reduceLE, Int.reduceGT, Int.reduceGE, Int.reduceAdd, Int.reduceSub, Int.reduceMul, Int.reduceNeg, Int.reduceToNat, reduceCtorEq, reduceIte, s82 H V, s57 H, lenV_sl H.g, lenV_sl H.a, lenV_sl H.w, elem_sl Spn.el H.g, elem_sl Anc.el H.a, elem_sl Wal.el H.w, view_sl H.g, view_sl H.a, view_sl H.w, scalar_sl H.g, scalar_sl H.a, scalar_sl H.w, cells_sl H.g, cells_sl H.a, cells_sl H.w, pure_sl H.g, pure_sl H.a, pure_sl H.w, Spn.e, Anc.e, Wal.e, Spn.eta, Anc.eta, Wal.eta, Int.toNat_natCast, lenV_sl V.s, elem_sl intE V.s, view_sl V.s, scalar_sl V.s, cells_sl V.s, pure_sl V.s, h0, hx, q, view_sl (resL_is (lst n (lfp n t (one6 x.toNat))))]
      simp only [ansP, pulledE, errL, h0, hx, if_true]
  · simp (disch := first | assumption | omega | (simp only [az]; done)) only [ru, eq_self, if_true, if_false, BEq.rfl, binI, AO.row?, splice, fillL, mmAll, loadV, storeV, zeros, Am.rowAt, Am.part, addOff, Nat.reduceAdd, Nat.reduceMul, Nat.reduceLeDiff, Nat.reduceSub, Nat.reduceLT, Int.reduceEq, Int.reduceLT, Int.reduceLE, Int.reduceGT, Int.reduceGE, Int.reduceAdd, Int.reduceSub, Int.reduceMul, Int.reduceNeg, Int.reduceToNat, reduceCtorEq, reduceIte, s82 H V, lenV_sl H.g, lenV_sl H.a, lenV_sl H.w, elem_sl Spn.el H.g, elem_sl Anc.el H.a, elem_sl Wal.el H.w, view_sl H.g, view_sl H.a, view_sl H.w, scalar_sl H.g, scalar_sl H.a, scalar_sl H.w, cells_sl H.g, cells_sl H.a, cells_sl H.w, pure_sl H.g, pure_sl H.a, pure_sl H.w, Spn.e, Anc.e, Wal.e, Spn.eta, Anc.eta, Wal.eta, Int.toNat_natCast, lenV_sl V.s, elem_sl intE V.s, view_sl V.s, scalar_sl V.s, cells_sl V.s, pure_sl V.s, h0]
    simp only [ansP, pulledE, errL, h0, if_false, resL_nil]
end Go.Proofs.Ytpflneddfhifkaa.S
