/-
CutsBeside: two tables side by side (mathematics).
-/
import Derived.Test.YtkmcbiimlnphmaaYh
namespace Go.Proofs.Ytkmcbiimlnphmaa.S
open Go Go.Am Go.Proofs.Ytkmcbiimlnphmaa.T
set_option maxRecDepth 100000
set_option linter.unusedSimpArgs false
set_option linter.unusedVariables false

def shp (n : Nat) (p : Pt) : Pt := if p.of = -1 then p else { p with of := p.of + n }
/-- two tables side by side -/
def sdb (t u : List Pt) : List Pt := t ++ u.map (shp t.length)
def fsh (n : Nat) (f : Nat → Int) : Nat → Int := fun i => f (n + i)
section
variable {t u : List Pt} {f g : Nat → Int}
theorem sdb_len : (sdb t u).length = t.length + u.length := by simp [sdb]
theorem sdb_l {i : Nat} (h : i < t.length) : (sdb t u).getD i default = t.getD i default := by
  simp only [sdb, List.getD_eq_getElem?_getD, List.getElem?_append_left h]
theorem sdb_r {j : Nat} (h : j < u.length) : (sdb t u).getD (t.length + j) default = shp t.length (u.getD j default) := by
  simp only [sdb, List.getD_eq_getElem?_getD]
  rw [List.getElem?_append_right (by omega), Nat.add_sub_cancel_left, List.getElem?_map, List.getElem?_eq_getElem h]; rfl
theorem shp_w {n : Nat} {p : Pt} : (shp n p).w = p.w ∧ (shp n p).s = p.s ∧ (shp n p).p = p.p := by
  unfold shp; split <;> exact ⟨rfl, rfl, rfl⟩
theorem shp_of {n : Nat} {p : Pt} (h : -1 ≤ p.of) {q : Nat} : ((shp n p).of = ((n + q : Nat) : Int) ↔ p.of = q) ∧ (∀ q', q' < n → (shp n p).of ≠ ((q' : Nat) : Int)) ∧ ((shp n p).of = -1 ↔ p.of = -1) := by
  unfold shp
  by_cases e : p.of = -1
  · rw [if_pos e]; exact ⟨by omega, fun q' h' => by omega, Iff.rfl⟩
  · rw [if_neg e]; refine ⟨?_, fun q' h' => ?_, ?_⟩ <;> simp only <;> omega
theorem lin_side {r : Nat → Int} {n : Nat} : ∀ {j : Nat}, lin r f (n + j) = lin r f n + lin (fsh n r) (fsh n f) j
  | 0 => by simp [lin]
  | j + 1 => by
    have := lin_side (r := r) (n := n) (j := j)
    show lin r f (n + j + 1) = _
    simp only [lin, this, fsh]; omega
theorem chg_l : ∀ {k : Nat}, k ≤ t.length → chg (sdb t u) f k = chg t f k
  | 0, _ => rfl
  | k + 1, h => by simp only [chg, chg_l (k := k) (by omega), sdb_l (u := u) (show k < t.length by omega)]
theorem chg_side : ∀ {j : Nat}, j ≤ u.length → chg (sdb t u) f (t.length + j) = chg t f t.length + chg u (fsh t.length f) j
  | 0, _ => by rw [Nat.add_zero, chg_l (Nat.le_refl _)]; simp [chg]
  | j + 1, h => by
    have := chg_side (j := j) (by omega)
    show chg (sdb t u) f (t.length + j + 1) = _
    simp only [chg, this, sdb_r (t := t) (show j < u.length by omega), shp_w.1, fsh]; omega
theorem pcs_l {p : Nat} : ∀ {k : Nat}, k ≤ t.length → pcs (sdb t u) f p k = pcs t f p k
  | 0, _ => rfl
  | k + 1, h => by simp only [pcs, pcs_l (k := k) (by omega), sdb_l (u := u) (show k < t.length by omega)]
theorem pcs_ll (U : TG u) {p : Nat} (hp : p < t.length) : ∀ {j : Nat}, j ≤ u.length → pcs (sdb t u) f p (t.length + j) = pcs t f p t.length
  | 0, _ => by rw [Nat.add_zero, pcs_l (Nat.le_refl _)]
  | j + 1, h => by
    have := pcs_ll U hp (j := j) (by omega)
    show pcs (sdb t u) f p (t.length + j + 1) = _
    have o := (shp_of (n := t.length) (U.of j (by omega)).1 (q := 0)).2.1 p hp
    simp only [pcs, this, sdb_r (t := t) (show j < u.length by omega)]
    rw [if_neg o]; omega
theorem pcs_t0 (T : TG t) {q : Nat} : ∀ {k : Nat}, k ≤ t.length → pcs t f (t.length + q) k = 0
  | 0, _ => rfl
  | k + 1, h => by
    have o := (T.of k (by omega)).2
    simp only [pcs, pcs_t0 T (k := k) (by omega)]
    rw [if_neg (by omega)]; rfl
theorem pcs_rr (T : TG t) (U : TG u) {q : Nat} : ∀ {j : Nat}, j ≤ u.length → pcs (sdb t u) f (t.length + q) (t.length + j) = pcs u (fsh t.length f) q j
  | 0, _ => by rw [Nat.add_zero, pcs_l (Nat.le_refl _), pcs_t0 T (Nat.le_refl _)]; rfl
  | j + 1, h => by
    have := pcs_rr T U (q := q) (j := j) (by omega)
    show pcs (sdb t u) f (t.length + q) (t.length + j + 1) = _
    have o := (shp_of (n := t.length) (U.of j (by omega)).1 (q := q)).1
    simp only [pcs, this, sdb_r (t := t) (show j < u.length by omega), fsh]
    by_cases e : (u.getD j default).of = q
    · rw [if_pos (o.2 e), if_pos e]
    · rw [if_neg (fun h => e (o.1 h)), if_neg e]
theorem can_iff {t : List Pt} {i : Int} : canC t i = true ↔ ∃ j, j < t.length ∧ (t.getD j default).of = i := by
  simp only [canC, List.any_eq_true, decide_eq_true_eq]
  constructor
  · rintro ⟨x, hx, e⟩; obtain ⟨j, hj, rfl⟩ := mem_getD (d := default) hx; exact ⟨j, hj, e⟩
  · rintro ⟨j, hj, e⟩; exact ⟨_, getD_mem hj, e⟩
theorem can_l (U : TG u) {p : Nat} (hp : p < t.length) : canC (sdb t u) p = canC t p := by
  rw [Bool.eq_iff_iff, can_iff, can_iff]
  constructor
  · rintro ⟨j, hj, e⟩
    by_cases h : j < t.length
    · rw [sdb_l h] at e; exact ⟨j, h, e⟩
    · obtain ⟨k, rfl⟩ : ∃ k, j = t.length + k := ⟨j - t.length, by omega⟩
      rw [sdb_len] at hj
      rw [sdb_r (by omega)] at e
      exact absurd e ((shp_of (U.of k (by omega)).1 (q := 0)).2.1 p hp)
  · rintro ⟨j, hj, e⟩
    exact ⟨j, by rw [sdb_len]; omega, by rw [sdb_l hj]; exact e⟩
theorem can_r (T : TG t) (U : TG u) {q : Nat} : canC (sdb t u) ((t.length + q : Nat) : Int) = canC u q := by
  rw [Bool.eq_iff_iff, can_iff, can_iff]
  constructor
  · rintro ⟨j, hj, e⟩
    by_cases h : j < t.length
    · rw [sdb_l h] at e; have := (T.of j h).2; omega
    · obtain ⟨k, rfl⟩ : ∃ k, j = t.length + k := ⟨j - t.length, by omega⟩
      rw [sdb_len] at hj
      rw [sdb_r (by omega)] at e
      exact ⟨k, by omega, (shp_of (U.of k (by omega)).1).1.1 e⟩
  · rintro ⟨j, hj, e⟩
    exact ⟨t.length + j, by rw [sdb_len]; omega, by rw [sdb_r hj]; exact (shp_of (U.of j hj).1).1.2 e⟩
theorem par_side (T : TG t) (U : TG u) : PartF (sdb t u) f ↔ PartF t f ∧ PartF u (fsh t.length f) := by
  have wl : ∀ i, i < t.length → wst (sdb t u) i = wst t i := fun i hi => by unfold wst; rw [can_l U hi, sdb_l hi]
  have wr : ∀ j, j < u.length → wst (sdb t u) (t.length + j) = wst u j := fun j hj => by unfold wst; rw [can_r T U, sdb_r hj, shp_w.2.1]
  constructor
  · intro h
    refine ⟨fun i hi => ?_, fun j hj => ?_⟩
    · have := h i (by rw [sdb_len]; omega)
      rw [wl i hi, sdb_len, pcs_ll U hi (Nat.le_refl _)] at this; exact this
    · have := h (t.length + j) (by rw [sdb_len]; omega)
      rw [wr j hj, sdb_len, pcs_rr T U (Nat.le_refl _)] at this; exact this
  · rintro ⟨h1, h2⟩ i hi
    rw [sdb_len] at hi
    by_cases h : i < t.length
    · rw [wl i h, sdb_len, pcs_ll U h (Nat.le_refl _)]; exact h1 i h
    · obtain ⟨k, rfl⟩ : ∃ k, i = t.length + k := ⟨i - t.length, by omega⟩
      rw [wr k (by omega), sdb_len, pcs_rr T U (Nat.le_refl _)]; exact h2 k (by omega)
theorem tru_side (T : TG t) (U : TG u) : TruF (sdb t u) f ↔ TruF t f ∧ TruF u (fsh t.length f) := by
  rw [tru_par, tru_par, tru_par, par_side T U, sdb_len, chg_side (Nat.le_refl _)]
  have a := chg_nn (t := t) (u := f) (k := t.length)
  have b := chg_nn (t := u) (u := fsh t.length f) (k := u.length)
  constructor
  · rintro ⟨⟨h1, h2⟩, h3⟩; exact ⟨⟨h1, by omega⟩, ⟨h2, by omega⟩⟩
  · rintro ⟨⟨h1, h3⟩, ⟨h2, h4⟩⟩; exact ⟨⟨h1, h2⟩, by omega⟩
theorem par_cong {t : List Pt} (h : ∀ i, i < t.length → f i = g i) (hp : PartF t f) : PartF t g := by
  intro i hi
  have := hp i hi
  rw [pcs_congr (w := g) h, h i hi] at this; exact this
theorem chg_cong {t : List Pt} (h : ∀ i, i < t.length → f i = g i) : ∀ {k : Nat}, k ≤ t.length → chg t f k = chg t g k
  | 0, _ => rfl
  | k + 1, hk => by simp only [chg, chg_cong h (k := k) (by omega), h k (by omega)]
theorem tru_cong {t : List Pt} (h : ∀ i, i < t.length → f i = g i) (hp : TruF t f) : TruF t g := by
  rw [tru_par] at hp ⊢
  exact ⟨par_cong h hp.1, by rw [← chg_cong h (Nat.le_refl _)]; exact hp.2⟩
/-- weights of two tables, one after the other -/
def joi (n : Nat) (f g : Nat → Int) : Nat → Int := fun i => if i < n then f i else g (i - n)
theorem joi_l {n i : Nat} (h : i < n) : f i = joi n f g i := by unfold joi; rw [if_pos h]
theorem joi_r {n : Nat} : fsh n (joi n f g) = g := by funext i; unfold fsh joi; rw [if_neg (by omega), Nat.add_sub_cancel_left]
theorem sdb_cha (T : TW t) (U : TW u) (O : TW (sdb t u)) : (chaN (sdb t u) < 0 ↔ (chaN t < 0 ∨ chaN u < 0)) ∧ (0 ≤ chaN (sdb t u) → chaN (sdb t u) = chaN t + chaN u) := by
  unfold chaN
  have Lt := LstD T.toTG; have Lu := LstD U.toTG; have Lo := LstD O.toTG
  cases h : Lst (sdb t u) (cD (sdb t u)) with
  | none =>
    have no : Lst t (cD t) = none ∨ Lst u (cD u) = none := by
      cases h1 : Lst t (cD t) with
      | none => exact .inl rfl
      | some a =>
        cases h2 : Lst u (cD u) with
        | none => exact .inr rfl
        | some b =>
          obtain ⟨f1, p1, _⟩ := Lt.1 a h1
          obtain ⟨f2, p2, _⟩ := Lu.1 b h2
          obtain ⟨x, hx, _⟩ := Lo.2 _ ⟨joi t.length f1 f2, (par_side T.toTG U.toTG).2 ⟨par_cong (fun i hi => joi_l hi) p1, by rw [joi_r]; exact p2⟩, rfl⟩
          rw [hx] at h; cases h
    refine ⟨⟨fun _ => ?_, fun _ => by decide⟩, fun h0 => absurd h0 (by decide)⟩
    rcases no with e | e
    · left; rw [e]; decide
    · right; rw [e]; decide
  | some m =>
    obtain ⟨f0, p0, e0⟩ := Lo.1 m h
    rw [sdb_len, chg_side (Nat.le_refl _)] at e0
    obtain ⟨q1, q2⟩ := (par_side T.toTG U.toTG).1 p0
    obtain ⟨a, ha, la⟩ := Lt.2 _ ⟨f0, q1, rfl⟩
    obtain ⟨b, hb, lb⟩ := Lu.2 _ ⟨_, q2, rfl⟩
    obtain ⟨f1, p1, e1⟩ := Lt.1 a ha
    obtain ⟨f2, p2, e2⟩ := Lu.1 b hb
    obtain ⟨x, hx, lx⟩ := Lo.2 _ ⟨joi t.length f1 f2, (par_side T.toTG U.toTG).2 ⟨par_cong (fun i hi => joi_l hi) p1, by rw [joi_r]; exact p2⟩, rfl⟩
    rw [sdb_len, chg_side (Nat.le_refl _), joi_r, ← chg_cong (f := f1) (fun i hi => joi_l hi) (Nat.le_refl _)] at lx
    rw [h] at hx; cases hx
    have ra := cD_rng T ha; have rb := cD_rng U hb
    rw [ha, hb]
    simp only [Option.getD_some]
    omega
theorem sdb_lo (T : TW t) (U : TW u) (O : TW (sdb t u)) (h1 : is1 t = true) (h2 : is1 u = true) {r : Nat → Int} : loV (sdb t u) r = loV t r + loV u (fsh t.length r) := by
  obtain ⟨⟨f1, p1, e1⟩, m1⟩ := loV_spec (r := r) T.toTG h1
  obtain ⟨⟨f2, p2, e2⟩, m2⟩ := loV_spec (r := fsh t.length r) U.toTG h2
  refine loV_eq O.toTG (joi t.length f1 f2) ((tru_side T.toTG U.toTG).2 ⟨tru_cong (fun i hi => joi_l hi) p1, by rw [joi_r]; exact p2⟩) ?_ fun w hw => ?_
  · rw [sdb_len, lin_side, joi_r, e2, ← e1]
    congr 1
    exact lin_congr (fun i hi => rfl) fun i hi => (joi_l hi).symm
  · obtain ⟨w1, w2⟩ := (tru_side T.toTG U.toTG).1 hw
    have := m1 w w1; have := m2 _ w2
    rw [sdb_len, lin_side]; omega
theorem sdb_hi (T : TW t) (U : TW u) (O : TW (sdb t u)) (h1 : is1 t = true) (h2 : is1 u = true) {r : Nat → Int} : hiV (sdb t u) r = hiV t r + hiV u (fsh t.length r) := by
  obtain ⟨⟨f1, p1, e1⟩, m1⟩ := hiV_spec (r := r) T.toTG h1
  obtain ⟨⟨f2, p2, e2⟩, m2⟩ := hiV_spec (r := fsh t.length r) U.toTG h2
  refine hiV_eq O.toTG (joi t.length f1 f2) ((tru_side T.toTG U.toTG).2 ⟨tru_cong (fun i hi => joi_l hi) p1, by rw [joi_r]; exact p2⟩) ?_ fun w hw => ?_
  · rw [sdb_len, lin_side, joi_r, e2, ← e1]
    congr 1
    exact lin_congr (fun i hi => rfl) fun i hi => (joi_l hi).symm
  · obtain ⟨w1, w2⟩ := (tru_side T.toTG U.toTG).1 hw
    have := m1 w w1; have := m2 _ w2
    rw [sdb_len, lin_side]; omega
end
end Go.Proofs.Ytkmcbiimlnphmaa.S

