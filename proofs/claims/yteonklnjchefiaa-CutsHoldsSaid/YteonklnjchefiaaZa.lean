/-
One weight alone, one waste alone: what truths are left (for the laws that compare).
-/
import Derived.Test.YteonklnjchefiaaYq
namespace Go.Proofs.Yteonklnjchefiaa.S
open Go Go.Am Go.Proofs.Yteonklnjchefiaa.T
set_option maxRecDepth 100000
set_option linter.unusedSimpArgs false
set_option linter.unusedVariables false

theorem linA {u : Nat → Int} {p : Nat} : ∀ {k : Nat}, lin (rA p) u k = if p < k then u p else 0
  | 0 => by simp [lin]
  | k + 1 => by
    simp only [lin, linA (k := k), rA]
    by_cases e : k = p
    · subst e; rw [if_neg (by omega), if_pos rfl, if_pos (by omega)]; omega
    · rw [if_neg e]
      by_cases h : p < k
      · rw [if_pos h, if_pos (by omega)]; omega
      · rw [if_neg h, if_neg (by omega)]; omega
theorem par_eq {a b : List Pt} (hl : a.length = b.length) (hw : ∀ i, wst a i = wst b i) (h : ∀ j, (a.getD j default).of = (b.getD j default).of) {u : Nat → Int} : PartF a u ↔ PartF b u := by
  have hp : ∀ i, pcs a u i a.length = pcs b u i b.length := fun i => by rw [hl]; exact pcs_of fun j => h j
  constructor
  · intro h1 i hi
    have := h1 i (by omega); rw [hw, hp] at this; exact this
  · intro h1 i hi
    have := h1 i (by omega); rw [hw, hp]; exact this
section
variable {t : List Pt}
theorem linL (T : TG t) {p : Nat} (hp : p < t.length) {u : Nat → Int} : ∀ {k : Nat}, k ≤ t.length → lin (rL t p) u k = (if p < k then u p else 0) - pcs t u p k
  | 0, _ => by simp [lin, pcs]
  | k + 1, h => by
    have o1 := (T.of k (by omega)).2
    simp only [lin, pcs, linL T hp (k := k) (by omega)]
    by_cases e : (t.getD k default).of = p
    · have e1 : rL t p k = -1 := if_pos ⟨by omega, e⟩
      rw [e1, if_pos e, if_pos (show p < k by omega), if_pos (show p < k + 1 by omega)]; omega
    · have e1 : rL t p k = rA p k := if_neg (fun hh => e hh.2)
      rw [e1, if_neg e]
      by_cases e2 : k = p
      · have e3 : rA p k = 1 := if_pos e2
        rw [e3, if_neg (show ¬ p < k by omega), if_pos (show p < k + 1 by omega), e2]; omega
      · have e3 : rA p k = 0 := if_neg e2
        rw [e3]
        by_cases h3 : p < k
        · rw [if_pos h3, if_pos (show p < k + 1 by omega)]; omega
        · rw [if_neg h3, if_neg (show ¬ p < k + 1 by omega)]; omega
theorem onl_n {p : Nat} {n : Int} : (onl t p n).length = t.length := by simp [onl]
theorem wsd_n {p : Nat} {n : Int} : (wsd t p n).length = t.length := by simp [wsd]
theorem onl_T {p : Nat} (hp : p < t.length) {n : Int} (hn : (t.getD p default).w.lo ≤ n ∧ n ≤ (t.getD p default).w.hi) {u : Nat → Int} : TruF (onl t p n) u ↔ TruF t u ∧ u p = n := by
  have hc := set_can (t := t) hp (x := { t.getD p default with w := ⟨n, n⟩ }) rfl
  have hs : ∀ j, ((onl t p n).getD j default).s = (t.getD j default).s ∧ ((onl t p n).getD j default).of = (t.getD j default).of := fun j => by
    unfold onl; rw [set_at hp]; split
    · rename_i e; subst e; exact ⟨rfl, rfl⟩
    · exact ⟨rfl, rfl⟩
  have hP : PartF (onl t p n) u ↔ PartF t u := par_eq onl_n (fun i => by unfold wst; rw [(hs i).1]; unfold onl; rw [hc]) fun j => (hs j).2
  unfold TruF
  rw [hP, onl_n]
  constructor
  · rintro ⟨h1, h2⟩
    have h3 := h2 p hp
    unfold onl at h3
    rw [set_at hp, if_pos rfl] at h3
    have h3' : n ≤ u p ∧ u p ≤ n := h3
    refine ⟨⟨h1, fun i hi => ?_⟩, by omega⟩
    by_cases e : i = p
    · subst e; omega
    · have h4 := h2 i hi
      unfold onl at h4
      rw [set_at hp, if_neg e] at h4; exact h4
  · rintro ⟨⟨h1, h2⟩, h3⟩
    refine ⟨h1, fun i hi => ?_⟩
    unfold onl
    rw [set_at hp]
    split
    · rename_i e; subst e; show n ≤ u i ∧ u i ≤ n; omega
    · exact h2 i hi
theorem wsd_T {p : Nat} (hp : p < t.length) (hcp : canC t p = true) {n : Int} (hn : (t.getD p default).s.lo ≤ n ∧ n ≤ (t.getD p default).s.hi) {u : Nat → Int} : TruF (wsd t p n) u ↔ TruF t u ∧ u p - pcs t u p t.length = n := by
  have hc := set_can (t := t) hp (x := { t.getD p default with s := ⟨n, n⟩ }) rfl
  have ho : ∀ j, ((wsd t p n).getD j default).of = (t.getD j default).of ∧ ((wsd t p n).getD j default).w = (t.getD j default).w := fun j => by
    unfold wsd; rw [set_at hp]; split
    · rename_i e; subst e; exact ⟨rfl, rfl⟩
    · exact ⟨rfl, rfl⟩
  have hs : ∀ j, j ≠ p → ((wsd t p n).getD j default).s = (t.getD j default).s := fun j e => by
    unfold wsd; rw [set_at hp, if_neg e]
  have hsp : ((wsd t p n).getD p default).s = ⟨n, n⟩ := by unfold wsd; rw [set_at hp, if_pos rfl]
  have hcc : ∀ i, canC (wsd t p n) i = canC t i := hc
  have hw : ∀ i, i ≠ p → wst (wsd t p n) i = wst t i := fun i e => by unfold wst; rw [hcc, hs i e]
  have hwp : wst (wsd t p n) p = ⟨n, n⟩ := by unfold wst; rw [hcc, hcp, if_pos rfl, hsp]
  have hwt : wst t p = (t.getD p default).s := by unfold wst; rw [hcp, if_pos rfl]
  have hp' : ∀ i, pcs (wsd t p n) u i (wsd t p n).length = pcs t u i t.length := fun i => by rw [wsd_n]; exact pcs_of fun j => (ho j).1
  unfold TruF PartF
  constructor
  · rintro ⟨h1, h2⟩
    have h3 := (h1 p (by rw [wsd_n]; exact hp)).2
    rw [hwp, hp'] at h3
    have h3' : n ≤ u p - pcs t u p t.length ∧ u p - pcs t u p t.length ≤ n := h3
    refine ⟨⟨fun i hi => ?_, fun i hi => ?_⟩, by omega⟩
    · have h4 := h1 i (by rw [wsd_n]; exact hi)
      rw [hp'] at h4
      by_cases e : i = p
      · subst e; exact ⟨h4.1, by rw [hwt]; omega⟩
      · rw [hw i e] at h4; exact h4
    · have := h2 i (by rw [wsd_n]; exact hi)
      rw [(ho i).2] at this; exact this
  · rintro ⟨⟨h1, h2⟩, h3⟩
    refine ⟨fun i hi => ?_, fun i hi => ?_⟩
    · rw [wsd_n] at hi
      have h4 := h1 i hi
      rw [hp']
      by_cases e : i = p
      · subst e; exact ⟨h4.1, by rw [hwp]; show n ≤ _ ∧ _ ≤ n; omega⟩
      · rw [hw i e]; exact h4
    · rw [wsd_n] at hi
      rw [(ho i).2]; exact h2 i hi
theorem onl_W (T : TW t) {p : Nat} (hp : p < t.length) {n : Int} (hn : 0 ≤ n ∧ n ≤ 30) : TW (onl t p n) := set_W T hp rfl (show 0 ≤ n ∧ n ≤ n ∧ n ≤ 30 by omega) (T.s p hp) (T.p p hp)
theorem wsd_W (T : TW t) {p : Nat} (hp : p < t.length) {n : Int} (hn : 0 ≤ n ∧ n ≤ 30) : TW (wsd t p n) := set_W T hp rfl (T.w p hp) (show 0 ≤ n ∧ n ≤ n ∧ n ≤ 30 by omega) (T.p p hp)
/-- the ends of what a search finds from one number to another one -/
structure Fnd (q : Int → Bool) (a b : Int) (i x y : Int) : Prop where
  all : ∀ n, a ≤ n → n < i → q n = true → x ≤ n ∧ n ≤ y
  lo : x = 30 ∨ (a ≤ x ∧ x < i ∧ q x = true)
  hi : y = 0 ∨ (a ≤ y ∧ y < i ∧ q y = true)
  rng : 0 ≤ x ∧ x ≤ 30 ∧ 0 ≤ y ∧ y ≤ 30
theorem Fnd.zero {q : Int → Bool} {a b : Int} : Fnd q a b a 30 0 := ⟨fun n h1 h2 => by omega, .inl rfl, .inl rfl, by omega⟩
theorem Fnd.yes {q : Int → Bool} {a b i lo hi : Int} (F : Fnd q a b i lo hi) (ha : a ≤ i) (hq : q i = true) (h0 : 0 ≤ i ∧ i ≤ 30) : Fnd q a b (i + 1) (mmx false lo i) (mmx true hi i) := by
  show Fnd q a b (i + 1) (if i < lo then i else lo) (if i > hi then i else hi)
  have r := F.rng
  refine ⟨fun n h1 h2 h3 => ?_, ?_, ?_, ?_⟩
  · by_cases e : n = i
    · subst e; constructor <;> split <;> omega
    · have := F.all n h1 (by omega) h3
      constructor <;> split <;> omega
  · by_cases c : i < lo
    · rw [if_pos c]; exact .inr ⟨ha, by omega, hq⟩
    · rw [if_neg c]
      rcases F.lo with h | ⟨h1, h2, h3⟩
      · exact .inl h
      · exact .inr ⟨h1, by omega, h3⟩
  · by_cases c : i > hi
    · rw [if_pos c]; exact .inr ⟨ha, by omega, hq⟩
    · rw [if_neg c]
      rcases F.hi with h | ⟨h1, h2, h3⟩
      · exact .inl h
      · exact .inr ⟨h1, by omega, h3⟩
  · split <;> split <;> omega
theorem Fnd.no {q : Int → Bool} {a b i lo hi : Int} (F : Fnd q a b i lo hi) (hq : q i = false) : Fnd q a b (i + 1) lo hi := by
  refine ⟨fun n h1 h2 h3 => ?_, ?_, ?_, F.rng⟩
  · by_cases e : n = i
    · subst e; rw [hq] at h3; cases h3
    · exact F.all n h1 (by omega) h3
  · rcases F.lo with h | ⟨h1, h2, h3⟩
    · exact .inl h
    · exact .inr ⟨h1, by omega, h3⟩
  · rcases F.hi with h | ⟨h1, h2, h3⟩
    · exact .inl h
    · exact .inr ⟨h1, by omega, h3⟩
theorem Fnd.fin {q : Int → Bool} {a b lo hi x y : Int} (F : Fnd q a b (b + 1) lo hi) (hx : a ≤ x ∧ x ≤ b ∧ q x = true) (hy : a ≤ y ∧ y ≤ b ∧ q y = true) (hq : ∀ n, a ≤ n → n ≤ b → q n = true → x ≤ n ∧ n ≤ y) (h0 : 0 ≤ x ∧ y ≤ 30) : lo = x ∧ hi = y := by
  have l1 := F.all x hx.1 (by omega) hx.2.2
  have l2 := F.all y hy.1 (by omega) hy.2.2
  have m := hq x hx.1 hx.2.1 hx.2.2
  constructor
  · rcases F.lo with h | ⟨h1, h2, h3⟩
    · omega
    · have := hq lo h1 (by omega) h3; omega
  · rcases F.hi with h | ⟨h1, h2, h3⟩
    · omega
    · have := hq hi h1 (by omega) h3; omega
/-- what the search for a weight finds -/
theorem fnd_w (T : TW t) (h1 : is1 t = true) {p : Nat} (hp : p < t.length) {lo hi : Int} (F : Fnd (fun n => is1 (onl t p n)) (t.getD p default).w.lo (t.getD p default).w.hi ((t.getD p default).w.hi + 1) lo hi) : lo = loV t (rA p) ∧ hi = hiV t (rA p) := by
  have ll : ∀ u, lin (rA p) u t.length = u p := fun u => by rw [linA, if_pos hp]
  obtain ⟨⟨u1, a1, b1⟩, c1⟩ := loV_spec (r := rA p) T.toTG h1
  obtain ⟨⟨u2, a2, b2⟩, c2⟩ := hiV_spec (r := rA p) T.toTG h1
  have hw := T.w p hp
  rw [ll] at b1 b2
  have r1 := a1.2 p hp
  have r2 := a2.2 p hp
  have z1 := (a1.1 p hp).1
  have z2 := (a2.1 p hp).1
  refine F.fin ⟨by omega, by omega, ?_⟩ ⟨by omega, by omega, ?_⟩ (fun n hn1 hn2 hq => ?_) ⟨by omega, by omega⟩
  · exact (is1_iff (onl_W T hp (by omega)).toTG).2 ⟨u1, (onl_T hp (by omega)).2 ⟨a1, b1⟩⟩
  · exact (is1_iff (onl_W T hp (by omega)).toTG).2 ⟨u2, (onl_T hp (by omega)).2 ⟨a2, b2⟩⟩
  · obtain ⟨u, hu⟩ := (is1_iff (onl_W T hp (by omega)).toTG).1 hq
    obtain ⟨g1, g2⟩ := (onl_T hp ⟨hn1, hn2⟩).1 hu
    have x1 := c1 u g1; have x2 := c2 u g1
    rw [ll, g2] at x1 x2
    exact ⟨x1, x2⟩
/-- what the search for a waste finds -/
theorem fnd_s (T : TW t) (h1 : is1 t = true) {p : Nat} (hp : p < t.length) (hc : canC t p = true) {lo hi : Int} (F : Fnd (fun n => is1 (wsd t p n)) (t.getD p default).s.lo (t.getD p default).s.hi ((t.getD p default).s.hi + 1) lo hi) : lo = loV t (rL t p) ∧ hi = hiV t (rL t p) := by
  have ll : ∀ u, lin (rL t p) u t.length = u p - pcs t u p t.length := fun u => by rw [linL T.toTG hp (Nat.le_refl _), if_pos hp]
  obtain ⟨⟨u1, a1, b1⟩, c1⟩ := loV_spec (r := rL t p) T.toTG h1
  obtain ⟨⟨u2, a2, b2⟩, c2⟩ := hiV_spec (r := rL t p) T.toTG h1
  have hw := T.s p hp
  have hwt : wst t p = (t.getD p default).s := by unfold wst; rw [hc, if_pos rfl]
  rw [ll] at b1 b2
  have r1 := (a1.1 p hp).2
  have r2 := (a2.1 p hp).2
  rw [hwt] at r1 r2
  refine F.fin ⟨by omega, by omega, ?_⟩ ⟨by omega, by omega, ?_⟩ (fun n hn1 hn2 hq => ?_) ⟨by omega, by omega⟩
  · exact (is1_iff (wsd_W T hp (by omega)).toTG).2 ⟨u1, (wsd_T hp hc (by omega)).2 ⟨a1, b1⟩⟩
  · exact (is1_iff (wsd_W T hp (by omega)).toTG).2 ⟨u2, (wsd_T hp hc (by omega)).2 ⟨a2, b2⟩⟩
  · obtain ⟨u, hu⟩ := (is1_iff (wsd_W T hp (by omega)).toTG).1 hq
    obtain ⟨g1, g2⟩ := (wsd_T hp hc ⟨hn1, hn2⟩).1 hu
    have x1 := c1 u g1; have x2 := c2 u g1
    rw [ll, g2] at x1 x2
    exact ⟨x1, x2⟩
end
end Go.Proofs.Yteonklnjchefiaa.S

