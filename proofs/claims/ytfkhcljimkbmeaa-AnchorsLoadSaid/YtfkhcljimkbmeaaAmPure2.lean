/-
Operations that look at their operands alone, each.
-/
import Derived.Test.YtfkhcljimkbmeaaAmPure
namespace Go.Am
open Go
set_option linter.unusedVariables false
set_option linter.unusedSimpArgs false

variable {P : Program} {S : Fz} {φ : Mp} {w : World}

theorem plainStruct_spec {t : TypeId} {ks : List Bool} (h : plainStruct P t = some ks) :
    ∃ fs, P.underlying t = some (.struct fs) ∧ P.stoodInHeld t = false ∧ P.eqGuardType P.depth t = false ∧ plainKinds P 0 fs.toList = some ks := by
  unfold plainStruct at h
  split at h
  · rename_i fs hu
    split at h
    · rename_i hc; exact ⟨fs, hu, hc.1, hc.2, h⟩
    · cases h
  · cases h

theorem part_cell {t : TypeId} (ht : (∃ k, P.underlying t = some (.int k)) ∨ P.underlying t = some .bool) {xs : Array Value} {i : Nat} {v : Value} (hv : xs[i]? = some v) (w : World) :
    (Go.part t xs i).run P w = .ok v w := by
  have : aggP P t = some false := by
    rcases ht with ⟨k, hk⟩ | hk <;> simp [aggP, hk]
  simp [Go.part, run_aggP this, hv]

theorem eqFields_snd (d : Nat) {xs ys : Array Value} : ∀ (fs : List Field) (ks : List Bool) (i : Nat) (a b : List AV) (e : Bool), plainKinds P i fs = some ks →
    (∀ (j : Nat) x, a[j]? = some x → ∃ v, xs[i + j]? = some v ∧ Rel S φ x v) → (∀ (j : Nat) x, b[j]? = some x → ∃ v, ys[i + j]? = some v ∧ Rel S φ x v) →
    eqCells ks a b = some e → (Op.eqFields (d + 1) xs ys fs).run P w = .ok e w
  | [], ks, i, a, b, e, hk, _, _, he => by simp [plainKinds] at hk; subst hk; simp [eqCells] at he; subst he; simp [Op.eqFields]
  | f :: fs, ks, i, a, b, e, hk, ha, hb, he => by
    simp only [plainKinds] at hk
    split at hk
    · rename_i hc
      obtain ⟨hn, ho⟩ := hc
      have main : ∀ (l : List Bool) (x y : AV) (a' b' : List AV), a = x :: a' → b = y :: b' → ((∃ k, P.underlying f.type = some (.int k)) ∨ P.underlying f.type = some .bool) →
          plainKinds P (i + 1) fs = some l → ∀ r, (∀ v u, xs[i]? = some v → ys[i]? = some u → Rel S φ x v → Rel S φ y u → (Op.equalIn (d + 1) f.type v u).run P w = .ok r w) →
          (if r then eqCells l a' b' else some false) = some e → (Op.eqFields (d + 1) xs ys (f :: fs)).run P w = .ok e w := by
        intro l x y a' b' ea eb ht hl r hr h2
        subst ea; subst eb
        obtain ⟨v, hv, hrv⟩ := ha 0 x rfl
        obtain ⟨u, hu, hru⟩ := hb 0 y rfl
        rw [Nat.add_zero] at hv hu
        have h1 := hr v u hv hu hrv hru
        simp only [Op.eqFields, ne_eq, hn, not_false_eq_true, if_true, ho, Sem.run_bind, part_cell ht hv, part_cell ht hu, Result.andThen_ok, h1]
        cases r
        · simp at h2; subst h2; simp
        · simp only [if_true] at h2
          simp only [Bool.not_true, Bool.false_eq_true, if_false]
          exact eqFields_snd d fs l (i + 1) a' b' e hl
            (fun j x' hj => by have := ha (j + 1) x' (by simpa using hj); rwa [show i + (j + 1) = i + 1 + j by omega] at this)
            (fun j x' hj => by have := hb (j + 1) x' (by simpa using hj); rwa [show i + (j + 1) = i + 1 + j by omega] at this) h2
      split at hk
      · rename_i k l hu hl
        cases hk
        unfold eqCells at he
        split at he <;> try (simp at he; done)
        · rename_i h0; cases h0
        · rename_i n k1 x1 r1 k2 y1 s1 h0
          cases h0
          split at he
          · rename_i hk12; subst hk12
            refine main l (.int k1 x1) (.int k1 y1) r1 s1 rfl rfl (.inl ⟨k, hu⟩) hl (x1 == y1) (fun v u _ _ h3 h4 => by cases h3; cases h4; exact run_equalIn_int w d f.type k1 k x1 y1 hu) ?_
            by_cases hxy : x1 = y1
            · rw [if_pos hxy] at he; simpa [hxy] using he
            · rw [if_neg hxy] at he; simpa [hxy] using he
          · cases he
        · rename_i h0; cases h0
      · rename_i l hu hl
        cases hk
        unfold eqCells at he
        split at he <;> try (simp at he; done)
        · rename_i h0; cases h0
        · rename_i h0; cases h0
        · rename_i n x1 r1 y1 s1 h0
          cases h0
          refine main l (.bool x1) (.bool y1) r1 s1 rfl rfl (.inr hu) hl (x1 == y1) (fun v u _ _ h3 h4 => by cases h3; cases h4; exact run_equalIn_bool' w d f.type x1 y1 hu) ?_
          by_cases hxy : x1 = y1
          · rw [if_pos hxy] at he; simpa [hxy] using he
          · rw [if_neg hxy] at he; simpa [hxy] using he
      · cases hk
    · cases hk

end Go.Am
