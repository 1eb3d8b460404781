/-
Operations that read and write memory, but for calls: each.
-/
import Derived.Test.YtfkhcljimkbmeaaAmMem
namespace Go.Am
open Go
set_option linter.unusedVariables false
set_option linter.unusedSimpArgs false

variable {P : Program} {mode : Nat → Nat → Nat} {S : Fz} {φ : Mp} {B : Nat} {h : List AO} {w : World} {ρ : Operand → Value} {τ : Opd → AV} {m : Nat → Nat}

theorem newRow_post (H : HR P mode S φ B h w) (pl : Option Nat) (hp : PlOk φ h pl) {c : List AV} {cs : Array Value} (e : TypeId) (hc : c.length ≤ cs.size)
    (hr : ∀ (j : Nat) x, c[j]? = some x → ∃ v, cs[j]? = some v ∧ Rel S φ x v) (sh : Bool) (lim : Nat) :
    Post P mode S φ B lim h w pl S (φ.set (pl.getD h.length) (w.heap.size, cs.size)) (newObj' pl h (.cells c sh)) (w.alloc (.cells cs e)) := by
  refine H.newObj pl hp _ _ lim ⟨cs, e, heap_new w _, rfl, hc, fun j x hx => ?_⟩
  obtain ⟨v, hv, hrv⟩ := hr j x hx
  exact ⟨v, hv, hrv.up (Mp.le_set _ (pl_none H.dom hp))⟩

theorem relL_row {c : List AV} {cs : Array Value} (h : RelL S φ c cs.toList) : c.length ≤ cs.size ∧ ∀ (j : Nat) x, c[j]? = some x → ∃ v, cs[j]? = some v ∧ Rel S φ x v :=
  ⟨by have := h.1; simp at this; omega, fun j x hx => by obtain ⟨v, hv, hr⟩ := h.get hx; exact ⟨v, by simpa using hv, hr⟩⟩

theorem zeros_get (z : List AV) : ∀ (n j : Nat), j < n * z.length → (zeros n z)[j]? = z[j % z.length]?
  | 0, j, h => by omega
  | n + 1, j, h => by
    have e : zeros (n + 1) z = z ++ zeros n z := by simp [zeros, List.replicate_succ]
    rw [e]
    by_cases hj : j < z.length
    · rw [List.getElem?_append_left hj, Nat.mod_eq_of_lt hj]
    · rw [List.getElem?_append_right (by omega), zeros_get z n _ (by rw [Nat.add_mul] at h; omega)]
      congr 1
      rw [Nat.mod_eq_sub_mod (a := j) (by omega)]

theorem zeros_len (z : List AV) (n : Nat) : (zeros n z).length = n * z.length := by simp [zeros]

theorem zeros_row {z : List AV} {zv : Array Value} (hz : RelL S φ z zv.toList) (n k : Nat) (hk : n * z.length ≤ k) {f : Nat → Value} (hf : ∀ j, j < n * z.length → f j = zv[j % zv.size]!) :
    ∀ (j : Nat) x, (zeros n z)[j]? = some x → ∃ v, ((Array.range k).map f)[j]? = some v ∧ Rel S φ x v := by
  intro j x hx
  have hj := (List.getElem?_eq_some_iff.1 hx).1
  rw [zeros_len] at hj
  rw [zeros_get z n j hj] at hx
  obtain ⟨v, hv, hr⟩ := hz.get hx
  have hl : z.length = zv.size := by have := hz.1; simpa using this
  refine ⟨v, ?_, hr⟩
  have hv' : zv[j % zv.size]? = some v := by rw [← hl]; simpa using hv
  have : f j = v := by rw [hf j hj, getElem!_def, hv']
  simp [show j < k by omega, this]

theorem underlying_info {t : TypeId} {d : TypeDesc} (h : P.underlying t = some d) : True := trivial

theorem szP_info {t : TypeId} {n : Nat} (h : szP P t = some n) : ∃ i, P.info? t = some i ∧ i.size = n := by
  simp only [szP, Option.map_eq_some_iff] at h
  exact h

theorem zeroP_info {t : TypeId} {z : AV} {i : TypeInfo} (h : zeroP P t = some z) (hi : P.info? t = some i) : ∃ v, i.zero = some v ∧ ∀ S φ, Rel S φ z v := by
  simp only [zeroP, hi, Option.bind_some, Option.bind_eq_some_iff] at h
  obtain ⟨v, hz, ha⟩ := h
  exact ⟨v, hz, fun S φ => toAV_rel 2 v z ha⟩

theorem rowOf_list (H : HR P mode S φ B h w) {x : AV} {v : Value} {xs : List AV} (hv : Rel S φ x v) (hx : rowOf h x = some xs) :
    (∃ n, lenOf x = some n ∧ ((xs = [] ∧ ∃ a cap, v = .slice a n cap) ∨
      ∃ b off cap vs, v = .slice (some ⟨b, off, none⟩) n cap ∧ RelL S φ xs vs ∧ ∀ (j : Nat) u, vs[j]? = some u → w.cell? ((⟨b, off, none⟩ : Addr).add j) = some u)) := by
  unfold rowOf at hx
  split at hx
  · cases hx; cases hv; exact ⟨0, rfl, .inl ⟨rfl, _, _, rfl⟩⟩
  · cases hx
    cases hv with
    | cs0 _ esz a cap => exact ⟨0, rfl, .inl ⟨rfl, _, _, rfl⟩⟩
    | cs _ esz len cells b off cap c vs hS hl hc hh hr =>
      obtain ⟨e, fr, he⟩ := H.fro b c hS
      obtain ⟨us, h1, h2⟩ := cells_list (w := w) (S := S) (φ := φ) (b := b) (off := off) (l := xs) (fun j x hj =>
        ⟨vs j, by rw [cell_of_row w b _ c e fr he]; exact hh j x hj, (hr j x hj).mono (fun _ _ h => h) _ (fun _ _ h => by cases h)⟩)
      exact ⟨_, rfl, .inr ⟨b, off, cap, us, rfl, h1, h2⟩⟩
  · rename_i esz o off len
    split at hx
    · rename_i c hc
      simp only at hx
      split at hx
      · rename_i hlen
        cases hx
        cases hv with
        | ms _ _ _ _ _ b z cap hb hcap hz =>
          obtain ⟨b', z', hb', hrow⟩ := row_of H hc
          rw [hb] at hb'; cases hb'
          obtain ⟨us, h1, h2⟩ := cells_list (w := w) (S := S) (φ := φ) (b := b) (off := off) (l := (c.drop off).take (len * esz)) (fun j x hj => by
            rw [List.getElem?_take] at hj
            split at hj
            · rw [List.getElem?_drop] at hj; exact cell_row hrow hj
            · cases hj)
          exact ⟨_, rfl, .inr ⟨b, off, cap, us, rfl, h1, h2⟩⟩
      · cases hx
    · cases hx
  · cases hx

end Go.Am
