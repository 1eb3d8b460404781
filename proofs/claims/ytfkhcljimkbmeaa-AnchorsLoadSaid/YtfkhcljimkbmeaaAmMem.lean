/-
Operations that read and write memory, but for calls.
-/
import Derived.Test.YtfkhcljimkbmeaaAmPex
namespace Go.Am
open Go
set_option linter.unusedVariables false
set_option linter.unusedSimpArgs false

variable {P : Program} {mode : Nat → Nat → Nat} {S : Fz} {φ : Mp} {B : Nat} {h : List AO} {w : World} {ρ : Operand → Value} {τ : Opd → AV} {m : Nat → Nat}

/-- the operation yields a value that fits; the heap fits behind it -/
def OpOk (P : Program) (mode : Nat → Nat → Nat) (S : Fz) (φ : Mp) (B lim : Nat) (h : List AO) (w : World) (pl : Option Nat) (s : Sem Next) (r : AV) (h' : List AO) : Prop :=
  ∃ n w' φ', s.run P w = .ok n w' ∧ ((n = .skip ∧ r = .undef) ∨ ∃ v, n = .value v ∧ Rel S φ' r v) ∧ Post P mode S φ B lim h w pl S φ' h' w'

theorem OpOk.of_run {lim : Nat} {pl : Option Nat} {s : Sem Value} {v : Value} {r : AV} {h' : List AO} {w' : World} {φ' : Mp} (hs : s.run P w = .ok v w') (hr : Rel S φ' r v)
    (hp : Post P mode S φ B lim h w pl S φ' h' w') : OpOk P mode S φ B lim h w pl (do pure (.value (← s))) r h' :=
  ⟨.value v, w', φ', by simp [hs], .inr ⟨v, rfl, hr⟩, hp⟩

/-- what stands at a row's places -/
theorem cell_row {c : List AV} {b z : Nat} (r : ORow S φ w c b z) {j : Nat} {x : AV} (hx : c[j]? = some x) : ∃ v, w.cell? ⟨b, j, none⟩ = some v ∧ Rel S φ x v := by
  obtain ⟨cs, e, h1, h2, h3, h4⟩ := r
  obtain ⟨v, hv, hr⟩ := h4 j x hx
  exact ⟨v, by rw [cell_of_row w b j cs e (0, 0) h1]; exact hv, hr⟩

/-- of cells that are known one by one: the list of them -/
theorem cells_list {b off : Nat} {l : List AV} (hl : ∀ (j : Nat) x, l[j]? = some x → ∃ v, w.cell? ⟨b, off + j, none⟩ = some v ∧ Rel S φ x v) :
    ∃ vs : List Value, RelL S φ l vs ∧ ∀ (j : Nat) v, vs[j]? = some v → w.cell? ((⟨b, off, none⟩ : Addr).add j) = some v := by
  refine ⟨(List.range l.length).map fun j => (w.cell? ⟨b, off + j, none⟩).getD undef, ⟨by simp, fun j x u hx hu => ?_⟩, fun j v hv => ?_⟩
  · obtain ⟨v, hv, hr⟩ := hl j x hx
    have hj := (List.getElem?_eq_some_iff.1 hx).1
    simp [hj, hv] at hu
    subst hu; exact hr
  · simp only [List.getElem?_map, Option.map_eq_some_iff] at hv
    obtain ⟨i, hi, rfl⟩ := hv
    have hj : j < l.length := by have := (List.getElem?_eq_some_iff.1 hi).1; simpa using this
    have : i = j := by rw [List.getElem?_range hj] at hi; cases hi; rfl
    subst this
    obtain ⟨v, hv, hr⟩ := hl i l[i] (List.getElem?_eq_getElem hj)
    rw [Addr.add_lit, hv]; rfl

theorem loadVar_snd {t : TypeId} {ag : Bool} {size b off : Nat} {l : List AV} {r : AV} (hag : aggP P t = some ag) (hsz : szP P t = some size)
    (hl : ∀ (j : Nat) x, l[j]? = some x → ∃ v, w.cell? ⟨b, off + j, none⟩ = some v ∧ Rel S φ x v) (hp : part ag size l = some r) :
    ∃ v, (loadVar t ⟨b, off, none⟩).run P w = .ok v w ∧ Rel S φ r v := by
  unfold part at hp
  cases ag with
  | true =>
    simp only [if_true] at hp
    split at hp
    · rename_i hlen
      cases hp
      obtain ⟨vs, hrel, hcell⟩ := cells_list (w := w) (S := S) (φ := φ) (b := b) (off := off) (l := l.take size) (fun j x hx => hl j x (by
        rw [List.getElem?_take] at hx
        split at hx
        · exact hx
        · cases hx))
      have hlen' : vs.length = size := by rw [← hrel.1]; exact hlen
      have hld := run_loadCells_list (P := P) w ⟨b, off, none⟩ vs hcell
      rw [hlen'] at hld
      refine ⟨.agg vs.toArray, ?_, Rel.agg_iff.2 (by simpa using hrel)⟩
      simp [loadVar, run_aggP hag, run_szP hsz, hld]
    · cases hp
  | false =>
    simp only [Bool.false_eq_true, if_false] at hp
    rw [List.head?_eq_getElem?] at hp
    obtain ⟨v, hv, hr⟩ := hl 0 r hp
    refine ⟨v, ?_, hr⟩
    rw [Nat.add_zero] at hv
    simp [loadVar, run_aggP hag, hv]

theorem row_of (H : HR P mode S φ B h w) {o : Nat} {c : List AV} (ho : rowAt h o = some c) : ∃ b z, φ o = some (b, z) ∧ ORow S φ w c b z := by
  unfold rowAt at ho
  simp only [Option.bind_eq_some_iff] at ho
  obtain ⟨a, ha, hc⟩ := ho
  rcases H.obj o a ha with rfl | ⟨b, z, h1, h2, h3⟩
  · simp [AO.row?] at hc
  · refine ⟨b, z, h1, ?_⟩
    cases a <;> simp [AO.row?] at hc <;> subst hc <;> exact h3

theorem rowAt_cells {o : Nat} {c : List AV} {sh : Bool} (ho : h[o]? = some (.cells c sh)) : rowAt h o = some c := by simp [rowAt, ho, AO.row?]

/-- a pointer's cells, from where it points on -/
theorem ptr_cells (H : HR P mode S φ B h w) {o off : Nat} {c : List AV} (ho : rowAt h o = some c) {v : Value} (hv : Rel S φ (.ptr o off) v) :
    ∃ b, v = .pointer (some ⟨b, off, none⟩) ∧ ∀ (j : Nat) x, (c.drop off)[j]? = some x → ∃ u, w.cell? ⟨b, off + j, none⟩ = some u ∧ Rel S φ x u := by
  obtain ⟨b, z, hb, hrow⟩ := row_of H ho
  cases hv with
  | ptr _ _ _ b' z' hb' =>
    rw [hb] at hb'; cases hb'
    refine ⟨b, rfl, fun j x hx => ?_⟩
    rw [List.getElem?_drop] at hx
    exact cell_row hrow hx

theorem cptr_cells (H : HR P mode S φ B h w) {l : List AV} {v : Value} (hv : Rel S φ (.cptr l) v) :
    ∃ b off, v = .pointer (some ⟨b, off, none⟩) ∧ ∀ (j : Nat) x, l[j]? = some x → ∃ u, w.cell? ⟨b, off + j, none⟩ = some u ∧ Rel S φ x u := by
  cases hv with
  | cptr _ _ b off c vs hS hh hr =>
    refine ⟨b, off, rfl, fun j x hx => ?_⟩
    obtain ⟨e, fr, he⟩ := H.fro b c hS
    exact ⟨vs j, by rw [cell_of_row w b _ c e fr he]; exact hh j x hx, (hr j x hx).mono (fun _ _ h => h) _ (fun _ _ h => by cases h)⟩

/-- a row that is written -/
theorem HR.store (H : HR P mode S φ B h w) {o off : Nat} {c vs : List AV} {us : List Value} (ho : h[o]? = some (.cells c false)) {b z : Nat} (hb : φ o = some (b, z))
    {cs : Array Value} {e : TypeId} (hcs : w.heap[b]? = some (.cells cs e (0, 0))) (hfit : off + vs.length ≤ c.length) (hr : RelL S φ vs us) (lim : Nat) (hlim : lim ≤ o) (pl : Option Nat) :
    Post P mode S φ B lim h w pl S φ (h.set o (.cells (splice c off vs) false)) (w.setRow b (cs.toList.take off ++ us ++ cs.toList.drop (off + us.length)).toArray) := by
  have hl := (List.getElem?_eq_some_iff.1 ho).1
  obtain ⟨b', z', hb', hS, hor⟩ : ∃ b z, φ o = some (b, z) ∧ S b = none ∧ ORow S φ w c b z := by
    rcases H.obj o _ ho with hh | ⟨b, z, h1, h2, h3⟩
    · cases hh
    · exact ⟨b, z, h1, h2, h3⟩
  rw [hb] at hb'; cases hb'
  obtain ⟨cs', e', g1, g2, g3, g4⟩ := hor
  rw [hcs] at g1; cases g1
  have hother : ∀ k, k ≠ b → (w.setRow b (cs.toList.take off ++ us ++ cs.toList.drop (off + us.length)).toArray).heap[k]? = w.heap[k]? := fun k hk => setRow_other w b k _ hk
  refine ⟨⟨by simpa using H.bs, ?_, ?_, ?_, ?_, ?_⟩, Mp.le_refl _, fun _ _ => rfl, ⟨rfl, rfl, rfl, by simp, fun k hk => hother k (by have := (H.lt o b z hb).2; omega)⟩, by simp, ?_, fun _ _ _ hn => hn⟩
  · intro q x hx; simpa using H.dom q x hx
  · intro q b1 z1 hq; simpa using H.lt q b1 z1 hq
  · intro b1 c1 hs
    have : b1 ≠ b := by intro e; subst e; rw [hS] at hs; cases hs
    obtain ⟨e1, fr, he⟩ := H.fro b1 c1 hs
    exact ⟨e1, fr, (hother b1 this).trans he⟩
  · intro q a hq
    by_cases e1 : q = o
    · subst e1
      simp [hl] at hq; subst hq
      refine .inr ⟨b, z, hb, hS, _, e, setRow_heap w b cs _ e _ hcs, ?_, ?_, ?_⟩
      · have := hr.1; simp; omega
      · have := hr.1; simp [splice]; omega
      · intro j x hx
        have hrow : RelL S φ c (cs.toList.take c.length) := by
          refine ⟨by simp; omega, fun j x u hx hu => ?_⟩
          obtain ⟨v, hv, hrv⟩ := g4 j x hx
          rw [List.getElem?_take] at hu
          split at hu
          · have hv' : cs.toList[j]? = some v := by simpa using hv
            rw [hv'] at hu; cases hu; exact hrv
          · cases hu
        have hsp := splice_rel (off := off) hrow hr
        obtain ⟨u, hu, hru⟩ := hsp.get hx
        refine ⟨u, ?_, hru⟩
        have hlen := hr.1
        have e2 : (cs.toList.take c.length).take off = cs.toList.take off := by rw [List.take_take]; congr 1; omega
        rw [e2] at hu
        have hjl : j < c.length := by
          have h1 := (List.getElem?_eq_some_iff.1 hx).1
          have h2 : (splice c off vs).length = c.length := by simp [splice]; omega
          omega
        have : (cs.toList.take off ++ us ++ (cs.toList.take c.length).drop (off + us.length))[j]? = (cs.toList.take off ++ us ++ cs.toList.drop (off + us.length))[j]? := by
          have hAl : (cs.toList.take off ++ us).length = off + us.length := by simp; omega
          generalize cs.toList.take off ++ us = X at hAl
          by_cases hj : j < off + us.length
          · rw [List.getElem?_append_left (by omega), List.getElem?_append_left (by omega)]
          · rw [List.getElem?_append_right (by omega), List.getElem?_append_right (by omega), List.getElem?_drop, List.getElem?_drop, List.getElem?_take, if_pos (by omega)]
        rw [this] at hu
        simpa using hu
    · rw [List.getElem?_set_ne (Ne.symm e1)] at hq
      rcases H.obj q a hq with rfl | ⟨b1, z1, k1, k2, k3⟩
      · exact .inl rfl
      · by_cases hbb : b1 = b
        · subst hbb
          have hsh := H.inj o q _ a b1 z z1 ho hq hb k1 (Ne.symm e1)
          cases a with
          | tomb => exact .inl rfl
          | ro c' =>
            simp [mayShare] at hsh
            obtain ⟨_, rfl⟩ := hsh
            obtain ⟨cs1, e1', q1, q2, q3, q4⟩ := k3
            rw [hcs] at q1; cases q1
            refine .inr ⟨b1, z1, k1, k2, _, e, setRow_heap w b1 cs _ e _ hcs, ?_, by simp, fun j x hx => by simp at hx⟩
            have := hr.1; simp; omega
          | _ => simp [mayShare] at hsh
        · exact .inr ⟨b1, z1, k1, k2, k3.mono (fun _ _ h => h) (Mp.le_refl _) (hother b1 hbb)⟩
  · intro q q' a a' b1 z1 z2 hq hq' k1 k2 hne
    by_cases e1 : q = o
    · subst e1
      simp [hl] at hq; subst hq
      rw [List.getElem?_set_ne hne] at hq'
      have := H.inj q q' _ a' b1 z1 z2 ho hq' k1 k2 hne
      cases a' <;> simp_all [mayShare]
    · rw [List.getElem?_set_ne (Ne.symm e1)] at hq
      by_cases e2 : q' = o
      · subst e2
        simp [hl] at hq'; subst hq'
        have := H.inj q q' a _ b1 z1 z2 hq ho k1 k2 hne
        cases a <;> simp_all [mayShare]
      · rw [List.getElem?_set_ne (Ne.symm e2)] at hq'
        exact H.inj q q' a a' b1 z1 z2 hq hq' k1 k2 hne
  · intro q hq _ _
    exact List.getElem?_set_ne (by omega)

end Go.Am
