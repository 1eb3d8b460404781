/-
Operations that look at their operands alone: what the abstract machine says of them is so.
-/
import Derived.Test.YtfkhcljimkbmeaaAmHeap
namespace Go.Am
open Go
set_option linter.unusedVariables false
set_option linter.unusedSimpArgs false

variable {P : Program} {S : Fz} {φ : Mp} {w : World}

theorem wr_eq (k : IntKind) (n : Int) : wr k n = k.wrap n := by
  cases k <;> simp only [wr]
  split
  · rename_i h
    rw [IntKind.wrap_i64]; omega
  · rfl

theorem run_szP {t : TypeId} {n : Nat} (h : szP P t = some n) (w : World) : (sizeOf t).run P w = .ok n w := by
  simp only [szP, Option.map_eq_some_iff] at h
  obtain ⟨i, hi, rfl⟩ := h
  simp [sizeOf, typeInfo, hi]

theorem run_aggP {t : TypeId} {b : Bool} (h : aggP P t = some b) (w : World) : (isAgg t).run P w = .ok b w := by
  unfold aggP at h
  cases hu : P.underlying t with
  | none => simp [hu] at h
  | some d =>
    simp only [hu] at h
    simp only [isAgg, Sem.run_bind, run_underlying hu, Result.andThen_ok]
    cases d <;> simp_all

theorem run_zeroP {t : TypeId} {z : AV} (h : zeroP P t = some z) (w : World) : ∃ v, (zeroValue t).run P w = .ok v w ∧ ∀ S φ, Rel S φ z v := by
  simp only [zeroP, Option.bind_eq_some_iff] at h
  obtain ⟨v, ⟨i, hi, hz⟩, ha⟩ := h
  exact ⟨v, by simp [zeroValue, typeInfo, hi, hz], fun S φ => toAV_rel 2 v z ha⟩

/-- a part of a row that is known -/
theorem part_snd {ag : Bool} {size : Nat} {row : List AV} {vs : List Value} {r : AV} (hr : RelL S φ row vs) (hp : part ag size row = some r) :
    (ag = true → size ≤ vs.length ∧ Rel S φ r (.agg (vs.take size).toArray)) ∧ (ag = false → ∃ v, vs[0]? = some v ∧ Rel S φ r v) := by
  unfold part at hp
  constructor
  · intro e
    subst e
    simp only [if_true] at hp
    split at hp
    · rename_i hl
      cases hp
      refine ⟨?_, Rel.agg_iff.2 (by simpa using hr.take size)⟩
      rw [← hr.1]; simp at hl; omega
    · cases hp
  · intro e
    subst e
    simp only [Bool.false_eq_true, if_false] at hp
    rw [List.head?_eq_getElem?] at hp
    obtain ⟨u, hu, hr'⟩ := hr.get hp
    exact ⟨u, hu, hr'⟩

theorem run_part {t : TypeId} {ag : Bool} {size off : Nat} (hag : aggP P t = some ag) (hsz : szP P t = some size) {row : List AV} {cs : Array Value} {r : AV}
    (hr : RelL S φ row cs.toList) (hp : part ag size (row.drop off) = some r) (w : World) : ∃ v, (Go.part t cs off).run P w = .ok v w ∧ Rel S φ r v := by
  obtain ⟨h1, h2⟩ := part_snd (hr.drop off) hp
  cases ag with
  | true =>
    obtain ⟨hl, hrel⟩ := h1 rfl
    refine ⟨.agg (cs.extract off (off + size)), ?_, ?_⟩
    · simp [Go.part, run_aggP hag, run_szP hsz]
    · have e : (cs.extract off (off + size)) = ((cs.toList.drop off).take size).toArray := by
        apply Array.ext'
        simp [Array.toList_extract, List.extract_eq_take_drop]
      rw [e]; exact hrel
  | false =>
    obtain ⟨v, hv, hrel⟩ := h2 rfl
    refine ⟨v, ?_, hrel⟩
    have hv' : cs[off]? = some v := by simpa using hv
    simp [Go.part, run_aggP hag, hv']

theorem fold_splice (off : Nat) : ∀ (vs : List Value) (k : Nat) (cs : Array Value), off + k + vs.length ≤ cs.size →
    ((vs.zipIdx k).foldl (fun cs (x : Value × Nat) => cs.setIfInBounds (off + x.2) x.1) cs).toList = cs.toList.take (off + k) ++ vs ++ cs.toList.drop (off + k + vs.length)
  | [], k, cs, _ => by simp
  | v :: r, k, cs, h => by
    simp only [List.zipIdx_cons, List.foldl_cons]
    rw [fold_splice off r (k + 1) _ (by simp at h ⊢; omega)]
    have hk : off + k < cs.toList.length := by simp at h ⊢; omega
    have e0 : (cs.setIfInBounds (off + k) v).toList = (cs.toList.take (off + k) ++ [v]) ++ cs.toList.drop (off + k + 1) := by
      rw [Array.toList_setIfInBounds, List.set_eq_take_append_cons_drop, if_pos hk]; simp
    have e1 : (cs.toList.take (off + k) ++ [v]).length = off + k + 1 := by simp; simp at hk; omega
    rw [e0, show off + (k + 1) = off + k + 1 by omega, List.take_left' e1, List.drop_append, List.drop_eq_nil_of_le (by omega), e1, List.nil_append, List.drop_drop,
      show off + k + 1 + (off + k + 1 + r.length - (off + k + 1)) = off + k + (v :: r).length by simp; omega]
    simp

theorem splice_rel {row : List AV} {cs : List Value} {off : Nat} {vs : List AV} {us : List Value} (h : RelL S φ row cs) (h' : RelL S φ vs us) :
    RelL S φ (splice row off vs) (cs.take off ++ us ++ cs.drop (off + us.length)) := by
  unfold splice
  rw [h'.1]
  exact ((h.take off).append h').append (h.drop _)

theorem fill_snd {place : Nat → Option (Nat × Nat)} : ∀ (parts : List (Nat × Value)) (ps : List (Nat × Nat × AV)) (row : List AV) (cs : Array Value) (r : List AV),
    ps.length = parts.length → (∀ (j : Nat) p q, ps[j]? = some p → parts[j]? = some q → place q.1 = some (p.1, p.2.1) ∧ Rel S φ p.2.2 q.2) →
    RelL S φ row cs.toList → fillL row ps = some r → ∃ c', Instr.fill place cs parts = some c' ∧ RelL S φ r c'.toList ∧ c'.size = cs.size
  | [], [], row, cs, r, _, _, hr, hf => by simp [fillL] at hf; subst hf; exact ⟨cs, rfl, hr, rfl⟩
  | [], p :: ps, _, _, _, hl, _, _, _ => by simp at hl
  | q :: parts, [], _, _, _, hl, _, _, _ => by simp at hl
  | (i, v) :: parts, (off, size, a) :: ps, row, cs, r, hl, hp, hr, hf => by
    obtain ⟨h1, h2⟩ := hp 0 _ _ rfl rfl
    simp only [fillL] at hf
    split at hf
    · rename_i hc
      have hcell := h2.cells
      have e1 : v.cells.size = size := by have := hcell.1; simp at this; omega
      have e2 : off + v.cells.size ≤ cs.size := by have := hr.1; simp at this; omega
      have e3 : ((v.cells.zipIdx.foldl (fun cs (x : Value × Nat) => cs.setIfInBounds (off + x.2) x.1) cs)).toList = cs.toList.take off ++ v.cells.toList ++ cs.toList.drop (off + v.cells.toList.length) := by
        rw [← Array.foldl_toList, Array.toList_zipIdx]
        have := fold_splice off v.cells.toList 0 cs (by simpa using e2)
        simpa using this
      obtain ⟨c', hc', hr', hs⟩ := fill_snd parts ps (splice row off a.cells) (v.cells.zipIdx.foldl (fun cs (x : Value × Nat) => cs.setIfInBounds (off + x.2) x.1) cs) r
        (by simpa using hl) (fun j p q hj hq => hp (j + 1) p q (by simpa using hj) (by simpa using hq)) (by rw [e3]; exact splice_rel hr hcell) hf
      refine ⟨c', ?_, hr', ?_⟩
      · simp only [Instr.fill, h1]
        rw [if_neg (by simp; omega)]
        exact hc'
      · rw [hs]
        have : (v.cells.zipIdx.foldl (fun cs (x : Value × Nat) => cs.setIfInBounds (off + x.2) x.1) cs).toList.length = cs.toList.length := by
          rw [e3]; simp; omega
        simpa using this
    · cases hf

end Go.Am
