/-
Functions of both sides of stage 2, one after another (A2).
-/
import Derived.Test.YtjgbiclbpgkfeaaA1

/-
Lists of numbers that lie in a heap, and heaps that come out of one another.
-/
namespace Go.Proofs.Ytjgbiclbpgkfeaa.A
open Go Go.Am Go.Proofs.Ytjgbiclbpgkfeaa.T
set_option maxRecDepth 100000
set_option linter.unusedSimpArgs false
set_option linter.unusedVariables false

section
variable {α : Type} {l m : List α} {j : Nat} {x : α}
end

end Go.Proofs.Ytjgbiclbpgkfeaa.A

/-
The roughest and the calmest truth of a net, as the program lays them.
-/
namespace Go.Proofs.Ytjgbiclbpgkfeaa.A
open Go Go.Am Go.Proofs.Ytjgbiclbpgkfeaa.T
set_option maxRecDepth 100000
set_option linter.unusedSimpArgs false
set_option linter.unusedVariables false



end Go.Proofs.Ytjgbiclbpgkfeaa.A

/-
What is so in all truths: Drag, Safe and Spare.
-/
namespace Go.Proofs.Ytjgbiclbpgkfeaa.A
open Go Go.Am Go.Proofs.Ytjgbiclbpgkfeaa.T
set_option maxRecDepth 100000
set_option linter.unusedSimpArgs false
set_option linter.unusedVariables false



/-- nothing drags when all lie -/
def still (n : Net) (t : Tru) : Bool := decide (((lst n (stepS n t none6)).length : Int) = 0)
end Go.Proofs.Ytjgbiclbpgkfeaa.A

/-
In a calmer truth no more drags; the law of stage 2 on each truth.
-/
namespace Go.Proofs.Ytjgbiclbpgkfeaa.A
open Go Go.Am Go.Proofs.Ytjgbiclbpgkfeaa.T
set_option maxRecDepth 100000
set_option linter.unusedSimpArgs false
set_option linter.unusedVariables false



/-- the first truth is calmer -/
structure Calmer (n : Net) (t t' : Tru) : Prop where
  w : t.wind ≤ t'.wind
  c : t.cur ≤ t'.cur
  g : ∀ i, i < n.grips.length → t'.grips.getD i default ≤ t.grips.getD i default

section
variable {n : Net} {t t' : Tru}
theorem ld_calmer (G : Fair n t) (C : Calmer n t t') {i : Nat} (hi : i < n.walls.length) : ldI n t i ≤ ldI n t' i := by
  have b := (netB G.v).w _ (getD_mem (l := n.walls) hi)
  have h1 := Int.mul_le_mul_of_nonneg_left C.w b.a0
  have h2 := Int.mul_le_mul_of_nonneg_left C.c b.b0
  unfold ldI; omega
theorem twice_le {d : Bool} {x y : Int} (h : x ≤ y) : twice d x ≤ twice d y := by
  cases d <;> simp [twice] <;> omega
theorem bears_calmer (G : Fair n t) (C : Calmer n t t') {i : Nat} (hi : i < n.ancs.length) (D : Nat → Bool) : bearsI n t i D ≤ bearsI n t' i D := by
  have lw := (netB G.v).lw
  unfold bearsI
  apply Int.add_le_add
  · split
    · exact twice_le (ld_calmer G C (by omega))
    · exact Int.le_refl _
  · split
    · exact twice_le (ld_calmer G C (by omega))
    · exact Int.le_refl _
end

end Go.Proofs.Ytjgbiclbpgkfeaa.A

/-
The least wind in which something drags: Wind and Storm.
-/
namespace Go.Proofs.Ytjgbiclbpgkfeaa.A
open Go Go.Am Go.Proofs.Ytjgbiclbpgkfeaa.T
set_option maxRecDepth 100000
set_option linter.unusedSimpArgs false
set_option linter.unusedVariables false



/-- a truth in another wind -/
abbrev inW (t : Tru) (x : Int) : Tru := ⟨x, t.cur, t.grips⟩
def lwGo (n : Net) (t : Tru) : Nat → Nat → Nat
  | 0, i => i
  | f + 1, i => if still n (inW t i) then lwGo n t f (i + 1) else i
/-- the least wind in which something drags, or 21 -/
def lw (n : Net) (t : Tru) : Nat := lwGo n t 21 0
/-! winds and truths -/
end Go.Proofs.Ytjgbiclbpgkfeaa.A

/-
A copy that may be written to; a net in which an anchor is heavier.
-/
namespace Go.Proofs.Ytjgbiclbpgkfeaa.A
open Go Go.Am Go.Proofs.Ytjgbiclbpgkfeaa.T
set_option maxRecDepth 100000
set_option linter.unusedSimpArgs false
set_option linter.unusedVariables false

/-- where the three lists of a copy lie -/
structure CopyH (n : Net) (og oa ow : Nat) (K : List AO) : Prop where
  g : K[og]? = some (.cells (n.grips.flatMap Spn.e) false)
  a : K[oa]? = some (.cells (n.ancs.flatMap Anc.e) false)
  w : K[ow]? = some (.cells (n.walls.flatMap Wal.e) false)
  ga : og ≠ oa
  gw : og ≠ ow
  aw : oa ≠ ow

theorem r17 {n : Net} {g a w : AV} (H : NetOk n g a w) : ∃ og oa ow K, R E (.fn 43) [netV n g a w] [] 0 = some (netV n (.ms 2 og 0 n.grips.length) (.ms 2 oa 0 n.ancs.length) (.ms 5 ow 0 n.walls.length), K) ∧ CopyH n og oa ow K := by
  have sg := H.sg; have sa := H.sa; have sw := H.sw
  suffices h : ∃ r K, R E (.fn 43) [netV n g a w] [] 0 = some (r, K) ∧ ∃ og oa ow, r = netV n (.ms 2 og 0 n.grips.length) (.ms 2 oa 0 n.ancs.length) (.ms 5 ow 0 n.walls.length) ∧ CopyH n og oa ow K by
    obtain ⟨r, K, h1, og, oa, ow, rfl, h2⟩ := h
    exact ⟨og, oa, ow, K, h1, h2⟩
  refine R_of _ (es _ _ _ _) e43 ?_
  simp only [f43, netV]
  by_cases h1 : n.grips.length = 0 <;> by_cases h2 : n.ancs.length = 0 <;> by_cases h3 : n.walls.length = 0
  all_goals
    simp (disch := first | assumption | omega | (simp only [az]; done)) only [ru, eq_self, if_true, if_false, BEq.rfl, binI, AO.row?, splice, fillL, mmAll, loadV, storeV, zeros, Am.rowAt, Am.part, addOff, Nat.reduceAdd, Nat.reduceMul, Nat.reduceLeDiff, Nat.reduceSub, Nat.reduceLT, Int.reduceEq, Int.reduceLT, Int.reduceLE, Int.reduceGT, Int.reduceGE, Int.reduceAdd, Int.reduceSub, Int.reduceMul, Int.reduceNeg, Int.reduceToNat, reduceCtorEq, reduceIte, lenV_sl H.g, lenV_sl H.a, lenV_sl H.w, elem_sl Spn.el H.g, elem_sl Anc.el H.a, elem_sl Wal.el H.w, view_sl H.g, view_sl H.a, view_sl H.w, scalar_sl H.g, scalar_sl H.a, scalar_sl H.w, cells_sl H.g, cells_sl H.a, cells_sl H.w, pure_sl H.g, pure_sl H.a, pure_sl H.w, Spn.e, Anc.e, Wal.e, Spn.eta, Anc.eta, Wal.eta, Int.toNat_natCast, appV_new H.g Spn.el Spn.sc (eb := 16) (by omega) (by omega), appV_new H.a Anc.el Anc.sc (eb := 16) (by omega) (by omega), appV_new H.w Wal.el Wal.sc (eb := 40) (by omega) (by omega), h1, h2, h3, finC, getRes, Option.some.injEq, exists_eq_left']
    refine ⟨_, _, _, rfl, ⟨?_, ?_, ?_, by decide, by decide, by decide⟩⟩
  all_goals first | rfl | (simp (disch := assumption) only [flat0, h1, h2, h3]; rfl)

theorem shift_ints {k : Nat} : ∀ {c : List AV}, (∀ x ∈ c, ∃ k i, x = .int k i) → c.map (AV.shift k) = c
  | [], _ => rfl
  | a :: c, h => by
    obtain ⟨_, i, rfl⟩ := h a (by simp)
    rw [List.map_cons, shift_ints (fun x hx => h x (by simp [hx]))]; rfl
theorem shift_flat {α : Type} {enc : α → List AV} (hi : ∀ a, ∀ x ∈ enc a, ∃ k i, x = .int k i) (k : Nat) (l : List α) : (l.flatMap enc).map (AV.shift k) = l.flatMap enc :=
  shift_ints fun x hx => by
    obtain ⟨a, _, hx⟩ := List.mem_flatMap.1 hx
    exact hi a x hx
theorem shift_at {h K : List AO} {o : Nat} {α : Type} {enc : α → List AV} {l : List α} (hi : ∀ a, ∀ x ∈ enc a, ∃ k i, x = .int k i) (hk : K[o]? = some (.cells (l.flatMap enc) false)) : (h ++ K.map (AO.shift h.length))[o + h.length]? = some (.cells (l.flatMap enc) false) := by
  rw [List.getElem?_append_right (by omega), show o + h.length - h.length = o by omega, List.getElem?_map, hk]
  simp only [Option.map_some, AO.shift, shift_flat hi]

/-- a call of Copy whose result is written to -/
theorem call17 {n : Net} {g a w : AV} (H : NetOk n g a w) (h : List AO) : ∃ og oa ow K, (∀ {lim : Nat} {ρ : Opd → AV} {x : Opd}, ρ x = netV n g a w → exOp (R E) lim none ρ h (.call 2 43 [x]) =
    some (netV n (.ms 2 og 0 n.grips.length) (.ms 2 oa 0 n.ancs.length) (.ms 5 ow 0 n.walls.length), h ++ K)) ∧ CopyH n og oa ow (h ++ K) ∧ h.length ≤ og ∧ h.length ≤ oa ∧ h.length ≤ ow := by
  obtain ⟨og, oa, ow, K, h1, C⟩ := r17 H
  refine ⟨og + h.length, oa + h.length, ow + h.length, K.map (AO.shift h.length), ?_, ⟨shift_at Spn.iv C.g, shift_at Anc.iv C.a, shift_at Wal.iv C.w, ?_, ?_, ?_⟩, by omega, by omega, by omega⟩
  · intro lim ρ x hx
    have hp : AV.pureV.go [netV n g a w] = true := by
      simp [AV.pureV.go, AV.pureV, pure_sl H.g, pure_sl H.a, pure_sl H.w]
    simp only [exOp, List.map_cons, List.map_nil, hx, hp, if_true, h1]
    rfl
  · have := C.ga; omega
  · have := C.gw; omega
  · have := C.aw; omega

section
variable {α : Type} {l : List α} {x y z : α} {k j : Nat}
theorem at_lt1 (h : k < l.length) : (l ++ [x])[k]? = l[k]? := List.getElem?_append_left h
theorem at_set (h : k < l.length) : (l.set k x)[k]? = some x := by simp [h]
theorem at_ne (h : k ≠ j) : (l.set k x)[j]? = l[j]? := by rw [List.getElem?_set_ne h]
end
section
variable {α : Type} {l : List α} {x y u w : α} {k i : Nat}
end
theorem at_len {α : Type} {l : List α} {k : Nat} {x : α} (h : l[k]? = some x) : k < l.length := (List.getElem?_eq_some_iff.1 h).1

theorem flat_put {α : Type} {esz : Nat} {enc : α → List AV} (he : ∀ a, (enc a).length = esz) (x : α) : ∀ (l : List α) (i : Nat), i < l.length →
    (l.flatMap enc).take (i * esz) ++ enc x ++ (l.flatMap enc).drop (i * esz + esz) = (l.set i x).flatMap enc
  | [], i, h => by simp at h
  | a :: l, 0, h => by
    have : (a :: l).flatMap enc = enc a ++ l.flatMap enc := rfl
    rw [this, Nat.zero_mul, Nat.zero_add, List.take_zero, List.drop_left' (he a)]
    rfl
  | a :: l, i + 1, h => by
    have ih := flat_put he x l i (by simpa using h)
    have e : (i + 1) * esz = (enc a).length + i * esz := by rw [he, Nat.succ_mul]; omega
    have e2 : (i + 1) * esz + esz = (enc a).length + (i * esz + esz) := by omega
    show ((enc a ++ l.flatMap enc).take ((i + 1) * esz)) ++ enc x ++ (enc a ++ l.flatMap enc).drop ((i + 1) * esz + esz) = enc a ++ (l.set i x).flatMap enc
    rw [e2, e, List.take_append, List.drop_append, List.take_of_length_le (by omega), List.drop_eq_nil_of_le (by omega), Nat.add_sub_cancel_left, Nat.add_sub_cancel_left, ← ih]
    simp

end Go.Proofs.Ytjgbiclbpgkfeaa.A

/-
A net backwards.
-/
namespace Go.Proofs.Ytjgbiclbpgkfeaa.A
open Go Go.Am Go.Proofs.Ytjgbiclbpgkfeaa.T
set_option maxRecDepth 100000
set_option linter.unusedSimpArgs false
set_option linter.unusedVariables false

structure TH (n : Net) (g a w : AV) (og oa ow p : Nat) (A : List Anc) (W : List Wal) (h : List AO) : Prop where
  f0 : h[0]? = some (.cells [I n.wind.lo, I n.wind.hi, I n.cur.lo, I n.cur.hi, g, a, w] false)
  f1 : h[1]? = some (.cells [I 0, I 0, I 0, I 0, .nils, .nils, .nils] false)
  fp : h[p]? = some (.cells [I n.wind.lo, I n.wind.hi, I n.cur.lo, I n.cur.hi, .ms 2 og 0 n.grips.length, .ms 2 oa 0 n.ancs.length, .ms 5 ow 0 n.walls.length] false)
  g : h[og]? = some (.cells (n.grips.flatMap Spn.e) false)
  a : h[oa]? = some (.cells (A.flatMap Anc.e) false)
  w : h[ow]? = some (.cells (W.flatMap Wal.e) false)
  d1 : oa ≠ 0 ∧ oa ≠ 1 ∧ oa ≠ p ∧ oa ≠ og ∧ oa ≠ ow
  d2 : ow ≠ 0 ∧ ow ≠ 1 ∧ ow ≠ p ∧ ow ≠ og ∧ ow ≠ oa
  d3 : og ≠ 1
theorem TH.putW {n : Net} {g a w : AV} {og oa ow p : Nat} {A : List Anc} {W B : List Wal} {h : List AO} (T : TH n g a w og oa ow p A W h) : TH n g a w og oa ow p A B (h.set ow (.cells (B.flatMap Wal.e) false)) := by
  obtain ⟨f0, f1, fp, fg, fa, fw, ⟨d1, d2, d3, d4, d5⟩, ⟨c1, c2, c3, c4, c5⟩, d6⟩ := T
  exact ⟨by rw [at_ne c1]; exact f0, by rw [at_ne c2]; exact f1, by rw [at_ne c3]; exact fp, by rw [at_ne c4]; exact fg, by rw [at_ne c5]; exact fa, at_set (at_len fw), ⟨d1, d2, d3, d4, d5⟩, ⟨c1, c2, c3, c4, c5⟩, d6⟩

end Go.Proofs.Ytjgbiclbpgkfeaa.A

