/-
A copy that may be written to; a net in which an anchor is heavier.
-/
import Derived.Test.YtpflneddfhifkaaSn
namespace Go.Proofs.Ytpflneddfhifkaa.S
open Go Go.Am Go.Proofs.Ytpflneddfhifkaa.T
set_option maxRecDepth 100000
set_option linter.unusedSimpArgs false
set_option linter.unusedVariables false

/-- where the three lists of a copy lie -/
structure CopyH (n : Net) (og oa ow : Nat) (K : List AO) : Prop where
  g : K[og]? = some (.cells (n.grips.flatMap Spn.e) false)
  a : K[oa]? = some (.cells (n.ancs.flatMap Anc.e) false)
  w : K[ow]? = some (.cells (n.walls.flatMap Wal.e) false)
  ga : og ≠ oa
  gw : og ≠ ow
  aw : oa ≠ ow

theorem r17 {n : Net} {g a w : AV} (H : NetOk n g a w) : ∃ og oa ow K, R E (.fn 17) [netV n g a w] [] 0 = some (netV n (.ms 2 og 0 n.grips.length) (.ms 2 oa 0 n.ancs.length) (.ms 5 ow 0 n.walls.length), K) ∧ CopyH n og oa ow K := by
  have sg := H.sg; have sa := H.sa; have sw := H.sw
  suffices h : ∃ r K, R E (.fn 17) [netV n g a w] [] 0 = some (r, K) ∧ ∃ og oa ow, r = netV n (.ms 2 og 0 n.grips.length) (.ms 2 oa 0 n.ancs.length) (.ms 5 ow 0 n.walls.length) ∧ CopyH n og oa ow K by
    obtain ⟨r, K, h1, og, oa, ow, rfl, h2⟩ := h
    exact ⟨og, oa, ow, K, h1, h2⟩
  refine R_of _ (es _ _ _ _) e17 ?_
  simp only [f17, netV]
  by_cases h1 : n.grips.length = 0 <;> by_cases h2 : n.ancs.length = 0 <;> by_cases h3 : n.walls.length = 0
  all_goals
    simp (disch := first | assumption | omega | (simp only [az]; done)) only [ru, eq_self, if_true, if_false, BEq.rfl, binI, AO.row?, splice, fillL, mmAll, loadV, storeV, zeros, Am.rowAt, Am.part, addOff, Nat.reduceAdd, Nat.reduceMul, Nat.reduceLeDiff, Nat.reduceSub, Nat.reduceLT, Int.reduceEq, Int.reduceLT, Int.reduceLE, Int.reduceGT, Int.reduceGE, Int.reduceAdd, Int.reduceSub, Int.reduceMul, Int.reduceNeg, Int.reduceToNat, reduceCtorEq, reduceIte, lenV_sl H.g, lenV_sl H.a, lenV_sl H.w, elem_sl Spn.el H.g, elem_sl Anc.el H.a, elem_sl Wal.el H.w, view_sl H.g, view_sl H.a, view_sl H.w, scalar_sl H.g, scalar_sl H.a, scalar_sl H.w, cells_sl H.g, cells_sl H.a, cells_sl H.w, pure_sl H.g, pure_sl H.a, pure_sl H.w, Spn.e, Anc.e, Wal.e, Spn.eta, Anc.eta, Wal.eta, Int.toNat_natCast, appV_new H.g Spn.el Spn.sc (eb := 16) (by omega) (by omega), appV_new H.a Anc.el Anc.sc (eb := 16) (by omega) (by omega), appV_new H.w Wal.el Wal.sc (eb := 40) (by omega) (by omega), h1, h2, h3, finC, getRes, Option.some.injEq, exists_eq_left']
    refine ⟨_, _, _, rfl, ⟨?_, ?_, ?_, by decide, by decide, by decide⟩⟩
  all_goals first | rfl | (simp (disch := assumption) only [flat0, h1, h2, h3]; rfl)

theorem shift_ints {k : Nat} : ∀ {c : List AV}, (∀ x ∈ c, ∃ k i, x = .int k i) → c.map (AV.shift k) = c
  | [], _ => rfl
  | a :: c, h => by
    obtain ⟨_, i, rfl⟩ := h a (by simp)
    rw [List.map_cons, shift_ints (fun x hx => h x (by simp [hx]))]; rfl
theorem shift_flat {α : Type} {enc : α → List AV} (hi : ∀ a, ∀ x ∈ enc a, ∃ k i, x = .int k i) (k : Nat) (l : List α) : (l.flatMap enc).map (AV.shift k) = l.flatMap enc :=
  shift_ints fun x hx => by
    obtain ⟨a, _, hx⟩ := List.mem_flatMap.1 hx
    exact hi a x hx
theorem shift_at {h K : List AO} {o : Nat} {α : Type} {enc : α → List AV} {l : List α} (hi : ∀ a, ∀ x ∈ enc a, ∃ k i, x = .int k i) (hk : K[o]? = some (.cells (l.flatMap enc) false)) : (h ++ K.map (AO.shift h.length))[o + h.length]? = some (.cells (l.flatMap enc) false) := by
  rw [List.getElem?_append_right (by omega), show o + h.length - h.length = o by omega, List.getElem?_map, hk]
  simp only [Option.map_some, AO.shift, shift_flat hi]

/-- a call of Copy whose result is written to -/
theorem call17 {n : Net} {g a w : AV} (H : NetOk n g a w) (h : List AO) : ∃ og oa ow K, (∀ {lim : Nat} {ρ : Opd → AV} {x : Opd}, ρ x = netV n g a w → exOp (R E) lim none ρ h (.call 2 17 [x]) =
    some (netV n (.ms 2 og 0 n.grips.length) (.ms 2 oa 0 n.ancs.length) (.ms 5 ow 0 n.walls.length), h ++ K)) ∧ CopyH n og oa ow (h ++ K) ∧ h.length ≤ og ∧ h.length ≤ oa ∧ h.length ≤ ow := by
  obtain ⟨og, oa, ow, K, h1, C⟩ := r17 H
  refine ⟨og + h.length, oa + h.length, ow + h.length, K.map (AO.shift h.length), ?_, ⟨shift_at Spn.iv C.g, shift_at Anc.iv C.a, shift_at Wal.iv C.w, ?_, ?_, ?_⟩, by omega, by omega, by omega⟩
  · intro lim ρ x hx
    have hp : AV.pureV.go [netV n g a w] = true := by
      simp [AV.pureV.go, AV.pureV, pure_sl H.g, pure_sl H.a, pure_sl H.w]
    simp only [exOp, List.map_cons, List.map_nil, hx, hp, if_true, h1]
    rfl
  · have := C.ga; omega
  · have := C.gw; omega
  · have := C.aw; omega

section
variable {α : Type} {l : List α} {x y z : α} {k j : Nat}
theorem at_lt1 (h : k < l.length) : (l ++ [x])[k]? = l[k]? := List.getElem?_append_left h
theorem at_lt2 (h : k < l.length) : (l ++ [x] ++ [y])[k]? = l[k]? := by rw [List.append_assoc]; exact List.getElem?_append_left h
theorem at_lt3 (h : k < l.length) : (l ++ [x] ++ [y] ++ [z])[k]? = l[k]? := by rw [List.append_assoc, List.append_assoc]; exact List.getElem?_append_left h
theorem at_set (h : k < l.length) : (l.set k x)[k]? = some x := by simp [h]
theorem at_ne (h : k ≠ j) : (l.set k x)[j]? = l[j]? := by rw [List.getElem?_set_ne h]
end
section
variable {α : Type} {l : List α} {x y u w : α} {k i : Nat}
theorem at_set2 (h : k < l.length) : ((l ++ [x] ++ [y]).set k u)[k]? = some u := by rw [List.getElem?_set_self (by simp; omega)]
theorem at_set22 (h : k < l.length) : (((l ++ [x] ++ [y]).set i u).set k w)[k]? = some w := by rw [List.getElem?_set_self (by simp; omega)]
end
theorem at_len {α : Type} {l : List α} {k : Nat} {x : α} (h : l[k]? = some x) : k < l.length := (List.getElem?_eq_some_iff.1 h).1

theorem flat_put {α : Type} {esz : Nat} {enc : α → List AV} (he : ∀ a, (enc a).length = esz) (x : α) : ∀ (l : List α) (i : Nat), i < l.length →
    (l.flatMap enc).take (i * esz) ++ enc x ++ (l.flatMap enc).drop (i * esz + esz) = (l.set i x).flatMap enc
  | [], i, h => by simp at h
  | a :: l, 0, h => by
    have : (a :: l).flatMap enc = enc a ++ l.flatMap enc := rfl
    rw [this, Nat.zero_mul, Nat.zero_add, List.take_zero, List.drop_left' (he a)]
    rfl
  | a :: l, i + 1, h => by
    have ih := flat_put he x l i (by simpa using h)
    have e : (i + 1) * esz = (enc a).length + i * esz := by rw [he, Nat.succ_mul]; omega
    have e2 : (i + 1) * esz + esz = (enc a).length + (i * esz + esz) := by omega
    show ((enc a ++ l.flatMap enc).take ((i + 1) * esz)) ++ enc x ++ (enc a ++ l.flatMap enc).drop ((i + 1) * esz + esz) = enc a ++ (l.set i x).flatMap enc
    rw [e2, e, List.take_append, List.drop_append, List.take_of_length_le (by omega), List.drop_eq_nil_of_le (by omega), Nat.add_sub_cancel_left, Nat.add_sub_cancel_left, ← ih]
    simp

def heavy (n : Net) (k : Nat) (x : Int) : Net := { n with ancs := n.ancs.set k ⟨(n.ancs.getD k default).w + x, (n.ancs.getD k default).b⟩ }

theorem s59 {n : Net} {g a w : AV} (H : NetOk n g a w) {k : Nat} (hk : k < n.ancs.length) {x : Int} (hb : -1000 ≤ (n.ancs.getD k default).w ∧ (n.ancs.getD k default).w ≤ 1000) (hx : -1000 ≤ x ∧ x ≤ 1000) (st : Bool) :
    Iso E 59 [netV n g a w, I k, I x] st = some (netC (heavy n k x)) := by
  have sg := H.sg; have sa := H.sa; have sw := H.sw
  refine Iso_of (es _ _ _ _) e59 ?_
  simp only [f59, netV]
  obtain ⟨og, oa, ow, K, q, C, lg, la, lw⟩ := call17 H [.cells [I n.wind.lo, I n.wind.hi, I n.cur.lo, I n.cur.hi, g, a, w] false, .cells [I 0, I 0, I 0, I 0, .nils, .nils, .nils] false]
  simp (disch := first | assumption | omega | (simp only [az]; done)) only [ru, eq_self, if_true, if_false, BEq.rfl, binI, AO.row?, splice, fillL, mmAll, loadV, storeV, zeros, Am.rowAt, Am.part, addOff, Nat.reduceAdd, Nat.reduceMul, Nat.reduceLeDiff, Nat.reduceSub, Nat.reduceLT, Int.reduceEq, Int.reduceLT, Int.reduceLE, Int.reduceGT, Int.reduceGE, Int.reduceAdd, Int.reduceSub, Int.reduceMul, Int.reduceNeg, Int.reduceToNat, reduceCtorEq, reduceIte, lenV_sl H.g, lenV_sl H.a, lenV_sl H.w, elem_sl Spn.el H.g, elem_sl Anc.el H.a, elem_sl Wal.el H.w, view_sl H.g, view_sl H.a, view_sl H.w, scalar_sl H.g, scalar_sl H.a, scalar_sl H.w, cells_sl H.g, cells_sl H.a, cells_sl H.w, pure_sl H.g, pure_sl H.a, pure_sl H.w, Spn.e, Anc.e, Wal.e, Spn.eta, Anc.eta, Wal.eta, Int.toNat_natCast]
  rw [q rfl]
  obtain ⟨Hp, hHp⟩ : ∃ Hp, Hp = [.cells [I n.wind.lo, I n.wind.hi, I n.cur.lo, I n.cur.hi, g, a, w] false, .cells [I 0, I 0, I 0, I 0, .nils, .nils, .nils] false] ++ K := ⟨_, rfl⟩
  have f1 : Hp[1]? = some (.cells [I 0, I 0, I 0, I 0, .nils, .nils, .nils] false) := by rw [hHp]; rfl
  rw [← hHp] at C ⊢
  have fg := C.g; have fa := C.a; have fw := C.w
  have ng := at_len fg; have na := at_len fa; have nw := at_len fw; have n1 := at_len f1
  have hrow : ((n.ancs.flatMap Anc.e).drop (k * 2)).take 2 = [I (n.ancs.getD k default).w, I (n.ancs.getD k default).b] := by
    rw [flat_at Anc.el n.ancs k hk]; simp [Anc.e, List.getD_eq_getElem?_getD, hk]
  have hlen : k * 2 + 2 ≤ (n.ancs.flatMap Anc.e).length := by rw [flat_len Anc.el]; omega
  have h0 : (0 : Int) ≤ k := by omega
  have hk' : (k : Int) < n.ancs.length := by omega
  obtain ⟨v, hv⟩ : ∃ v, v = n.ancs.getD k default := ⟨_, rfl⟩
  have hput := flat_put Anc.el ⟨v.w + x, v.b⟩ n.ancs k hk
  rw [← hv] at hb hrow
  simp only [Anc.e] at hput
  clear hHp q
  have m1 : oa ≠ Hp.length := by omega
  simp only [len0, lenS] at lg la lw
  have m2 : oa ≠ 1 := by omega
  have m3 : 1 ≠ oa := by omega
  have m4 : 1 ≠ og := by omega
  have m5 : 1 ≠ ow := by omega
  have m6 := C.ga.symm
  have m7 := C.aw
  have tg := flat_take (l := n.grips) Spn.el
  have tw := flat_take (l := n.walls) Wal.el
  have ta := flat_take (l := n.ancs.set k ⟨v.w + x, v.b⟩) Anc.el
  have ea := flat_len Anc.el (n.ancs.set k ⟨v.w + x, v.b⟩)
  have el : (n.ancs.set k ⟨v.w + x, v.b⟩).length = n.ancs.length := List.length_set
  rw [el] at ta ea
  simp (disch := first | assumption | omega | (simp only [az]; done)) only [ru, eq_self, if_true, if_false, BEq.rfl, binI, AO.row?, splice, fillL, mmAll, loadV, storeV, zeros, Am.rowAt, Am.part, addOff, Nat.reduceAdd, Nat.reduceMul, Nat.reduceLeDiff, Nat.reduceSub, Nat.reduceLT, Int.reduceEq, Int.reduceLT, Int.reduceLE, Int.reduceGT, Int.reduceGE, Int.reduceAdd, Int.reduceSub, Int.reduceMul, Int.reduceNeg, Int.reduceToNat, reduceCtorEq, reduceIte, at_lt1, at_lt2, at_ne, at_set2, at_set22, f1, fg, fw, fa, hrow, hlen, hk', Int.toNat_natCast, ceMs, scMs, hput, finC, getRes, Option.some.injEq, exists_eq_left', tg, tw, ta, ea, flat_len Spn.el, flat_len Wal.el, flat_view Spn.iv, flat_view Anc.iv, flat_view Wal.iv]
  simp only [netC, heavy, slV, List.length_set, hv]
end Go.Proofs.Ytpflneddfhifkaa.S
