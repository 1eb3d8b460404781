/-
The mathematics and the functions, one after another (S2).
-/
import Derived.Test.YtekoplcnlhanbaaS1

/-
The best orders: as the specification lists them; Least, Order, First, Done.
-/
namespace Go.Proofs.Ytekoplcnlhanbaa.S
open Go Go.Am Go.Proofs.Ytekoplcnlhanbaa.T
set_option maxRecDepth 100000
set_option linter.unusedSimpArgs false
set_option linter.unusedVariables false

section
variable {α : Type}
end
section
variable {n : Net} {g p : AV}
def leaR (n : Net) : AV := if n.valid then .tup [I (lea n), I 0] else .tup [I 0, I 40]
def donR (n : Net) : AV := if n.valid then .tup [I (don n), I 0] else .tup [I 0, I 40]
theorem valid_ne {n : Net} (h : n.valid = true) : NetG n ∧ ords n ≠ [] := by
  obtain ⟨G, _, _, l, O⟩ := valid_ok h
  exact ⟨G, ords_ne O⟩
end
end Go.Proofs.Ytekoplcnlhanbaa.S

/-
Rule and Over: as the specification has them.
-/
namespace Go.Proofs.Ytekoplcnlhanbaa.S
open Go Go.Am Go.Proofs.Ytekoplcnlhanbaa.T
set_option maxRecDepth 100000
set_option linter.unusedSimpArgs false
set_option linter.unusedVariables false

section
variable {n : Net} {g p : AV}
end
end Go.Proofs.Ytekoplcnlhanbaa.S

/-
Regret and Calm: as the specification has them.
-/
namespace Go.Proofs.Ytekoplcnlhanbaa.S
open Go Go.Am Go.Proofs.Ytekoplcnlhanbaa.T
set_option maxRecDepth 100000
set_option linter.unusedSimpArgs false
set_option linter.unusedVariables false

section
variable {n : Net} {g p : AV} {l : List Int} {v : AV}
/-- the place and the number of the least so far -/
def LI {α : Type} (f : α → Int) (d : α) (L : List α) (k a : Nat) : Prop := a < L.length ∧ (k = 0 → a = 0) ∧ (0 < k → lst f (L.take k) = some (f (L.getD a d), L.getD a d))
theorem LI.done {α : Type} [Inhabited α] {f : α → Int} {d : α} {L : List α} {a : Nat} (H : LI f d L L.length a) : lstW f L = L.getD a d ∧ lstN f L = f (L.getD a d) := by
  have h := H.2.2 (by have := H.1; omega)
  rw [List.take_length] at h
  simp only [lstW, lstN, h, and_self]
end
end Go.Proofs.Ytekoplcnlhanbaa.S

/-
The program's checks of holes and pairs; the holes that can come next.
-/
namespace Go.Proofs.Ytekoplcnlhanbaa.S
open Go Go.Am Go.Proofs.Ytekoplcnlhanbaa.T
set_option maxRecDepth 100000
set_option linter.unusedSimpArgs false
set_option linter.unusedVariables false

theorem RdB.more {b : Nat} {h : List AO} {v : AV} {l : List Int} (H : RdB b h v l) (hl : l.length ≤ 1000) {lim : Nat} (y : Int) : ∃ m, slice3V 1 v (I l.length) (I l.length) = some m ∧
    appG true lim h.length 1 8 (h ++ [.tomb]) m (.cs 1 1 [I y]) = some (.ms 1 h.length 0 (l.length + 1), h ++ [.cells ((l ++ [y]).flatMap fun n => [I n]) false]) := by
  rcases H with ⟨rfl, rfl⟩ | ⟨hne, o, sh, hb, rfl, hc⟩
  · refine ⟨.nils, rfl, ?_⟩
    rw [appG_nil (n := 1) (xs := [I y]) (by omega) rfl rfl rfl rfl (by omega) (by omega), setT0]
    rfl
  · refine ⟨.mc 1 o 0 l.length, slice3_ms, ?_⟩
    have ol := (List.getElem?_eq_some_iff.1 hc).1
    have hr : Am.rowAt (h ++ [AO.tomb]) o = some (l.flatMap fun n => [I n]) := by
      simp only [Am.rowAt, at_ap ol, hc, Option.bind_some, AO.row?]
    have hlen : (l.flatMap fun n => [I n]).length = l.length := flat1 l
    have c1 : (l.length + 1) * 8 ≤ 140737488355328 := by omega
    have e1 : lenOf (.mc 1 o 0 l.length) = some l.length := rfl
    have e2 : lenOf (.cs 1 1 [I y]) = some 1 := rfl
    have e3 : Am.rowOf (h ++ [AO.tomb]) (.cs 1 1 [I y]) = some [I y] := rfl
    have e4 : l.length * 1 ≤ (l.flatMap fun n => [I n]).length := by omega
    have e5 : (l.flatMap fun n => [I n]).take (l.length * 1) = l.flatMap fun n => [I n] := List.take_of_length_le (by omega)
    simp only [appG, exOp, e1, e2, e3, List.length_singleton, Nat.one_mul, Nat.one_ne_zero, if_true, if_false, c1, Nat.le_refl, true_and, List.all_cons, List.all_nil, AV.scalar, Bool.and_true, hr, e4, e5, and_self, newObj', Option.getD_some, setT0, set0, List.flatMap_append]
    rfl
/-- an append to a list that is being made, in a heap of which not all is known -/
theorem outE_ap {α : Type} {enc : α → List AV} {esz eb : Nat} (he : ∀ a, (enc a).length = esz) (hs : ∀ a, (enc a).all AV.scalar = true) (h1 : 1 ≤ esz) (heb : 1 ≤ eb) (hb : eb ≤ 1000) {b : Nat} {h : List AO} {v : AV} {l : List α} {lim : Nat} (H : OutE enc esz b h v l) (hbl : b ≤ h.length) (hlim : lim ≤ b) (hl : l.length ≤ 1000000) (x : α) :
    ∃ v' h', appV lim h esz eb v (.cs esz 1 (enc x)) = some (v', h') ∧ OutE enc esz b h' v' (l ++ [x]) ∧ b ≤ h'.length ∧ ∀ j, j < b → h'[j]? = h[j]? := by
  have hp : (h.take b).length = b := by rw [List.length_take]; omega
  have e : h.take b ++ h.drop b = h := List.take_append_drop b h
  have H' : OutE enc esz (h.take b).length (h.take b ++ h.drop b) v l := by rw [hp, e]; exact H
  obtain ⟨v', J', ha, ho⟩ := outE_app he hs h1 heb hb H' (by rw [hp]; exact hlim) hl x
  rw [e] at ha
  rw [hp] at ho
  refine ⟨v', h.take b ++ J', ha, ho, by rw [List.length_append, hp]; omega, fun j hj => ?_⟩
  rw [List.getElem?_append_left (by omega), List.getElem?_take, if_pos hj]
theorem OutE.fr {α : Type} {enc : α → List AV} {esz b : Nat} {h h' : List AO} {v : AV} {l : List α} (H : OutE enc esz b h v l) (F : Fr h h') : OutE enc esz b h' v l := by
  rcases H with h1 | ⟨hne, o, hb, e, hc⟩
  · exact .inl h1
  · exact .inr ⟨hne, o, hb, e, F.at hc⟩
def holO (x : Hl) : Bool := inR x.f 0 20 && inR x.h 1 9 && inR x.lo 0 x.hi && decide (x.hi ≤ 20)
theorem holO_eq (x : Hl) : holO x = holOk x := by
  rw [Bool.eq_iff_iff]
  simp only [holO, holOk, Bool.and_eq_true, inR_iff, decide_eq_true_eq]
  omega
theorem s86 (x : Hl) (h : List AO) : Ro E 86 [.agg [I x.f, I x.lo, I x.hi, I x.h]] h = some (Bo (holO x)) := by
  refine Ro_of (es _ _ _ _) e86 ?_
  simp only [f86, holO]
  cases h1 : inR x.f 0 20
  · simp (disch := first | assumption | omega | (simp only [az]; done)) only [ru, eq_self, if_true, if_false, BEq.rfl, binI, AO.row?, splice, fillL, mmAll, loadV, storeV, zeros, Am.rowAt, Am.part, addOff, Nat.reduceAdd, Nat.reduceMul, Nat.reduceLeDiff, Nat.reduceSub, Nat.reduceLT, Int.reduceEq, Int.reduceLT, Int.reduceLE, Int.reduceGT, Int.reduceGE, Int.reduceAdd, Int.reduceSub, Int.reduceMul, Int.reduceNeg, Int.reduceToNat, reduceCtorEq, reduceIte, s87, atE, lenE, h1, gUn, Bool.false_and]
    rfl
  cases h2 : inR x.h 1 9
  · simp (disch := first | assumption | omega | (simp only [az]; done)) only [ru, eq_self, if_true, if_false, BEq.rfl, binI, AO.row?, splice, fillL, mmAll, loadV, storeV, zeros, Am.rowAt, Am.part, addOff, Nat.reduceAdd, Nat.reduceMul, Nat.reduceLeDiff, Nat.reduceSub, Nat.reduceLT, Int.reduceEq, Int.reduceLT, Int.reduceLE, Int.reduceGT, Int.reduceGE, Int.reduceAdd, Int.reduceSub, Int.reduceMul, Int.reduceNeg, Int.reduceToNat, reduceCtorEq, reduceIte, s87, atE, lenE, h1, h2, gUn, Bool.false_and, Bool.and_false]
    rfl
  cases h3 : inR x.lo 0 x.hi
  · simp (disch := first | assumption | omega | (simp only [az]; done)) only [ru, eq_self, if_true, if_false, BEq.rfl, binI, AO.row?, splice, fillL, mmAll, loadV, storeV, zeros, Am.rowAt, Am.part, addOff, Nat.reduceAdd, Nat.reduceMul, Nat.reduceLeDiff, Nat.reduceSub, Nat.reduceLT, Int.reduceEq, Int.reduceLT, Int.reduceLE, Int.reduceGT, Int.reduceGE, Int.reduceAdd, Int.reduceSub, Int.reduceMul, Int.reduceNeg, Int.reduceToNat, reduceCtorEq, reduceIte, s87, atE, lenE, h1, h2, h3, gUn, Bool.false_and, Bool.and_false]
    rfl
  simp (disch := first | assumption | omega | (simp only [az]; done)) only [ru, eq_self, if_true, if_false, BEq.rfl, binI, AO.row?, splice, fillL, mmAll, loadV, storeV, zeros, Am.rowAt, Am.part, addOff, Nat.reduceAdd, Nat.reduceMul, Nat.reduceLeDiff, Nat.reduceSub, Nat.reduceLT, Int.reduceEq, Int.reduceLT, Int.reduceLE, Int.reduceGT, Int.reduceGE, Int.reduceAdd, Int.reduceSub, Int.reduceMul, Int.reduceNeg, Int.reduceToNat, reduceCtorEq, reduceIte, s87, atE, lenE, h1, h2, h3, gUn, Bool.true_and, Bool.and_self]
  rfl
theorem s105 (x : Hl) {o : Nat} {h : List AO} (ho : h[o]? = some (.cells [.fn 86 [] []] false)) : Ro E 105 [.agg [I x.f, I x.lo, I x.hi, I x.h], .ptr o 0] h = some (Bo (!holO x)) := by
  have ol := (List.getElem?_eq_some_iff.1 ho).1
  refine Ro_of (es _ _ _ _) e105 ?_
  simp only [f105]
  have e : (h ++ [AO.cells [I x.f, I x.lo, I x.hi, I x.h] false])[o]? = some (.cells [.fn 86 [] []] false) := by rw [List.getElem?_append_left ol]; exact ho
  have := s86 x (h ++ [AO.cells [I x.f, I x.lo, I x.hi, I x.h] false])
  simp (disch := first | assumption | omega | (simp only [az]; done)) only [ru, eq_self, if_true, if_false, BEq.rfl, binI, AO.row?, splice, fillL, mmAll, loadV, storeV, zeros, Am.rowAt, Am.part, addOff, Nat.reduceAdd, Nat.reduceMul, Nat.reduceLeDiff, Nat.reduceSub, Nat.reduceLT, Int.reduceEq, Int.reduceLT, Int.reduceLE, Int.reduceGT, Int.reduceGE, Int.reduceAdd, Int.reduceSub, Int.reduceMul, Int.reduceNeg, Int.reduceToNat, reduceCtorEq, reduceIte, atE, lenE, e, exOp_callv1, this]
  rfl
section
variable {n : Net} {g p : AV}
theorem s88 (H : NetOk n g p) (x : Pr) {o : Nat} {h : List AO} (ho : h[o]? = some (.cells [I n.m, g, p] false)) : Ro E 88 [.agg [I x.a, I x.b], .ptr o 0] h = some (Bo (parOk n x)) := by
  have ol := (List.getElem?_eq_some_iff.1 ho).1
  have c1 := fun i st => s74 H i st
  simp only [netV] at c1
  refine Ro_of (es _ _ _ _) e88 ?_
  simp only [f88, parOk]
  have e : (h ++ [AO.cells [I x.a, I x.b] false])[o]? = some (.cells [I n.m, g, p] false) := by rw [List.getElem?_append_left ol]; exact ho
  cases h1 : inR x.a 0 (n.hs.length - 1)
  · simp (disch := first | assumption | omega | (simp only [az]; done)) only [ru, eq_self, if_true, if_false, BEq.rfl, binI, AO.row?, splice, fillL, mmAll, loadV, storeV, zeros, Am.rowAt, Am.part, addOff, Nat.reduceAdd, Nat.reduceMul, Nat.reduceLeDiff, Nat.reduceSub, Nat.reduceLT, Int.reduceEq, Int.reduceLT, Int.reduceLE, Int.reduceGT, Int.reduceGE, Int.reduceAdd, Int.reduceSub, Int.reduceMul, Int.reduceNeg, Int.reduceToNat, reduceCtorEq, reduceIte, lenV_sl H.g, view_sl H.g, scalar_sl H.g, cells_sl H.g, pure_sl H.g, lenV_sl H.p, view_sl H.p, scalar_sl H.p, cells_sl H.p, pure_sl H.p, c1, atE, lenE, e, h1, gUn, Bool.false_and]
    rfl
  simp (disch := first | assumption | omega | (simp only [az]; done)) only [ru, eq_self, if_true, if_false, BEq.rfl, binI, AO.row?, splice, fillL, mmAll, loadV, storeV, zeros, Am.rowAt, Am.part, addOff, Nat.reduceAdd, Nat.reduceMul, Nat.reduceLeDiff, Nat.reduceSub, Nat.reduceLT, Int.reduceEq, Int.reduceLT, Int.reduceLE, Int.reduceGT, Int.reduceGE, Int.reduceAdd, Int.reduceSub, Int.reduceMul, Int.reduceNeg, Int.reduceToNat, reduceCtorEq, reduceIte, lenV_sl H.g, view_sl H.g, scalar_sl H.g, cells_sl H.g, pure_sl H.g, lenV_sl H.p, view_sl H.p, scalar_sl H.p, cells_sl H.p, pure_sl H.p, c1, atE, lenE, e, h1, gUn, Bool.true_and]
  rfl
theorem s107 (H : NetOk n g p) (x : Pr) {o o2 : Nat} {h : List AO} (ho2 : h[o2]? = some (.cells [.fn 88 [] [.ptr o 0]] false)) (ho : h[o]? = some (.cells [I n.m, g, p] false)) : Ro E 107 [.agg [I x.a, I x.b], .ptr o2 0] h = some (Bo (!parOk n x)) := by
  have ol := (List.getElem?_eq_some_iff.1 ho).1
  have ol2 := (List.getElem?_eq_some_iff.1 ho2).1
  refine Ro_of (es _ _ _ _) e107 ?_
  simp only [f107]
  have e2 : (h ++ [AO.cells [I x.a, I x.b] false])[o2]? = some (.cells [.fn 88 [] [.ptr o 0]] false) := by rw [List.getElem?_append_left ol2]; exact ho2
  have e : (h ++ [AO.cells [I x.a, I x.b] false])[o]? = some (.cells [I n.m, g, p] false) := by rw [List.getElem?_append_left ol]; exact ho
  have := s88 H x e
  simp (disch := first | assumption | omega | (simp only [az]; done)) only [ru, eq_self, if_true, if_false, BEq.rfl, binI, AO.row?, splice, fillL, mmAll, loadV, storeV, zeros, Am.rowAt, Am.part, addOff, Nat.reduceAdd, Nat.reduceMul, Nat.reduceLeDiff, Nat.reduceSub, Nat.reduceLT, Int.reduceEq, Int.reduceLT, Int.reduceLE, Int.reduceGT, Int.reduceGE, Int.reduceAdd, Int.reduceSub, Int.reduceMul, Int.reduceNeg, Int.reduceToNat, reduceCtorEq, reduceIte, atE, lenE, e2, exOp_callv1, List.nil_append, List.cons_append, this]
  rfl
end
theorem any_upto_succ {α : Type} [Inhabited α] {l : List α} {q : α → Bool} {i : Nat} (hi : i < l.length) (h : (l.take i).any q = false) (hq : q (l.getD i default) = false) : (l.take (i + 1)).any q = false := by
  rw [take_snoc (d := default) hi, List.any_append, h, List.any_cons, hq]; rfl
theorem any_at {α : Type} [Inhabited α] {l : List α} {q : α → Bool} {i : Nat} (hi : i < l.length) (hq : q (l.getD i default) = true) : l.any q = true := List.any_eq_true.2 ⟨_, getD_mem hi, hq⟩
set_option maxHeartbeats 1000000 in
theorem s112 {L : List Hl} {v : AV} (H : IsSl 4 Hl.e L v) (hl : L.length ≤ 41) {q : Hl → Bool} {k : Nat} {cap : List AV} {h : List AO} (hq : ∀ x : Hl, Ro E k (.agg [I x.f, I x.lo, I x.hi, I x.h] :: cap) h = some (Bo (q x))) :
    ∃ j : Int, Ro E 112 [v, .fn k [] cap] h = some (I j) ∧ decide (j ≥ 0) = L.any q := by
  refine (fun x => ?_ : (∃ w, Ro E 112 [v, .fn k [] cap] h = some w ∧ ∃ j : Int, w = I j ∧ decide (j ≥ 0) = L.any q) → _) (Ro_ex (fun r => ∃ j : Int, r = I j ∧ decide (j ≥ 0) = L.any q) (by rintro _ ⟨j, rfl, _⟩; rfl) (es _ _ _ _) e112 ?_)
  · obtain ⟨w, hv, j, rfl, hj⟩ := x; exact ⟨j, hv, hj⟩
  have ep := elem_hl H
  simp only [f112]
  simp (disch := first | assumption | omega | (simp only [az]; done)) only [ru, eq_self, if_true, if_false, BEq.rfl, binI, AO.row?, splice, fillL, mmAll, loadV, storeV, zeros, Am.rowAt, Am.part, addOff, Nat.reduceAdd, Nat.reduceMul, Nat.reduceLeDiff, Nat.reduceSub, Nat.reduceLT, Int.reduceEq, Int.reduceLT, Int.reduceLE, Int.reduceGT, Int.reduceGE, Int.reduceAdd, Int.reduceSub, Int.reduceMul, Int.reduceNeg, Int.reduceToNat, reduceCtorEq, reduceIte, lenV_sl H]
  refine G_loop_ind (fun m ts hh mk => ∃ i : Nat, i ≤ L.length ∧ m = L.length - i ∧ (L.take i).any q = false ∧ ts.length = 19 ∧ ts.getD 0 .undef = v ∧ ts.getD 1 .undef = .fn k [] cap ∧ ts.getD 7 .undef = I L.length ∧ ts.getD 8 .undef = I i ∧ hh = h ∧ mk = []) ?_ _ _ _ _
    ⟨0, Nat.zero_le _, rfl, rfl, rfl, rfl, rfl, rfl, rfl, rfl, rfl⟩
  rintro m ts hh mk ih ⟨i, hi, rfl, hall, hl', q0, q1, q7, q8, rfl, rfl⟩
  rw [lit_all hl']
  simp only [lit0, litS, Nat.reduceAdd, q0, q1, q7, q8]
  simp (disch := first | assumption | omega | (simp only [az]; done)) only [ru, eq_self, if_true, if_false, BEq.rfl, binI, AO.row?, splice, fillL, mmAll, loadV, storeV, zeros, Am.rowAt, Am.part, addOff, Nat.reduceAdd, Nat.reduceMul, Nat.reduceLeDiff, Nat.reduceSub, Nat.reduceLT, Int.reduceEq, Int.reduceLT, Int.reduceLE, Int.reduceGT, Int.reduceGE, Int.reduceAdd, Int.reduceSub, Int.reduceMul, Int.reduceNeg, Int.reduceToNat, reduceCtorEq, reduceIte]
  by_cases hlt : (i : Int) < L.length
  case pos =>
    have hi' : i < L.length := by omega
    have nx := any_upto_succ hi' hall
    have ya := any_at (q := q) hi'
    obtain ⟨x, hx⟩ : ∃ x, x = L.getD i default := ⟨_, rfl⟩
    have hr := hq x
    rw [← hx] at nx ya
    cases hc : q x
    · rw [hc] at hr
      simp (disch := first | assumption | omega | (simp only [az]; done)) only [ru, eq_self, if_true, if_false, BEq.rfl, binI, AO.row?, splice, fillL, mmAll, loadV, storeV, zeros, Am.rowAt, Am.part, addOff, Nat.reduceAdd, Nat.reduceMul, Nat.reduceLeDiff, Nat.reduceSub, Nat.reduceLT, Int.reduceEq, Int.reduceLT, Int.reduceLE, Int.reduceGT, Int.reduceGE, Int.reduceAdd, Int.reduceSub, Int.reduceMul, Int.reduceNeg, Int.reduceToNat, reduceCtorEq, reduceIte, hlt, ep, Int.toNat_natCast, ← hx, exOp_callv1, List.nil_append, List.cons_append, hr]
      exact ih (L.length - (i + 1)) _ _ _ (by omega) ⟨i + 1, by omega, rfl, nx hc, rfl, rfl, rfl, rfl, rfl, rfl, rfl⟩
    · rw [hc] at hr
      simp (disch := first | assumption | omega | (simp only [az]; done)) only [ru, eq_self, if_true, if_false, BEq.rfl, binI, AO.row?, splice, fillL, mmAll, loadV, storeV, zeros, Am.rowAt, Am.part, addOff, Nat.reduceAdd, Nat.reduceMul, Nat.reduceLeDiff, Nat.reduceSub, Nat.reduceLT, Int.reduceEq, Int.reduceLT, Int.reduceLE, Int.reduceGT, Int.reduceGE, Int.reduceAdd, Int.reduceSub, Int.reduceMul, Int.reduceNeg, Int.reduceToNat, reduceCtorEq, reduceIte, hlt, ep, Int.toNat_natCast, ← hx, exOp_callv1, List.nil_append, List.cons_append, hr]
      exact ⟨i, rfl, by rw [ya hc]; simp⟩
  obtain rfl : i = L.length := by omega
  rw [List.take_length] at hall
  simp (disch := first | assumption | omega | (simp only [az]; done)) only [ru, eq_self, if_true, if_false, BEq.rfl, binI, AO.row?, splice, fillL, mmAll, loadV, storeV, zeros, Am.rowAt, Am.part, addOff, Nat.reduceAdd, Nat.reduceMul, Nat.reduceLeDiff, Nat.reduceSub, Nat.reduceLT, Int.reduceEq, Int.reduceLT, Int.reduceLE, Int.reduceGT, Int.reduceGE, Int.reduceAdd, Int.reduceSub, Int.reduceMul, Int.reduceNeg, Int.reduceToNat, reduceCtorEq, reduceIte, hlt]
  exact ⟨-1, rfl, by rw [hall]; decide⟩
set_option maxHeartbeats 1000000 in
theorem s113 {L : List Pr} {v : AV} (H : IsSl 2 Pr.e L v) (hl : L.length ≤ 41) {q : Pr → Bool} {k : Nat} {cap : List AV} {h : List AO} (hq : ∀ x : Pr, Ro E k (.agg [I x.a, I x.b] :: cap) h = some (Bo (q x))) :
    ∃ j : Int, Ro E 113 [v, .fn k [] cap] h = some (I j) ∧ decide (j ≥ 0) = L.any q := by
  refine (fun x => ?_ : (∃ w, Ro E 113 [v, .fn k [] cap] h = some w ∧ ∃ j : Int, w = I j ∧ decide (j ≥ 0) = L.any q) → _) (Ro_ex (fun r => ∃ j : Int, r = I j ∧ decide (j ≥ 0) = L.any q) (by rintro _ ⟨j, rfl, _⟩; rfl) (es _ _ _ _) e113 ?_)
  · obtain ⟨w, hv, j, rfl, hj⟩ := x; exact ⟨j, hv, hj⟩
  have ep := elem_pr H
  simp only [f113]
  simp (disch := first | assumption | omega | (simp only [az]; done)) only [ru, eq_self, if_true, if_false, BEq.rfl, binI, AO.row?, splice, fillL, mmAll, loadV, storeV, zeros, Am.rowAt, Am.part, addOff, Nat.reduceAdd, Nat.reduceMul, Nat.reduceLeDiff, Nat.reduceSub, Nat.reduceLT, Int.reduceEq, Int.reduceLT, Int.reduceLE, Int.reduceGT, Int.reduceGE, Int.reduceAdd, Int.reduceSub, Int.reduceMul, Int.reduceNeg, Int.reduceToNat, reduceCtorEq, reduceIte, lenV_sl H]
  refine G_loop_ind (fun m ts hh mk => ∃ i : Nat, i ≤ L.length ∧ m = L.length - i ∧ (L.take i).any q = false ∧ ts.length = 19 ∧ ts.getD 0 .undef = v ∧ ts.getD 1 .undef = .fn k [] cap ∧ ts.getD 7 .undef = I L.length ∧ ts.getD 8 .undef = I i ∧ hh = h ∧ mk = []) ?_ _ _ _ _
    ⟨0, Nat.zero_le _, rfl, rfl, rfl, rfl, rfl, rfl, rfl, rfl, rfl⟩
  rintro m ts hh mk ih ⟨i, hi, rfl, hall, hl', q0, q1, q7, q8, rfl, rfl⟩
  rw [lit_all hl']
  simp only [lit0, litS, Nat.reduceAdd, q0, q1, q7, q8]
  simp (disch := first | assumption | omega | (simp only [az]; done)) only [ru, eq_self, if_true, if_false, BEq.rfl, binI, AO.row?, splice, fillL, mmAll, loadV, storeV, zeros, Am.rowAt, Am.part, addOff, Nat.reduceAdd, Nat.reduceMul, Nat.reduceLeDiff, Nat.reduceSub, Nat.reduceLT, Int.reduceEq, Int.reduceLT, Int.reduceLE, Int.reduceGT, Int.reduceGE, Int.reduceAdd, Int.reduceSub, Int.reduceMul, Int.reduceNeg, Int.reduceToNat, reduceCtorEq, reduceIte]
  by_cases hlt : (i : Int) < L.length
  case pos =>
    have hi' : i < L.length := by omega
    have nx := any_upto_succ hi' hall
    have ya := any_at (q := q) hi'
    obtain ⟨x, hx⟩ : ∃ x, x = L.getD i default := ⟨_, rfl⟩
    have hr := hq x
    rw [← hx] at nx ya
    cases hc : q x
    · rw [hc] at hr
      simp (disch := first | assumption | omega | (simp only [az]; done)) only [ru, eq_self, if_true, if_false, BEq.rfl, binI, AO.row?, splice, fillL, mmAll, loadV, storeV, zeros, Am.rowAt, Am.part, addOff, Nat.reduceAdd, Nat.reduceMul, Nat.reduceLeDiff, Nat.reduceSub, Nat.reduceLT, Int.reduceEq, Int.reduceLT, Int.reduceLE, Int.reduceGT, Int.reduceGE, Int.reduceAdd, Int.reduceSub, Int.reduceMul, Int.reduceNeg, Int.reduceToNat, reduceCtorEq, reduceIte, hlt, ep, Int.toNat_natCast, ← hx, exOp_callv1, List.nil_append, List.cons_append, hr]
      exact ih (L.length - (i + 1)) _ _ _ (by omega) ⟨i + 1, by omega, rfl, nx hc, rfl, rfl, rfl, rfl, rfl, rfl, rfl⟩
    · rw [hc] at hr
      simp (disch := first | assumption | omega | (simp only [az]; done)) only [ru, eq_self, if_true, if_false, BEq.rfl, binI, AO.row?, splice, fillL, mmAll, loadV, storeV, zeros, Am.rowAt, Am.part, addOff, Nat.reduceAdd, Nat.reduceMul, Nat.reduceLeDiff, Nat.reduceSub, Nat.reduceLT, Int.reduceEq, Int.reduceLT, Int.reduceLE, Int.reduceGT, Int.reduceGE, Int.reduceAdd, Int.reduceSub, Int.reduceMul, Int.reduceNeg, Int.reduceToNat, reduceCtorEq, reduceIte, hlt, ep, Int.toNat_natCast, ← hx, exOp_callv1, List.nil_append, List.cons_append, hr]
      exact ⟨i, rfl, by rw [ya hc]; simp⟩
  obtain rfl : i = L.length := by omega
  rw [List.take_length] at hall
  simp (disch := first | assumption | omega | (simp only [az]; done)) only [ru, eq_self, if_true, if_false, BEq.rfl, binI, AO.row?, splice, fillL, mmAll, loadV, storeV, zeros, Am.rowAt, Am.part, addOff, Nat.reduceAdd, Nat.reduceMul, Nat.reduceLeDiff, Nat.reduceSub, Nat.reduceLT, Int.reduceEq, Int.reduceLT, Int.reduceLE, Int.reduceGT, Int.reduceGE, Int.reduceAdd, Int.reduceSub, Int.reduceMul, Int.reduceNeg, Int.reduceToNat, reduceCtorEq, reduceIte, hlt]
  exact ⟨-1, rfl, by rw [hall]; decide⟩
theorem s104 {L : List Hl} {v : AV} (H : IsSl 4 Hl.e L v) (hl : L.length ≤ 41) {q : Hl → Bool} {k : Nat} {cap : List AV} {h : List AO} (hq : ∀ x : Hl, Ro E k (.agg [I x.f, I x.lo, I x.hi, I x.h] :: cap) h = some (Bo (q x))) : Ro E 104 [v, .fn k [] cap] h = some (Bo (L.any q)) := by
  obtain ⟨j, hr, hj⟩ := s112 H hl hq
  refine Ro_of (es _ _ _ _) e104 ?_
  simp only [f104]
  simp (disch := first | assumption | omega | (simp only [az]; done)) only [ru, eq_self, if_true, if_false, BEq.rfl, binI, AO.row?, splice, fillL, mmAll, loadV, storeV, zeros, Am.rowAt, Am.part, addOff, Nat.reduceAdd, Nat.reduceMul, Nat.reduceLeDiff, Nat.reduceSub, Nat.reduceLT, Int.reduceEq, Int.reduceLT, Int.reduceLE, Int.reduceGT, Int.reduceGE, Int.reduceAdd, Int.reduceSub, Int.reduceMul, Int.reduceNeg, Int.reduceToNat, reduceCtorEq, reduceIte, hr]
  rw [hj]; exact ⟨rfl, rfl⟩
theorem s106 {L : List Pr} {v : AV} (H : IsSl 2 Pr.e L v) (hl : L.length ≤ 41) {q : Pr → Bool} {k : Nat} {cap : List AV} {h : List AO} (hq : ∀ x : Pr, Ro E k (.agg [I x.a, I x.b] :: cap) h = some (Bo (q x))) : Ro E 106 [v, .fn k [] cap] h = some (Bo (L.any q)) := by
  obtain ⟨j, hr, hj⟩ := s113 H hl hq
  refine Ro_of (es _ _ _ _) e106 ?_
  simp only [f106]
  simp (disch := first | assumption | omega | (simp only [az]; done)) only [ru, eq_self, if_true, if_false, BEq.rfl, binI, AO.row?, splice, fillL, mmAll, loadV, storeV, zeros, Am.rowAt, Am.part, addOff, Nat.reduceAdd, Nat.reduceMul, Nat.reduceLeDiff, Nat.reduceSub, Nat.reduceLT, Int.reduceEq, Int.reduceLT, Int.reduceLE, Int.reduceGT, Int.reduceGE, Int.reduceAdd, Int.reduceSub, Int.reduceMul, Int.reduceNeg, Int.reduceToNat, reduceCtorEq, reduceIte, hr]
  rw [hj]; exact ⟨rfl, rfl⟩
theorem any_all {α : Type} {q : α → Bool} : ∀ {l : List α}, (!l.any fun x => !q x) = l.all q
  | [] => rfl
  | a :: l => by rw [List.any_cons, List.all_cons, Bool.not_or, Bool.not_not, any_all]
theorem s89 {L : List Hl} {v : AV} (H : IsSl 4 Hl.e L v) (hl : L.length ≤ 41) (st : Bool) : Iso E 89 [v, .fn 86 [] []] st = some (Bo (L.all holOk)) := by
  have hr := s104 H hl (q := fun x => !holO x) (k := 105) (cap := [.ptr 0 0]) (h := [.cells [.fn 86 [] []] false]) fun x => s105 x rfl
  have e : (!L.any fun x => !holO x) = L.all holOk := by rw [any_all]; congr 1; funext x; exact holO_eq x
  refine Iso_of (es _ _ _ _) e89 ?_
  simp only [f89]
  simp (disch := first | assumption | omega | (simp only [az]; done)) only [ru, eq_self, if_true, if_false, BEq.rfl, binI, AO.row?, splice, fillL, mmAll, loadV, storeV, zeros, Am.rowAt, Am.part, addOff, Nat.reduceAdd, Nat.reduceMul, Nat.reduceLeDiff, Nat.reduceSub, Nat.reduceLT, Int.reduceEq, Int.reduceLT, Int.reduceLE, Int.reduceGT, Int.reduceGE, Int.reduceAdd, Int.reduceSub, Int.reduceMul, Int.reduceNeg, Int.reduceToNat, reduceCtorEq, reduceIte, hr, e]
section
variable {n : Net} {g p : AV}
theorem s90 (H : NetOk n g p) {o : Nat} {h : List AO} (ho : h[o]? = some (.cells [I n.m, g, p] false)) : Ro E 90 [p, .fn 88 [] [.ptr o 0]] h = some (Bo (n.ps.all (parOk n))) := by
  have ol := (List.getElem?_eq_some_iff.1 ho).1
  have hr := s106 H.p H.sp (q := fun x => !parOk n x) (k := 107) (cap := [.ptr h.length 0]) (h := h ++ [.cells [.fn 88 [] [.ptr o 0]] false]) fun x => s107 H x atE (by rw [at_ap ol]; exact ho)
  have e : (!n.ps.any fun x => !parOk n x) = n.ps.all (parOk n) := any_all
  refine Ro_of (es _ _ _ _) e90 ?_
  simp only [f90]
  simp (disch := first | assumption | omega | (simp only [az]; done)) only [ru, eq_self, if_true, if_false, BEq.rfl, binI, AO.row?, splice, fillL, mmAll, loadV, storeV, zeros, Am.rowAt, Am.part, addOff, Nat.reduceAdd, Nat.reduceMul, Nat.reduceLeDiff, Nat.reduceSub, Nat.reduceLT, Int.reduceEq, Int.reduceLT, Int.reduceLE, Int.reduceGT, Int.reduceGE, Int.reduceAdd, Int.reduceSub, Int.reduceMul, Int.reduceNeg, Int.reduceToNat, reduceCtorEq, reduceIte, lenV_sl H.p, view_sl H.p, scalar_sl H.p, cells_sl H.p, pure_sl H.p, hr, e]
  rfl
/-- the holes that can come next -/
def nxt (n : Net) (F : List Int) : List Int := (ofN (List.range n.hs.length)).filter (may n.ps F)
theorem nxt_mem {F : List Int} {x : Int} : x ∈ nxt n F ↔ (0 ≤ x ∧ x < n.hs.length) ∧ may n.ps F x = true := by rw [nxt, List.mem_filter, mem_rng]
def wts (F : List Int) (i : Int) (x : Pr) : Bool := decide (x.b = i) && !decide (x.a ∈ F)
theorem may_eq {F : List Int} {i : Int} : may n.ps F i = (!decide (i ∈ F) && !n.ps.any (wts F i)) := by
  unfold may
  congr 1
  rw [Bool.eq_iff_iff]
  simp only [List.all_eq_true, Bool.or_eq_true, Bool.not_eq_true', decide_eq_false_iff_not, decide_eq_true_eq, List.any_eq_false, wts, Bool.and_eq_true, not_and, Bool.not_eq_true']
  constructor
  · intro h x hx e d
    rcases h x hx with h | h
    · exact h e
    · exact d h
  · intro h x hx
    by_cases e : x.b = i
    · by_cases d : x.a ∈ F
      · exact .inr d
      · exact absurd d (h x hx e)
    · exact .inl e
theorem s109 {F : List Int} {v : AV} (V : IsSl 1 intL F v) (hF : F.length ≤ 1000) (i : Int) (x : Pr) {o o2 : Nat} {h : List AO} (ho : h[o]? = some (.cells [I i] false)) (ho2 : h[o2]? = some (.cells [v] false)) : Ro E 109 [.agg [I x.a, I x.b], .ptr o 0, .ptr o2 0] h = some (Bo (wts F i x)) := by
  have ol := (List.getElem?_eq_some_iff.1 ho).1
  have ol2 := (List.getElem?_eq_some_iff.1 ho2).1
  have c1 := fun y st => s122 V hF y st
  refine Ro_of (es _ _ _ _) e109 ?_
  simp only [f109, wts]
  have e : (h ++ [AO.cells [I x.a, I x.b] false])[o]? = some (.cells [I i] false) := by rw [List.getElem?_append_left ol]; exact ho
  have e2 : (h ++ [AO.cells [I x.a, I x.b] false])[o2]? = some (.cells [v] false) := by rw [List.getElem?_append_left ol2]; exact ho2
  by_cases hb : x.b = i
  · subst hb
    simp (disch := first | assumption | omega | (simp only [az]; done)) only [ru, eq_self, if_true, if_false, BEq.rfl, binI, AO.row?, splice, fillL, mmAll, loadV, storeV, zeros, Am.rowAt, Am.part, addOff, Nat.reduceAdd, Nat.reduceMul, Nat.reduceLeDiff, Nat.reduceSub, Nat.reduceLT, Int.reduceEq, Int.reduceLT, Int.reduceLE, Int.reduceGT, Int.reduceGE, Int.reduceAdd, Int.reduceSub, Int.reduceMul, Int.reduceNeg, Int.reduceToNat, reduceCtorEq, reduceIte, lenV_sl V, view_sl V, scalar_sl V, cells_sl V, pure_sl V, c1, atE, lenE, e, e2, decide_true, gUn, Bool.true_and]
    rfl
  · simp (disch := first | assumption | omega | (simp only [az]; done)) only [ru, eq_self, if_true, if_false, BEq.rfl, binI, AO.row?, splice, fillL, mmAll, loadV, storeV, zeros, Am.rowAt, Am.part, addOff, Nat.reduceAdd, Nat.reduceMul, Nat.reduceLeDiff, Nat.reduceSub, Nat.reduceLT, Int.reduceEq, Int.reduceLT, Int.reduceLE, Int.reduceGT, Int.reduceGE, Int.reduceAdd, Int.reduceSub, Int.reduceMul, Int.reduceNeg, Int.reduceToNat, reduceCtorEq, reduceIte, lenV_sl V, view_sl V, scalar_sl V, cells_sl V, pure_sl V, c1, atE, lenE, e, e2, hb, decide_false, gUn, Bool.false_and]
    rfl
theorem nxt_take {F : List Int} {i : Nat} : (ofN (List.range (i + 1))).filter (may n.ps F) = (ofN (List.range i)).filter (may n.ps F) ++ (if may n.ps F (i : Int) then [(i : Int)] else []) := by
  rw [ofN_succ, List.filter_append]
  by_cases hq : may n.ps F (i : Int) = true
  · rw [if_pos hq, List.filter_cons_of_pos hq]; rfl
  · rw [if_neg hq, List.filter_cons_of_neg hq]; rfl
theorem nxt_len {F : List Int} {i : Nat} : ((ofN (List.range i)).filter (may n.ps F)).length ≤ i := Nat.le_trans (List.length_filter_le _ _) (by rw [rng_len]; exact Nat.le_refl _)
set_option maxHeartbeats 4000000 in
theorem s93 (H : NetOk n g p) {F : List Int} {v : AV} (V : IsSl 1 intL F v) (hF : F.length ≤ 1000) (st : Bool) : Iso E 93 [netV n g p, v] st = some (resL (nxt n F)) := by
  have sg := H.sg
  have c1 := fun y st => s122 V hF y st
  refine Iso_of (es _ _ _ _) e93 ?_
  simp only [f93, netV]
  simp (disch := first | assumption | omega | (simp only [az]; done)) only [ru, eq_self, if_true, if_false, BEq.rfl, binI, AO.row?, splice, fillL, mmAll, loadV, storeV, zeros, Am.rowAt, Am.part, addOff, Nat.reduceAdd, Nat.reduceMul, Nat.reduceLeDiff, Nat.reduceSub, Nat.reduceLT, Int.reduceEq, Int.reduceLT, Int.reduceLE, Int.reduceGT, Int.reduceGE, Int.reduceAdd, Int.reduceSub, Int.reduceMul, Int.reduceNeg, Int.reduceToNat, reduceCtorEq, reduceIte, lenV_sl H.g, view_sl H.g, scalar_sl H.g, cells_sl H.g, pure_sl H.g, lenV_sl H.p, view_sl H.p, scalar_sl H.p, cells_sl H.p, pure_sl H.p, lenV_sl V, view_sl V, scalar_sl V, cells_sl V, pure_sl V]
  refine G_loop_ind (fun m ts h mk => ∃ (i : Nat) (o : AV), i ≤ n.hs.length ∧ m = n.hs.length - i ∧ OutE intL 1 2 h o ((ofN (List.range i)).filter (may n.ps F)) ∧ h[0]? = some (.cells [I n.m, g, p] false) ∧ h[1]? = some (.cells [v] false) ∧ ts.length = 34 ∧ ts.getD 2 .undef = .ptr 0 0 ∧ ts.getD 3 .undef = .ptr 1 0 ∧ ts.getD 5 .undef = o ∧ ts.getD 11 .undef = I n.hs.length ∧ ts.getD 12 .undef = I i ∧ mk = []) ?_ _ _ _ _
    ⟨0, .nils, Nat.zero_le _, rfl, .inl ⟨rfl, rfl⟩, rfl, rfl, rfl, rfl, rfl, rfl, rfl, rfl, rfl⟩
  rintro m ts h mk ih ⟨i, o, hi, rfl, ho, h0, h1, hl', q2, q3, q5, q11, q12, rfl⟩
  rw [lit_all hl']
  simp only [lit0, litS, Nat.reduceAdd, q2, q3, q5, q11, q12]
  simp (disch := first | assumption | omega | (simp only [az]; done)) only [ru, eq_self, if_true, if_false, BEq.rfl, binI, AO.row?, splice, fillL, mmAll, loadV, storeV, zeros, Am.rowAt, Am.part, addOff, Nat.reduceAdd, Nat.reduceMul, Nat.reduceLeDiff, Nat.reduceSub, Nat.reduceLT, Int.reduceEq, Int.reduceLT, Int.reduceLE, Int.reduceGT, Int.reduceGE, Int.reduceAdd, Int.reduceSub, Int.reduceMul, Int.reduceNeg, Int.reduceToNat, reduceCtorEq, reduceIte]
  by_cases hlt : (i : Int) < n.hs.length
  case neg =>
    obtain rfl : i = n.hs.length := by omega
    have vw := ho.viewL (st := st) (k := 7)
    simp (disch := first | assumption | omega | (simp only [az]; done)) only [ru, eq_self, if_true, if_false, BEq.rfl, binI, AO.row?, splice, fillL, mmAll, loadV, storeV, zeros, Am.rowAt, Am.part, addOff, Nat.reduceAdd, Nat.reduceMul, Nat.reduceLeDiff, Nat.reduceSub, Nat.reduceLT, Int.reduceEq, Int.reduceLT, Int.reduceLE, Int.reduceGT, Int.reduceGE, Int.reduceAdd, Int.reduceSub, Int.reduceMul, Int.reduceNeg, Int.reduceToNat, reduceCtorEq, reduceIte, hlt, vw]
    rfl
  have n0 := (List.getElem?_eq_some_iff.1 h0).1
  have n1 := (List.getElem?_eq_some_iff.1 h1).1
  have fr := Fr.app h [AO.cells [I (i : Int)] false]
  have cl := nxt_len (n := n) (F := F) (i := i)
  have stp := nxt_take (n := n) (F := F) (i := i)
  have hr := s106 H.p H.sp (q := wts F i) (k := 109) (cap := [.ptr h.length 0, .ptr 1 0]) (h := h ++ [AO.cells [I (i : Int)] false]) fun x => s109 V hF i x atE (fr.at h1)
  have em := may_eq (n := n) (F := F) (i := i)
  have k0 := fr.at h0
  have k1 := fr.at h1
  have k2 : (h ++ [AO.cells [I (i : Int)] false])[h.length]? = some (.cells [I (i : Int)] false) := atE
  obtain ⟨v', h', A, ho', hb', hk'⟩ := outE_ap (eb := 8) (lim := 0) intE intSc (by omega) (by omega) (by omega) (ho.fr fr) (by simp; omega) (Nat.zero_le _) (by omega) (i : Int)
  have lh : (h ++ [AO.cells [I (i : Int)] false]).length = h.length + 1 := by simp
  by_cases hm : (i : Int) ∈ F
  · have e : may n.ps F (i : Int) = false := by rw [em]; simp [hm]
    rw [if_neg (by rw [e]; simp), List.append_nil] at stp
    simp (disch := first | assumption | omega | (simp only [az]; done)) only [ru, eq_self, if_true, if_false, BEq.rfl, binI, AO.row?, splice, fillL, mmAll, loadV, storeV, zeros, Am.rowAt, Am.part, addOff, Nat.reduceAdd, Nat.reduceMul, Nat.reduceLeDiff, Nat.reduceSub, Nat.reduceLT, Int.reduceEq, Int.reduceLT, Int.reduceLE, Int.reduceGT, Int.reduceGE, Int.reduceAdd, Int.reduceSub, Int.reduceMul, Int.reduceNeg, Int.reduceToNat, reduceCtorEq, reduceIte, hlt, atE, setE, lenV_sl V, view_sl V, scalar_sl V, cells_sl V, pure_sl V, c1, k0, k1, k2, hm, decide_true, Bool.not_true, gUn]
    exact ih (n.hs.length - (i + 1)) _ _ _ (by omega) ⟨i + 1, o, by omega, rfl, by rw [stp]; exact ho.fr fr, k0, k1, rfl, rfl, rfl, rfl, rfl, rfl, rfl⟩
  cases ha : n.ps.any (wts F i)
  · have e : may n.ps F (i : Int) = true := by rw [em, ha]; simp [hm]
    rw [if_pos e] at stp
    rw [ha] at hr
    simp (disch := first | assumption | omega | (simp only [az]; done)) only [ru, eq_self, if_true, if_false, BEq.rfl, binI, AO.row?, splice, fillL, mmAll, loadV, storeV, zeros, Am.rowAt, Am.part, addOff, Nat.reduceAdd, Nat.reduceMul, Nat.reduceLeDiff, Nat.reduceSub, Nat.reduceLT, Int.reduceEq, Int.reduceLT, Int.reduceLE, Int.reduceGT, Int.reduceGE, Int.reduceAdd, Int.reduceSub, Int.reduceMul, Int.reduceNeg, Int.reduceToNat, reduceCtorEq, reduceIte, hlt, atE, setE, lenV_sl V, view_sl V, scalar_sl V, cells_sl V, pure_sl V, lenV_sl H.p, view_sl H.p, scalar_sl H.p, cells_sl H.p, pure_sl H.p, c1, k0, k1, k2, hm, hr, decide_false, Bool.not_false, gUn, exOp_litS, AV.pureV.go, AV.pureV, Bool.and_true, A]
    exact ih (n.hs.length - (i + 1)) _ _ _ (by omega) ⟨i + 1, v', by omega, rfl, by rw [stp]; exact ho', by rw [hk' 0 (by omega)]; exact k0, by rw [hk' 1 (by omega)]; exact k1, rfl, rfl, rfl, rfl, rfl, rfl, rfl⟩
  · have e : may n.ps F (i : Int) = false := by rw [em, ha]; simp
    rw [if_neg (by rw [e]; simp), List.append_nil] at stp
    rw [ha] at hr
    simp (disch := first | assumption | omega | (simp only [az]; done)) only [ru, eq_self, if_true, if_false, BEq.rfl, binI, AO.row?, splice, fillL, mmAll, loadV, storeV, zeros, Am.rowAt, Am.part, addOff, Nat.reduceAdd, Nat.reduceMul, Nat.reduceLeDiff, Nat.reduceSub, Nat.reduceLT, Int.reduceEq, Int.reduceLT, Int.reduceLE, Int.reduceGT, Int.reduceGE, Int.reduceAdd, Int.reduceSub, Int.reduceMul, Int.reduceNeg, Int.reduceToNat, reduceCtorEq, reduceIte, hlt, atE, setE, lenV_sl V, view_sl V, scalar_sl V, cells_sl V, pure_sl V, lenV_sl H.p, view_sl H.p, scalar_sl H.p, cells_sl H.p, pure_sl H.p, c1, k0, k1, k2, hm, hr, decide_false, Bool.not_false, Bool.not_true, gUn]
    exact ih (n.hs.length - (i + 1)) _ _ _ (by omega) ⟨i + 1, o, by omega, rfl, by rw [stp]; exact ho.fr fr, k0, k1, rfl, rfl, rfl, rfl, rfl, rfl, rfl⟩
theorem s62 (H : NetOk n g p) {l : List Int} {v : AV} (V : IsSl 1 intL l v) (hl : l.length ≤ 1000) (st : Bool) : Iso E 62 [netV n g p, v] st = some (Bo (ordB n l)) := by
  have sg := H.sg
  refine Iso_of (es _ _ _ _) e62 ?_
  simp only [f62, netV]
  by_cases he : l.length = n.hs.length
  case neg =>
    have he' : ¬ (l.length : Int) = n.hs.length := by omega
    have e : ordB n l = false := by simp [ordB, he]
    rw [e]
    simp (disch := first | assumption | omega | (simp only [az]; done)) only [ru, eq_self, if_true, if_false, BEq.rfl, binI, AO.row?, splice, fillL, mmAll, loadV, storeV, zeros, Am.rowAt, Am.part, addOff, Nat.reduceAdd, Nat.reduceMul, Nat.reduceLeDiff, Nat.reduceSub, Nat.reduceLT, Int.reduceEq, Int.reduceLT, Int.reduceLE, Int.reduceGT, Int.reduceGE, Int.reduceAdd, Int.reduceSub, Int.reduceMul, Int.reduceNeg, Int.reduceToNat, reduceCtorEq, reduceIte, lenV_sl H.g, view_sl H.g, scalar_sl H.g, cells_sl H.g, pure_sl H.g, lenV_sl H.p, view_sl H.p, scalar_sl H.p, cells_sl H.p, pure_sl H.p, lenV_sl V, view_sl V, scalar_sl V, cells_sl V, pure_sl V, he', decide_true, decide_false, Bool.not_false, gUn]
  have he' : (l.length : Int) = n.hs.length := by omega
  simp (disch := first | assumption | omega | (simp only [az]; done)) only [ru, eq_self, if_true, if_false, BEq.rfl, binI, AO.row?, splice, fillL, mmAll, loadV, storeV, zeros, Am.rowAt, Am.part, addOff, Nat.reduceAdd, Nat.reduceMul, Nat.reduceLeDiff, Nat.reduceSub, Nat.reduceLT, Int.reduceEq, Int.reduceLT, Int.reduceLE, Int.reduceGT, Int.reduceGE, Int.reduceAdd, Int.reduceSub, Int.reduceMul, Int.reduceNeg, Int.reduceToNat, reduceCtorEq, reduceIte, lenV_sl H.g, view_sl H.g, scalar_sl H.g, cells_sl H.g, pure_sl H.g, lenV_sl H.p, view_sl H.p, scalar_sl H.p, cells_sl H.p, pure_sl H.p, lenV_sl V, view_sl V, scalar_sl V, cells_sl V, pure_sl V, he', decide_true, Bool.not_true, bne_self_eq_false, gUn]
  refine G_loop_ind (fun m ts h mk => ∃ k : Nat, k ≤ l.length ∧ m = l.length - k ∧ (∀ i, i < k → ordI n l i = true) ∧ ts.length = 30 ∧ ts.getD 1 .undef = v ∧ ts.getD 2 .undef = .ptr 0 0 ∧ ts.getD 14 .undef = v ∧ ts.getD 15 .undef = I n.hs.length ∧ ts.getD 16 .undef = I k ∧ h = [.cells [I n.m, g, p] false] ∧ mk = []) ?_ _ _ _ _ ⟨0, Nat.zero_le _, rfl, fun i h => by omega, rfl, rfl, rfl, rfl, rfl, rfl, rfl, rfl⟩
  rintro m ts h mk ih ⟨k, hk, rfl, hall, hl', q1, q2, q14, q15, q16, rfl, rfl⟩
  rw [lit_all hl']
  simp only [lit0, litS, Nat.reduceAdd, q1, q2, q14, q15, q16]
  simp (disch := first | assumption | omega | (simp only [az]; done)) only [ru, eq_self, if_true, if_false, BEq.rfl, binI, AO.row?, splice, fillL, mmAll, loadV, storeV, zeros, Am.rowAt, Am.part, addOff, Nat.reduceAdd, Nat.reduceMul, Nat.reduceLeDiff, Nat.reduceSub, Nat.reduceLT, Int.reduceEq, Int.reduceLT, Int.reduceLE, Int.reduceGT, Int.reduceGE, Int.reduceAdd, Int.reduceSub, Int.reduceMul, Int.reduceNeg, Int.reduceToNat, reduceCtorEq, reduceIte, lenV_sl V, view_sl V, scalar_sl V, cells_sl V, pure_sl V]
  by_cases hlt : (k : Int) < n.hs.length
  case neg =>
    have e : ordB n l = true := by
      simp only [ordB, he, decide_true, Bool.true_and, List.all_eq_true, List.mem_range]
      exact fun i hi => hall i (by omega)
    simp (disch := first | assumption | omega | (simp only [az]; done)) only [ru, eq_self, if_true, if_false, BEq.rfl, binI, AO.row?, splice, fillL, mmAll, loadV, storeV, zeros, Am.rowAt, Am.part, addOff, Nat.reduceAdd, Nat.reduceMul, Nat.reduceLeDiff, Nat.reduceSub, Nat.reduceLT, Int.reduceEq, Int.reduceLT, Int.reduceLE, Int.reduceGT, Int.reduceGE, Int.reduceAdd, Int.reduceSub, Int.reduceMul, Int.reduceNeg, Int.reduceToNat, reduceCtorEq, reduceIte, hlt, e]
  have hk' : k < l.length := by omega
  have hlt' : (k : Int) < l.length := by omega
  obtain ⟨u, hu, U⟩ := slice_in V hk'
  have c2 := fun st => s93 H U (by rw [List.length_take]; omega) st
  simp only [netV] at c2
  have NV := resL_is (nxt n (l.take k))
  have c3 := fun y st => s122 NV (Nat.le_trans nxt_len (by omega)) y st
  have ei : decide (l.getD k 0 ∈ nxt n (l.take k)) = ordI n l k := by
    rw [Bool.eq_iff_iff]
    simp only [decide_eq_true_eq, nxt_mem, ordI, Bool.and_eq_true, inR_iff]
    exact and_congr (by omega) Iff.rfl
  have no : ordI n l k = false → ordB n l = false := fun h => by
    cases hb : ordB n l
    · rfl
    · simp only [ordB, Bool.and_eq_true, List.all_eq_true, List.mem_range] at hb
      rw [hb.2 k hk'] at h; cases h
  have go : ordI n l k = true → ∀ i, i < k + 1 → ordI n l i = true := fun h i hi => by
    by_cases c : i = k
    · subst c; exact h
    · exact hall i (by omega)
  have ev := elem_in V
  cases h1 : ordI n l k
  · rw [h1] at ei
    simp (disch := first | assumption | omega | (simp only [az]; done)) only [ru, eq_self, if_true, if_false, BEq.rfl, binI, AO.row?, splice, fillL, mmAll, loadV, storeV, zeros, Am.rowAt, Am.part, addOff, Nat.reduceAdd, Nat.reduceMul, Nat.reduceLeDiff, Nat.reduceSub, Nat.reduceLT, Int.reduceEq, Int.reduceLT, Int.reduceLE, Int.reduceGT, Int.reduceGE, Int.reduceAdd, Int.reduceSub, Int.reduceMul, Int.reduceNeg, Int.reduceToNat, reduceCtorEq, reduceIte, lenV_sl H.g, view_sl H.g, scalar_sl H.g, cells_sl H.g, pure_sl H.g, lenV_sl H.p, view_sl H.p, scalar_sl H.p, cells_sl H.p, pure_sl H.p, lenV_sl V, view_sl V, scalar_sl V, cells_sl V, pure_sl V, lenV_sl NV, view_sl NV, scalar_sl NV, cells_sl NV, pure_sl NV, ev, Int.toNat_natCast, hlt, hlt', hu, lenV_sl U, view_sl U, scalar_sl U, cells_sl U, pure_sl U, c2, c3, ei, no h1, gUn, Bool.not_false]
  · rw [h1] at ei
    simp (disch := first | assumption | omega | (simp only [az]; done)) only [ru, eq_self, if_true, if_false, BEq.rfl, binI, AO.row?, splice, fillL, mmAll, loadV, storeV, zeros, Am.rowAt, Am.part, addOff, Nat.reduceAdd, Nat.reduceMul, Nat.reduceLeDiff, Nat.reduceSub, Nat.reduceLT, Int.reduceEq, Int.reduceLT, Int.reduceLE, Int.reduceGT, Int.reduceGE, Int.reduceAdd, Int.reduceSub, Int.reduceMul, Int.reduceNeg, Int.reduceToNat, reduceCtorEq, reduceIte, lenV_sl H.g, view_sl H.g, scalar_sl H.g, cells_sl H.g, pure_sl H.g, lenV_sl H.p, view_sl H.p, scalar_sl H.p, cells_sl H.p, pure_sl H.p, lenV_sl V, view_sl V, scalar_sl V, cells_sl V, pure_sl V, lenV_sl NV, view_sl NV, scalar_sl NV, cells_sl NV, pure_sl NV, ev, Int.toNat_natCast, hlt, hlt', hu, lenV_sl U, view_sl U, scalar_sl U, cells_sl U, pure_sl U, c2, c3, ei, gUn, Bool.not_true]
    exact ih (l.length - (k + 1)) _ _ _ (by omega) ⟨k + 1, by omega, rfl, go h1, rfl, rfl, rfl, rfl, rfl, rfl, rfl, rfl⟩
end
end Go.Proofs.Ytekoplcnlhanbaa.S

/-
The program's orders: a range over a function that yields each order in memory of its own; whether a net is valid.
-/
namespace Go.Proofs.Ytekoplcnlhanbaa.S
open Go Go.Am Go.Proofs.Ytekoplcnlhanbaa.T
set_option maxRecDepth 100000
set_option linter.unusedSimpArgs false
set_option linter.unusedVariables false

/-- the orders with the first holes that can come next -/
def nxP (n : Net) (d : Nat) (F : List Int) (j : Nat) : List (List Int) := ((nxt n F).take j).flatMap fun x => enm (may n.ps) n.hs.length d (F ++ [x])
theorem nxP_succ {n : Net} {d : Nat} {F : List Int} {j : Nat} (h : j < (nxt n F).length) : nxP n d F (j + 1) = nxP n d F j ++ enm (may n.ps) n.hs.length d (F ++ [(nxt n F).getD j 0]) := by
  unfold nxP; rw [take_snoc (d := 0) h, List.flatMap_append]; simp
theorem nxP_all {n : Net} {d : Nat} {F : List Int} : nxP n d F (nxt n F).length = enm (may n.ps) n.hs.length (d + 1) F := by
  unfold nxP nxt
  rw [List.take_length, enm]
  generalize n.hs.length = N
  have : ∀ l : List Nat, (((ofN l).filter (may n.ps F)).flatMap fun x => enm (may n.ps) N d (F ++ [x])) = l.flatMap fun (i : Nat) => if may n.ps F i then enm (may n.ps) N d (F ++ [(i : Int)]) else [] := by
    intro l
    induction l with
    | nil => rfl
    | cons a l ih =>
      rw [List.flatMap_cons, ← ih]
      by_cases hq : may n.ps F (a : Int) = true
      · rw [if_pos hq, show ofN (a :: l) = (a : Int) :: ofN l from rfl, List.filter_cons_of_pos hq, List.flatMap_cons]
      · rw [if_neg hq, show ofN (a :: l) = (a : Int) :: ofN l from rfl, List.filter_cons_of_neg hq]; rfl
  exact this _
set_option maxHeartbeats 4000000 in
theorem r110 {n : Net} {g p : AV} (H : NetOk n g p) {o lim : Nat} (hlim : lim ≤ o) {P : List (List Int) → List AO → Prop} {Q : List AO → Prop}
    (hP : ∀ D h h', P D h → Fr h h' → P D h')
    (hstep : ∀ D F fv h, o < h.length → P D h → RdB (o + 1) h fv F → isO n F → ∃ b h', R E (.rnd o) [fv] h lim = some (Bo b, h') ∧ ((b = true ∧ P (D ++ [F]) h' ∧ Fk (o + 1) h h') ∨ (b = false ∧ Q h'))) :
    ∀ (d : Nat) (F : List Int) (fv : AV) (D : List (List Int)) (h : List AO), F.length + d = n.hs.length → okE (may n.ps) n.hs.length F → RdB (o + 1) h fv F → o < h.length → P D h →
    ∃ b h', R E (.fn 110) [netV n g p, fv, .yld o] h lim = some (Bo b, h') ∧ ((b = true ∧ P (D ++ enm (may n.ps) n.hs.length d F) h' ∧ Fk (o + 1) h h') ∨ (b = false ∧ Q h')) := by
  have sg := H.sg
  intro d
  induction d with
  | zero =>
    intro F fv D h hd hF rd ho hp
    have hl : (F.length : Int) = n.hs.length := by omega
    obtain ⟨f1, f2, f3⟩ := rd.s.len
    have fr := Fr.app h [(AO.cells [I n.m, g, p] false)]
    obtain ⟨b, h', hr, hp'⟩ := hstep D F fv (h ++ [AO.cells [I n.m, g, p] false]) (by simp; omega) (hP _ _ _ hp fr) (rd.fk (Fk.of fr)) ⟨by omega, hF⟩
    refine (fun x => ?_ : (∃ r h', R E (.fn 110) [netV n g p, fv, .yld o] h lim = some (r, h') ∧ (r = Bo b ∧ ((b = true ∧ P (D ++ enm (may n.ps) n.hs.length 0 F) h' ∧ Fk (o + 1) h h') ∨ (b = false ∧ Q h')))) → _) (R_of _ (es _ _ _ _) e110 ?_)
    · obtain ⟨r, h', hr, rfl, hh⟩ := x; exact ⟨b, h', hr, hh⟩
    simp only [f110, netV]
    simp (disch := first | assumption | omega | (simp only [az]; done)) only [ru, eq_self, if_true, if_false, BEq.rfl, binI, AO.row?, splice, fillL, mmAll, loadV, storeV, zeros, Am.rowAt, Am.part, addOff, Nat.reduceAdd, Nat.reduceMul, Nat.reduceLeDiff, Nat.reduceSub, Nat.reduceLT, Int.reduceEq, Int.reduceLT, Int.reduceLE, Int.reduceGT, Int.reduceGE, Int.reduceAdd, Int.reduceSub, Int.reduceMul, Int.reduceNeg, Int.reduceToNat, reduceCtorEq, reduceIte, lenV_sl H.g, view_sl H.g, scalar_sl H.g, cells_sl H.g, pure_sl H.g, lenV_sl H.p, view_sl H.p, scalar_sl H.p, cells_sl H.p, pure_sl H.p, f1, f2, f3, hl, decide_true, exOp_callv0, hr]
    rcases hp' with ⟨e, h1, h2⟩ | h1
    · exact .inl ⟨e, h1, (Fk.of fr).trans h2⟩
    · exact .inr h1
  | succ d ih =>
    intro F fv D h hd hF rd ho hp
    have hl : ¬ (F.length : Int) = n.hs.length := by omega
    obtain ⟨f1, f2, f3⟩ := rd.s.len
    have fr := Fr.app h [(AO.cells [I n.m, g, p] false)]
    have rv := fun st => (rd.fk (Fk.of fr)).s.view (st := st) (k := 7)
    have RF := resL_is F
    have c93 := fun st => s93 H RF (by omega) st
    simp only [netV] at c93
    have NV := resL_is (nxt n F)
    have nl := nxt_len (n := n) (F := F) (i := n.hs.length)
    obtain ⟨nv, hnv⟩ : ∃ u, u = resL (nxt n F) := ⟨_, rfl⟩
    rw [← hnv] at NV
    simp only [← hnv] at c93
    have nm : ∀ j, j < (nxt n F).length → ((nxt n F).getD j 0) ∈ nxt n F := fun j hj => getD_memI hj
    obtain ⟨L, hL⟩ : ∃ L, L = nxt n F := ⟨_, rfl⟩
    have hall := nxP_all (n := n) (d := d) (F := F)
    have hsucc := fun j hj => nxP_succ (n := n) (d := d) (F := F) (j := j) hj
    have nmem : ∀ x, x ∈ nxt n F → 0 ≤ x ∧ x < n.hs.length ∧ may n.ps F x = true := fun x hx => by have := nxt_mem.1 hx; exact ⟨this.1.1, this.1.2, this.2⟩
    have nl' : (nxt n F).length ≤ n.hs.length := nl
    rw [← hL] at NV hall hsucc nmem nl' nm
    have ev := elem_in NV
    refine (fun x => ?_ : (∃ r h', R E (.fn 110) [netV n g p, fv, .yld o] h lim = some (r, h') ∧ (∃ b, r = Bo b ∧ ((b = true ∧ P (D ++ enm (may n.ps) n.hs.length (d + 1) F) h' ∧ Fk (o + 1) h h') ∨ (b = false ∧ Q h')))) → _) (R_of _ (es _ _ _ _) e110 ?_)
    · obtain ⟨r, h', hr, b, rfl, hh⟩ := x; exact ⟨b, h', hr, hh⟩
    simp only [f110, netV]
    simp (disch := first | assumption | omega | (simp only [az]; done)) only [ru, eq_self, if_true, if_false, BEq.rfl, binI, AO.row?, splice, fillL, mmAll, loadV, storeV, zeros, Am.rowAt, Am.part, addOff, Nat.reduceAdd, Nat.reduceMul, Nat.reduceLeDiff, Nat.reduceSub, Nat.reduceLT, Int.reduceEq, Int.reduceLT, Int.reduceLE, Int.reduceGT, Int.reduceGE, Int.reduceAdd, Int.reduceSub, Int.reduceMul, Int.reduceNeg, Int.reduceToNat, reduceCtorEq, reduceIte, lenV_sl H.g, view_sl H.g, scalar_sl H.g, cells_sl H.g, pure_sl H.g, lenV_sl H.p, view_sl H.p, scalar_sl H.p, cells_sl H.p, pure_sl H.p, lenV_sl RF, view_sl RF, scalar_sl RF, cells_sl RF, pure_sl RF, lenV_sl NV, view_sl NV, scalar_sl NV, cells_sl NV, pure_sl NV, f1, f2, f3, hl, decide_false, atE, rv, c93]
    refine G_loop_ind (fun m ts hk mk => ∃ (j : Nat), j ≤ L.length ∧ m = L.length - j ∧ Fk (o + 1) h hk ∧ hk[h.length]? = some (AO.cells [I n.m, g, p] false) ∧ P (D ++ nxP n d F j) hk ∧
      ts.length = 41 ∧ ts.getD 1 .undef = fv ∧ ts.getD 2 .undef = .yld o ∧ ts.getD 3 .undef = .ptr h.length 0 ∧ ts.getD 21 .undef = nv ∧ ts.getD 22 .undef = I L.length ∧ ts.getD 23 .undef = I j ∧ mk = []) ?_ _ _ _ _
      ⟨0, Nat.zero_le _, rfl, Fk.of fr, by simp, by simpa [nxP] using hP _ _ _ hp fr, rfl, rfl, rfl, rfl, rfl, rfl, rfl, rfl⟩
    rintro m ts hk mk ihk ⟨j, hj, rfl, fk, c3, hpk, hl', q1, q2, q3, q21, q22, q23, rfl⟩
    rw [lit_all hl']
    simp only [lit0, litS, Nat.reduceAdd, q1, q2, q3, q21, q22, q23]
    simp (disch := first | assumption | omega | (simp only [az]; done)) only [ru, eq_self, if_true, if_false, BEq.rfl, binI, AO.row?, splice, fillL, mmAll, loadV, storeV, zeros, Am.rowAt, Am.part, addOff, Nat.reduceAdd, Nat.reduceMul, Nat.reduceLeDiff, Nat.reduceSub, Nat.reduceLT, Int.reduceEq, Int.reduceLT, Int.reduceLE, Int.reduceGT, Int.reduceGE, Int.reduceAdd, Int.reduceSub, Int.reduceMul, Int.reduceNeg, Int.reduceToNat, reduceCtorEq, reduceIte, f1]
    by_cases hlt : (j : Int) < L.length
    case neg =>
      obtain rfl : j = L.length := by omega
      rw [hall] at hpk
      simp (disch := first | assumption | omega | (simp only [az]; done)) only [ru, eq_self, if_true, if_false, BEq.rfl, binI, AO.row?, splice, fillL, mmAll, loadV, storeV, zeros, Am.rowAt, Am.part, addOff, Nat.reduceAdd, Nat.reduceMul, Nat.reduceLeDiff, Nat.reduceSub, Nat.reduceLT, Int.reduceEq, Int.reduceLT, Int.reduceLE, Int.reduceGT, Int.reduceGE, Int.reduceAdd, Int.reduceSub, Int.reduceMul, Int.reduceNeg, Int.reduceToNat, reduceCtorEq, reduceIte, hlt]
      exact ⟨true, rfl, .inl ⟨rfl, hpk, fk⟩⟩
    have hj' : j < L.length := by omega
    have xm := nm j hj'
    have sj := hsucc j hj'
    obtain ⟨x, hx⟩ : ∃ x, x = L.getD j 0 := ⟨_, rfl⟩
    rw [← hx] at xm sj
    obtain ⟨x0, x1, x2⟩ := nmem x xm
    have rdk := rd.fk fk
    have ok : o < hk.length := by have := fk.l; omega
    obtain ⟨mv, em, ea⟩ := rdk.more (by omega) (lim := lim) x
    have n3 := (List.getElem?_eq_some_iff.1 c3).1
    have fr1 := Fr.app hk [AO.cells ((F ++ [x]).flatMap fun n => [I n]) false]
    have rd1 : RdB (o + 1) (hk ++ [AO.cells ((F ++ [x]).flatMap fun n => [I n]) false]) (.ms 1 hk.length 0 (F.length + 1)) (F ++ [x]) :=
      .inr ⟨by simp, hk.length, false, by omega, by simp, atE⟩
    obtain ⟨b, h', hr, hp'⟩ := ih (F ++ [x]) (.ms 1 hk.length 0 (F.length + 1)) _ (hk ++ [AO.cells ((F ++ [x]).flatMap fun n => [I n]) false]) (by simp; omega)
      (okE_snoc.2 ⟨hF, x0, x1, x2⟩) rd1 (by simp; omega) (hP _ _ _ hpk fr1)
    have fr0 := Fr.app hk [AO.tomb]
    have c3' := fr0.at c3
    rcases hp' with ⟨rfl, hp', fk'⟩ | ⟨rfl, hq⟩
    · simp (disch := first | assumption | omega | (simp only [az]; done)) only [ru, eq_self, if_true, if_false, BEq.rfl, binI, AO.row?, splice, fillL, mmAll, loadV, storeV, zeros, Am.rowAt, Am.part, addOff, Nat.reduceAdd, Nat.reduceMul, Nat.reduceLeDiff, Nat.reduceSub, Nat.reduceLT, Int.reduceEq, Int.reduceLT, Int.reduceLE, Int.reduceGT, Int.reduceGE, Int.reduceAdd, Int.reduceSub, Int.reduceMul, Int.reduceNeg, Int.reduceToNat, reduceCtorEq, reduceIte, hlt, ev, Int.toNat_natCast, ← hx, f1, c3, c3', n3, at_ap, pex_slice3, em, exOp_litS, AV.pureV.go, AV.pureV, Bool.and_true, GO_mapp, GO_mcall0, unhN, unhC, setT, setT0, getT, getT0, atT, atT0, ea, hr, Bool.not_true, exOp_call0]
      refine ihk (L.length - (j + 1)) _ _ _ (by omega) ⟨j + 1, by omega, rfl, fk.trans ((Fk.of fr1).trans fk'), ?_, ?_, rfl, rfl, rfl, rfl, rfl, rfl, rfl, rfl⟩
      · exact fk'.at (by omega) (fr1.at c3)
      · rw [sj, ← List.append_assoc]; exact hp'
    · simp (disch := first | assumption | omega | (simp only [az]; done)) only [ru, eq_self, if_true, if_false, BEq.rfl, binI, AO.row?, splice, fillL, mmAll, loadV, storeV, zeros, Am.rowAt, Am.part, addOff, Nat.reduceAdd, Nat.reduceMul, Nat.reduceLeDiff, Nat.reduceSub, Nat.reduceLT, Int.reduceEq, Int.reduceLT, Int.reduceLE, Int.reduceGT, Int.reduceGE, Int.reduceAdd, Int.reduceSub, Int.reduceMul, Int.reduceNeg, Int.reduceToNat, reduceCtorEq, reduceIte, hlt, ev, Int.toNat_natCast, ← hx, f1, c3, c3', n3, at_ap, pex_slice3, em, exOp_litS, AV.pureV.go, AV.pureV, Bool.and_true, GO_mapp, GO_mcall0, unhN, unhC, setT, setT0, getT, getT0, atT, atT0, ea, hr, Bool.not_false, exOp_call0]
      exact ⟨false, rfl, .inr ⟨rfl, hq⟩⟩
/-- the orders, each handed over -/
theorem r95 {n : Net} {g p : AV} (H : NetOk n g p) {o lim : Nat} (hlim : lim ≤ o) {P : List (List Int) → List AO → Prop} {Q : List AO → Prop}
    (hP : ∀ D h h', P D h → Fr h h' → P D h')
    (hstep : ∀ D F fv h, o < h.length → P D h → RdB (o + 1) h fv F → isO n F → ∃ b h', R E (.rnd o) [fv] h lim = some (Bo b, h') ∧ ((b = true ∧ P (D ++ [F]) h' ∧ Fk (o + 1) h h') ∨ (b = false ∧ Q h')))
    {h : List AO} (ho : o < h.length) (h0 : P [] h) : ∃ r h', R E (.fn 95) [netV n g p, .yld o] h lim = some (r, h') ∧ (P (ords n) h' ∨ Q h') := by
  have fr := Fr.app h [(AO.cells [I n.m, g, p] false)]
  obtain ⟨b, h', hr, hp⟩ := r110 H hlim hP hstep n.hs.length [] .nils [] (h ++ [AO.cells [I n.m, g, p] false]) (by simp) okE_nil (.inl ⟨rfl, rfl⟩) (by simp; omega) (hP _ _ _ h0 fr)
  rw [List.nil_append] at hp
  refine R_of _ (es _ _ _ _) e95 ?_
  simp only [f95, netV]
  simp (disch := first | assumption | omega | (simp only [az]; done)) only [ru, eq_self, if_true, if_false, BEq.rfl, binI, AO.row?, splice, fillL, mmAll, loadV, storeV, zeros, Am.rowAt, Am.part, addOff, Nat.reduceAdd, Nat.reduceMul, Nat.reduceLeDiff, Nat.reduceSub, Nat.reduceLT, Int.reduceEq, Int.reduceLT, Int.reduceLE, Int.reduceGT, Int.reduceGE, Int.reduceAdd, Int.reduceSub, Int.reduceMul, Int.reduceNeg, Int.reduceToNat, reduceCtorEq, reduceIte, exOp_call0, hr, fin0, fin0n]
  rcases hp with ⟨_, hp, _⟩ | ⟨_, hq⟩
  · exact .inl hp
  · exact .inr hq

def As91 : ACode := .skip
def Bd91 : ACode := .block 1 (.seq (.region 0 [⟨none, .store 1 (.t 2) (.c (.bool true)), none, none, []⟩])
     (.ret))
set_option maxHeartbeats 4000000 in
theorem s91 {n : Net} {g p : AV} (H : NetOk n g p) (st : Bool) : Iso E 91 [netV n g p] st = some (Bo (decide ((ords n).length ≠ 0))) := by
  refine Iso_of (es _ _ _ _) e91 ?_
  simp only [f91, netV]
  simp (disch := first | assumption | omega | (simp only [az]; done)) only [ru, eq_self, if_true, if_false, BEq.rfl, binI, AO.row?, splice, fillL, mmAll, loadV, storeV, zeros, Am.rowAt, Am.part, addOff, Nat.reduceAdd, Nat.reduceMul, Nat.reduceLeDiff, Nat.reduceSub, Nat.reduceLT, Int.reduceEq, Int.reduceLT, Int.reduceLE, Int.reduceGT, Int.reduceGE, Int.reduceAdd, Int.reduceSub, Int.reduceMul, Int.reduceNeg, Int.reduceToNat, reduceCtorEq, reduceIte, lenV_sl H.g, view_sl H.g, scalar_sl H.g, cells_sl H.g, pure_sl H.g, lenV_sl H.p, view_sl H.p, scalar_sl H.p, cells_sl H.p, pure_sl H.p]
  obtain ⟨TS, hTS⟩ : ∃ TS : List AV, TS = [.agg [I n.m, g, p], .ptr 0 0, .ptr 1 0, .agg [I n.m, g, p], .fn 95 [.agg [I n.m, g, p]] [], .undef] := ⟨_, rfl⟩
  obtain ⟨H1, hH1⟩ : ∃ H1 : List AO, H1 = [.cells [I n.m, g, p] false, .cells [Bo false] false, .dfr, .loop .ready none 91 TS [5] As91 Bd91 2] := ⟨_, rfl⟩
  have key := r95 H (o := 3) (lim := 0) (by omega)
    (P := fun D h => D = [] ∧ h[1]? = some (.cells [Bo false] false) ∧ h[2]? = some .dfr ∧ h[3]? = some (.loop .ready none 91 TS [5] As91 Bd91 2))
    (Q := fun h => ords n ≠ [] ∧ h[1]? = some (.cells [Bo true] false) ∧ h[2]? = some .dfr ∧ h[3]? = some (.loop .done (some .ret) 91 TS [5] As91 Bd91 2))
    (by rintro D h h' ⟨a, b, c, d⟩ fr; exact ⟨a, fr.at b, fr.at c, fr.at d⟩) ?_ (h := H1) (by rw [hH1]; simp) (by rw [hH1]; exact ⟨rfl, rfl, rfl, rfl⟩)
  · refine G_range_of rfl rfl ?_
    rw [← hTS]
    obtain ⟨r, h3, hr, ⟨g0, g1, g2, g3⟩ | ⟨g0, g1, g2, g3⟩⟩ := key
    · rw [hH1] at hr
      refine ⟨r, h3, .ready, none, 91, TS, [5], As91, Bd91, 2, hr, g3, .inl rfl, ?_⟩
      simp only [Option.getD_none, GE_nrm]
      obtain ⟨h4, hh4⟩ : ∃ h4, h4 = h3.set (([.cells [I n.m, g, p] false, .cells [Bo false] false] : List AO).length + 1) (AO.loop .exhausted none 91 TS [5] As91 Bd91 2) := ⟨_, rfl⟩
      rw [← hh4]
      have k1 : h4[1]? = some (.cells [Bo false] false) := by rw [hh4, List.getElem?_set_ne (by simp)]; exact g1
      have k2 : h4[2]? = some .dfr := by rw [hh4, List.getElem?_set_ne (by simp)]; exact g2
      have l4 : 2 < h4.length := (List.getElem?_eq_some_iff.1 k2).1
      have e : decide ((ords n).length ≠ 0) = false := by rw [g0]; rfl
      rw [hTS, e]
      have w1 : (h4.set 1 (.cells [Bo false] false))[1]? = some (.cells [Bo false] false) := List.getElem?_set_self (by omega)
      have w2 : (h4.set 1 (.cells [Bo false] false))[2]? = some .dfr := by rw [List.getElem?_set_ne (by omega)]; exact k2
      simp (disch := first | assumption | omega | (simp only [az]; done)) only [ru, eq_self, if_true, if_false, BEq.rfl, binI, AO.row?, splice, fillL, mmAll, loadV, storeV, zeros, Am.rowAt, Am.part, addOff, Nat.reduceAdd, Nat.reduceMul, Nat.reduceLeDiff, Nat.reduceSub, Nat.reduceLT, Int.reduceEq, Int.reduceLT, Int.reduceLE, Int.reduceGT, Int.reduceGE, Int.reduceAdd, Int.reduceSub, Int.reduceMul, Int.reduceNeg, Int.reduceToNat, reduceCtorEq, reduceIte, k1]
      refine finM (h' := (h4.set 1 (.cells [Bo false] false)).set 2 .tomb) (vs := [Bo false]) (.inr rfl) (by simp) ?_ ?_ ?_
      · simp only [takeMarks, List.length_cons, List.length_nil, w2]
      · have w3 : ((h4.set 1 (.cells [Bo false] false)).set 2 .tomb)[1]? = some (.cells [Bo false] false) := by rw [List.getElem?_set_ne (by omega)]; exact w1
        simp (disch := first | assumption | omega | (simp only [az]; done)) only [ru, eq_self, if_true, if_false, BEq.rfl, binI, AO.row?, splice, fillL, mmAll, loadV, storeV, zeros, Am.rowAt, Am.part, addOff, Nat.reduceAdd, Nat.reduceMul, Nat.reduceLeDiff, Nat.reduceSub, Nat.reduceLT, Int.reduceEq, Int.reduceLT, Int.reduceLE, Int.reduceGT, Int.reduceGE, Int.reduceAdd, Int.reduceSub, Int.reduceMul, Int.reduceNeg, Int.reduceToNat, reduceCtorEq, reduceIte, w3, List.mapM_cons, List.mapM_nil, getRes, Option.bind_eq_bind, Option.pure_def, Option.bind_some]
      · exact view_bool
    · rw [hH1] at hr
      refine ⟨r, h3, .done, some .ret, 91, TS, [5], As91, Bd91, 2, hr, g3, .inr rfl, ?_⟩
      simp only [Option.getD_some, GE_ret]
      obtain ⟨h4, hh4⟩ : ∃ h4, h4 = h3.set (([.cells [I n.m, g, p] false, .cells [Bo false] false] : List AO).length + 1) (AO.loop .exhausted (some .ret) 91 TS [5] As91 Bd91 2) := ⟨_, rfl⟩
      rw [← hh4]
      have k1 : h4[1]? = some (.cells [Bo true] false) := by rw [hh4, List.getElem?_set_ne (by simp)]; exact g1
      have k2 : h4[2]? = some .dfr := by rw [hh4, List.getElem?_set_ne (by simp)]; exact g2
      have e : decide ((ords n).length ≠ 0) = true := decide_eq_true fun e => g0 (List.eq_nil_of_length_eq_zero e)
      rw [hTS, e]
      simp (disch := first | assumption | omega | (simp only [az]; done)) only [ru, eq_self, if_true, if_false, BEq.rfl, binI, AO.row?, splice, fillL, mmAll, loadV, storeV, zeros, Am.rowAt, Am.part, addOff, Nat.reduceAdd, Nat.reduceMul, Nat.reduceLeDiff, Nat.reduceSub, Nat.reduceLT, Int.reduceEq, Int.reduceLT, Int.reduceLE, Int.reduceGT, Int.reduceGE, Int.reduceAdd, Int.reduceSub, Int.reduceMul, Int.reduceNeg, Int.reduceToNat, reduceCtorEq, reduceIte]
      refine finM (h' := h4.set 2 .tomb) (vs := [Bo true]) (.inr rfl) (by simp) ?_ ?_ ?_
      · simp only [takeMarks, List.length_cons, List.length_nil, k2]
      · have w3 : (h4.set 2 .tomb)[1]? = some (.cells [Bo true] false) := by rw [List.getElem?_set_ne (by omega)]; exact k1
        simp (disch := first | assumption | omega | (simp only [az]; done)) only [ru, eq_self, if_true, if_false, BEq.rfl, binI, AO.row?, splice, fillL, mmAll, loadV, storeV, zeros, Am.rowAt, Am.part, addOff, Nat.reduceAdd, Nat.reduceMul, Nat.reduceLeDiff, Nat.reduceSub, Nat.reduceLT, Int.reduceEq, Int.reduceLT, Int.reduceLE, Int.reduceGT, Int.reduceGE, Int.reduceAdd, Int.reduceSub, Int.reduceMul, Int.reduceNeg, Int.reduceToNat, reduceCtorEq, reduceIte, w3, List.mapM_cons, List.mapM_nil, getRes, Option.bind_eq_bind, Option.pure_def, Option.bind_some]
      · exact view_bool
  · rintro D F fv h ho ⟨g0, g1, g2, g3⟩ rd hO
    have := R_rnd_of (E := E) (lim := 0) (args := [fv]) (P := fun r h' => r = Bo false ∧ (ords n ≠ [] ∧ h'[1]? = some (.cells [Bo true] false) ∧ h'[2]? = some .dfr ∧ h'[3]? = some (.loop .done (some .ret) 91 TS [5] As91 Bd91 2))) g3 rfl (Nat.zero_le _) ?_
    · obtain ⟨r, h', hr, rfl, hp⟩ := this
      exact ⟨false, h', hr, .inr ⟨rfl, hp⟩⟩
    rw [hTS]
    simp only [setAll, List.set_cons_succ, List.set_cons_zero]
    unfold As91
    simp (disch := first | assumption | omega | (simp only [az]; done)) only [ru, eq_self, if_true, if_false, BEq.rfl, binI, AO.row?, splice, fillL, mmAll, loadV, storeV, zeros, Am.rowAt, Am.part, addOff, Nat.reduceAdd, Nat.reduceMul, Nat.reduceLeDiff, Nat.reduceSub, Nat.reduceLT, Int.reduceEq, Int.reduceLT, Int.reduceLE, Int.reduceGT, Int.reduceGE, Int.reduceAdd, Int.reduceSub, Int.reduceMul, Int.reduceNeg, Int.reduceToNat, reduceCtorEq, reduceIte]
    rw [← hTS]
    refine ⟨none, 91, TS, [5], As91, Bd91, 2, g3, ?_⟩
    obtain ⟨h6, hh6⟩ : ∃ h6, h6 = h.set 3 (AO.loop .busy none 91 TS [5] As91 Bd91 2) := ⟨_, rfl⟩
    rw [← hh6]
    have n1 : h6[1]? = some (.cells [Bo false] false) := by rw [hh6, List.getElem?_set_ne (by omega)]; exact g1
    have n2 : h6[2]? = some .dfr := by rw [hh6, List.getElem?_set_ne (by omega)]; exact g2
    have n3 : h6[3]? = some (AO.loop .busy none 91 TS [5] As91 Bd91 2) := by rw [hh6, List.getElem?_set_self (by omega)]
    have l6 : h6.length = h.length := by rw [hh6]; simp
    unfold Bd91
    simp (disch := first | assumption | omega | (simp only [az]; done)) only [ru, eq_self, if_true, if_false, BEq.rfl, binI, AO.row?, splice, fillL, mmAll, loadV, storeV, zeros, Am.rowAt, Am.part, addOff, Nat.reduceAdd, Nat.reduceMul, Nat.reduceLeDiff, Nat.reduceSub, Nat.reduceLT, Int.reduceEq, Int.reduceLT, Int.reduceLE, Int.reduceGT, Int.reduceGE, Int.reduceAdd, Int.reduceSub, Int.reduceMul, Int.reduceNeg, Int.reduceToNat, reduceCtorEq, reduceIte, n1]
    refine ⟨.busy, none, 91, TS, [5], As91, Bd91, 2, by rw [List.getElem?_set_ne (by omega)]; exact n3, ?_⟩
    refine ⟨rfl, ords_ne hO, ?_, ?_, ?_⟩
    · rw [List.getElem?_set_ne (by omega), List.getElem?_set_self (by omega)]
    · rw [List.getElem?_set_ne (by omega), List.getElem?_set_ne (by omega)]; exact n2
    · rw [List.getElem?_set_self (by simp; omega)]; rfl
end Go.Proofs.Ytekoplcnlhanbaa.S

/-
Check, Good by the program; the first of the least; who is free first.
-/
namespace Go.Proofs.Ytekoplcnlhanbaa.S
open Go Go.Am Go.Proofs.Ytekoplcnlhanbaa.T
set_option maxRecDepth 100000
set_option linter.unusedSimpArgs false
set_option linter.unusedVariables false

section
variable {n : Net} {g p : AV} {l : List Int} {v : AV}
set_option maxHeartbeats 2000000 in
theorem s59 (H : NetOk n g p) (st : Bool) : Iso E 59 [netV n g p] st = some (Bo n.valid) := by
  have sg := H.sg; have sp := H.sp
  have c89 := fun st => s89 H.g H.sg st
  have c90 := s90 H (o := 0) (h := [.cells [I n.m, g, p] false]) rfl
  have c91 := fun st => s91 H st
  simp only [netV] at c91
  refine Iso_of (es _ _ _ _) e59 ?_
  simp only [f59, netV]
  cases h1 : inR n.m 1 3
  · have e : n.valid = false := by simp only [Net.valid, h1, Bool.false_and]
    simp (disch := first | assumption | omega | (simp only [az]; done)) only [ru, eq_self, if_true, if_false, BEq.rfl, binI, AO.row?, splice, fillL, mmAll, loadV, storeV, zeros, Am.rowAt, Am.part, addOff, Nat.reduceAdd, Nat.reduceMul, Nat.reduceLeDiff, Nat.reduceSub, Nat.reduceLT, Int.reduceEq, Int.reduceLT, Int.reduceLE, Int.reduceGT, Int.reduceGE, Int.reduceAdd, Int.reduceSub, Int.reduceMul, Int.reduceNeg, Int.reduceToNat, reduceCtorEq, reduceIte, lenV_sl H.g, view_sl H.g, scalar_sl H.g, cells_sl H.g, pure_sl H.g, lenV_sl H.p, view_sl H.p, scalar_sl H.p, cells_sl H.p, pure_sl H.p, s87, h1, e, gUn]
  by_cases h2 : n.hs.length ≤ 6
  case neg =>
    have h2' : ¬ (n.hs.length : Int) ≤ 6 := by omega
    have e : n.valid = false := by simp only [Net.valid, h2, decide_false, Bool.and_false, Bool.false_and]
    simp (disch := first | assumption | omega | (simp only [az]; done)) only [ru, eq_self, if_true, if_false, BEq.rfl, binI, AO.row?, splice, fillL, mmAll, loadV, storeV, zeros, Am.rowAt, Am.part, addOff, Nat.reduceAdd, Nat.reduceMul, Nat.reduceLeDiff, Nat.reduceSub, Nat.reduceLT, Int.reduceEq, Int.reduceLT, Int.reduceLE, Int.reduceGT, Int.reduceGE, Int.reduceAdd, Int.reduceSub, Int.reduceMul, Int.reduceNeg, Int.reduceToNat, reduceCtorEq, reduceIte, lenV_sl H.g, view_sl H.g, scalar_sl H.g, cells_sl H.g, pure_sl H.g, lenV_sl H.p, view_sl H.p, scalar_sl H.p, cells_sl H.p, pure_sl H.p, s87, h1, h2', e, gUn, decide_false]
  have h2' : (n.hs.length : Int) ≤ 6 := by omega
  cases h4 : n.hs.all holOk
  · have e : n.valid = false := by simp only [Net.valid, h4, Bool.and_false, Bool.false_and]
    simp (disch := first | assumption | omega | (simp only [az]; done)) only [ru, eq_self, if_true, if_false, BEq.rfl, binI, AO.row?, splice, fillL, mmAll, loadV, storeV, zeros, Am.rowAt, Am.part, addOff, Nat.reduceAdd, Nat.reduceMul, Nat.reduceLeDiff, Nat.reduceSub, Nat.reduceLT, Int.reduceEq, Int.reduceLT, Int.reduceLE, Int.reduceGT, Int.reduceGE, Int.reduceAdd, Int.reduceSub, Int.reduceMul, Int.reduceNeg, Int.reduceToNat, reduceCtorEq, reduceIte, lenV_sl H.g, view_sl H.g, scalar_sl H.g, cells_sl H.g, pure_sl H.g, lenV_sl H.p, view_sl H.p, scalar_sl H.p, cells_sl H.p, pure_sl H.p, s87, h1, h2', e, c89, view_fn, h4, gUn, decide_true]
  by_cases h3 : n.ps.length ≤ 8
  case neg =>
    have h3' : ¬ (n.ps.length : Int) ≤ 8 := by omega
    have e : n.valid = false := by simp only [Net.valid, h3, decide_false, Bool.and_false, Bool.false_and]
    simp (disch := first | assumption | omega | (simp only [az]; done)) only [ru, eq_self, if_true, if_false, BEq.rfl, binI, AO.row?, splice, fillL, mmAll, loadV, storeV, zeros, Am.rowAt, Am.part, addOff, Nat.reduceAdd, Nat.reduceMul, Nat.reduceLeDiff, Nat.reduceSub, Nat.reduceLT, Int.reduceEq, Int.reduceLT, Int.reduceLE, Int.reduceGT, Int.reduceGE, Int.reduceAdd, Int.reduceSub, Int.reduceMul, Int.reduceNeg, Int.reduceToNat, reduceCtorEq, reduceIte, lenV_sl H.g, view_sl H.g, scalar_sl H.g, cells_sl H.g, pure_sl H.g, lenV_sl H.p, view_sl H.p, scalar_sl H.p, cells_sl H.p, pure_sl H.p, s87, h1, h2', h3', e, c89, view_fn, h4, gUn, decide_true, decide_false]
  have h3' : (n.ps.length : Int) ≤ 8 := by omega
  cases h5 : n.ps.all (parOk n)
  · have e : n.valid = false := by simp only [Net.valid, h5, Bool.and_false, Bool.false_and]
    simp (disch := first | assumption | omega | (simp only [az]; done)) only [ru, eq_self, if_true, if_false, BEq.rfl, binI, AO.row?, splice, fillL, mmAll, loadV, storeV, zeros, Am.rowAt, Am.part, addOff, Nat.reduceAdd, Nat.reduceMul, Nat.reduceLeDiff, Nat.reduceSub, Nat.reduceLT, Int.reduceEq, Int.reduceLT, Int.reduceLE, Int.reduceGT, Int.reduceGE, Int.reduceAdd, Int.reduceSub, Int.reduceMul, Int.reduceNeg, Int.reduceToNat, reduceCtorEq, reduceIte, lenV_sl H.g, view_sl H.g, scalar_sl H.g, cells_sl H.g, pure_sl H.g, lenV_sl H.p, view_sl H.p, scalar_sl H.p, cells_sl H.p, pure_sl H.p, s87, h1, h2', h3', e, c89, c90, view_fn, h4, h5, gUn, decide_true]
  have e : n.valid = decide ((ords n).length ≠ 0) := by simp only [Net.valid, h1, h2, h3, h4, h5, decide_true, Bool.true_and]
  simp (disch := first | assumption | omega | (simp only [az]; done)) only [ru, eq_self, if_true, if_false, BEq.rfl, binI, AO.row?, splice, fillL, mmAll, loadV, storeV, zeros, Am.rowAt, Am.part, addOff, Nat.reduceAdd, Nat.reduceMul, Nat.reduceLeDiff, Nat.reduceSub, Nat.reduceLT, Int.reduceEq, Int.reduceLT, Int.reduceLE, Int.reduceGT, Int.reduceGE, Int.reduceAdd, Int.reduceSub, Int.reduceMul, Int.reduceNeg, Int.reduceToNat, reduceCtorEq, reduceIte, lenV_sl H.g, view_sl H.g, scalar_sl H.g, cells_sl H.g, pure_sl H.g, lenV_sl H.p, view_sl H.p, scalar_sl H.p, cells_sl H.p, pure_sl H.p, s87, h1, h2', h3', e, c89, c90, c91, view_fn, h4, h5, gUn, decide_true]
theorem s18 (H : NetOk n g p) (st : Bool) : Iso E 18 [netV n g p] st = some (I (chk n.valid)) := by
  have c1 := fun st => s59 H st
  simp only [netV] at c1
  refine Iso_of (es _ _ _ _) e18 ?_
  simp only [f18, netV, chk]
  cases hv : n.valid
  · simp (disch := first | assumption | omega | (simp only [az]; done)) only [ru, eq_self, if_true, if_false, BEq.rfl, binI, AO.row?, splice, fillL, mmAll, loadV, storeV, zeros, Am.rowAt, Am.part, addOff, Nat.reduceAdd, Nat.reduceMul, Nat.reduceLeDiff, Nat.reduceSub, Nat.reduceLT, Int.reduceEq, Int.reduceLT, Int.reduceLE, Int.reduceGT, Int.reduceGE, Int.reduceAdd, Int.reduceSub, Int.reduceMul, Int.reduceNeg, Int.reduceToNat, reduceCtorEq, reduceIte, lenV_sl H.g, view_sl H.g, scalar_sl H.g, cells_sl H.g, pure_sl H.g, lenV_sl H.p, view_sl H.p, scalar_sl H.p, cells_sl H.p, pure_sl H.p, c1, hv, Bool.not_false, Bool.false_eq_true]
  · simp (disch := first | assumption | omega | (simp only [az]; done)) only [ru, eq_self, if_true, if_false, BEq.rfl, binI, AO.row?, splice, fillL, mmAll, loadV, storeV, zeros, Am.rowAt, Am.part, addOff, Nat.reduceAdd, Nat.reduceMul, Nat.reduceLeDiff, Nat.reduceSub, Nat.reduceLT, Int.reduceEq, Int.reduceLT, Int.reduceLE, Int.reduceGT, Int.reduceGE, Int.reduceAdd, Int.reduceSub, Int.reduceMul, Int.reduceNeg, Int.reduceToNat, reduceCtorEq, reduceIte, lenV_sl H.g, view_sl H.g, scalar_sl H.g, cells_sl H.g, pure_sl H.g, lenV_sl H.p, view_sl H.p, scalar_sl H.p, cells_sl H.p, pure_sl H.p, c1, hv, Bool.not_true]
theorem s20 (H : NetOk n g p) (V : IsSl 1 intL l v) (hl : l.length ≤ 1000) (st : Bool) : Iso E 20 [netV n g p, v] st = some (gooR n l) := by
  have c1 := fun st => s18 H st
  have c2 := fun st => s62 H V hl st
  simp only [netV, chk] at c1 c2
  refine Iso_of (es _ _ _ _) e20 ?_
  simp only [f20, netV, gooR]
  cases hv : n.valid
  · simp only [hv, Bool.false_eq_true, if_false] at c1
    simp (disch := first | assumption | omega | (simp only [az]; done)) only [ru, eq_self, if_true, if_false, BEq.rfl, binI, AO.row?, splice, fillL, mmAll, loadV, storeV, zeros, Am.rowAt, Am.part, addOff, Nat.reduceAdd, Nat.reduceMul, Nat.reduceLeDiff, Nat.reduceSub, Nat.reduceLT, Int.reduceEq, Int.reduceLT, Int.reduceLE, Int.reduceGT, Int.reduceGE, Int.reduceAdd, Int.reduceSub, Int.reduceMul, Int.reduceNeg, Int.reduceToNat, reduceCtorEq, reduceIte, lenV_sl H.g, view_sl H.g, scalar_sl H.g, cells_sl H.g, pure_sl H.g, lenV_sl H.p, view_sl H.p, scalar_sl H.p, cells_sl H.p, pure_sl H.p, c1, decide_true, decide_false]
  simp only [hv, if_true] at c1
  simp (disch := first | assumption | omega | (simp only [az]; done)) only [ru, eq_self, if_true, if_false, BEq.rfl, binI, AO.row?, splice, fillL, mmAll, loadV, storeV, zeros, Am.rowAt, Am.part, addOff, Nat.reduceAdd, Nat.reduceMul, Nat.reduceLeDiff, Nat.reduceSub, Nat.reduceLT, Int.reduceEq, Int.reduceLT, Int.reduceLE, Int.reduceGT, Int.reduceGE, Int.reduceAdd, Int.reduceSub, Int.reduceMul, Int.reduceNeg, Int.reduceToNat, reduceCtorEq, reduceIte, lenV_sl H.g, view_sl H.g, scalar_sl H.g, cells_sl H.g, pure_sl H.g, lenV_sl H.p, view_sl H.p, scalar_sl H.p, cells_sl H.p, pure_sl H.p, lenV_sl V, view_sl V, scalar_sl V, cells_sl V, pure_sl V, c1, c2, decide_true, decide_false, bne_self_eq_false]
end
def nilC : AV → Option AV
  | .ptr o off => some (.ptr o off)
  | .cptr c => some (.cptr c)
  | .fn f a b => some (.fn f a b)
  | .yld o => some (.yld o)
  | _ => none
theorem pex_nilC {ρ : Opd → AV} {x : Opd} : pex ρ (.nilCheck x) = nilC (ρ x) := by simp only [pex, nilC]; cases ρ x <;> rfl
/-! the first of the least, as the program keeps it -/
def sel2 {α : Type} (b : Option (Int × α)) (c : Int × α) : Option (Int × α) :=
  match b with
  | none => some c
  | some x => if c.1 < x.1 then some c else some x
def lsC (d : AV) : Option (Int × AV) → List AV
  | none => [I 0, d, Bo false]
  | some x => [I x.1, x.2, Bo true]
theorem s84 {b : Option (Int × AV)} {h : List AO} {o lim : Nat} (ho : h[o]? = some (.cells (lsC (I 0) b) false)) (hlim : lim ≤ o) (w a : Int) : R E (.fn 84) [.ptr o 0, I w, I a] h lim = some (.tup [], h.set o (.cells (lsC (I 0) (sel2 b (a, I w))) false)) := by
  refine (fun x => ?_ : (∃ r h', R E (.fn 84) [.ptr o 0, I w, I a] h lim = some (r, h') ∧ (r = .tup [] ∧ h' = h.set o (.cells (lsC (I 0) (sel2 b (a, I w))) false))) → _) (R_of _ (es _ _ _ _) e84 ?_)
  · obtain ⟨r, h', hr, rfl, rfl⟩ := x; exact hr
  simp only [f84]
  cases b with
  | none =>
    simp only [lsC] at ho
    simp (disch := first | assumption | omega | (simp only [az]; done)) only [ru, eq_self, if_true, if_false, BEq.rfl, binI, AO.row?, splice, fillL, mmAll, loadV, storeV, zeros, Am.rowAt, Am.part, addOff, Nat.reduceAdd, Nat.reduceMul, Nat.reduceLeDiff, Nat.reduceSub, Nat.reduceLT, Int.reduceEq, Int.reduceLT, Int.reduceLE, Int.reduceGT, Int.reduceGE, Int.reduceAdd, Int.reduceSub, Int.reduceMul, Int.reduceNeg, Int.reduceToNat, reduceCtorEq, reduceIte, ho, hlim, gUn, pex_nilC, nilC, Bool.not_false, fin0, fin0n, sel2, lsC]
  | some x =>
    obtain ⟨y, z⟩ := x
    simp only [lsC] at ho
    by_cases hc : a < y
    · simp (disch := first | assumption | omega | (simp only [az]; done)) only [ru, eq_self, if_true, if_false, BEq.rfl, binI, AO.row?, splice, fillL, mmAll, loadV, storeV, zeros, Am.rowAt, Am.part, addOff, Nat.reduceAdd, Nat.reduceMul, Nat.reduceLeDiff, Nat.reduceSub, Nat.reduceLT, Int.reduceEq, Int.reduceLT, Int.reduceLE, Int.reduceGT, Int.reduceGE, Int.reduceAdd, Int.reduceSub, Int.reduceMul, Int.reduceNeg, Int.reduceToNat, reduceCtorEq, reduceIte, ho, hlim, gUn, pex_nilC, nilC, Bool.not_true, hc, decide_true, fin0, fin0n, sel2, lsC]
    · simp (disch := first | assumption | omega | (simp only [az]; done)) only [ru, eq_self, if_true, if_false, BEq.rfl, binI, AO.row?, splice, fillL, mmAll, loadV, storeV, zeros, Am.rowAt, Am.part, addOff, Nat.reduceAdd, Nat.reduceMul, Nat.reduceLeDiff, Nat.reduceSub, Nat.reduceLT, Int.reduceEq, Int.reduceLT, Int.reduceLE, Int.reduceGT, Int.reduceGE, Int.reduceAdd, Int.reduceSub, Int.reduceMul, Int.reduceNeg, Int.reduceToNat, reduceCtorEq, reduceIte, ho, hlim, gUn, pex_nilC, nilC, Bool.not_true, hc, decide_false, fin0, fin0n, sel2, lsC]
      exact (set_same ho).symm
theorem s96 {b : Option (Int × AV)} {h : List AO} {o lim : Nat} (ho : h[o]? = some (.cells (lsC .nils b) false)) (hlim : lim ≤ o) {w : AV} (w1 : w.cells = [w]) (w2 : w.scalar = true) (a : Int) : R E (.fn 96) [.ptr o 0, w, I a] h lim = some (.tup [], h.set o (.cells (lsC .nils (sel2 b (a, w))) false)) := by
  refine (fun x => ?_ : (∃ r h', R E (.fn 96) [.ptr o 0, w, I a] h lim = some (r, h') ∧ (r = .tup [] ∧ h' = h.set o (.cells (lsC .nils (sel2 b (a, w))) false))) → _) (R_of _ (es _ _ _ _) e96 ?_)
  · obtain ⟨r, h', hr, rfl, rfl⟩ := x; exact hr
  simp only [f96]
  cases b with
  | none =>
    simp only [lsC] at ho
    simp (disch := first | assumption | omega | (simp only [az]; done)) only [ru, eq_self, if_true, if_false, BEq.rfl, binI, AO.row?, splice, fillL, mmAll, loadV, storeV, zeros, Am.rowAt, Am.part, addOff, Nat.reduceAdd, Nat.reduceMul, Nat.reduceLeDiff, Nat.reduceSub, Nat.reduceLT, Int.reduceEq, Int.reduceLT, Int.reduceLE, Int.reduceGT, Int.reduceGE, Int.reduceAdd, Int.reduceSub, Int.reduceMul, Int.reduceNeg, Int.reduceToNat, reduceCtorEq, reduceIte, ho, hlim, gUn, pex_nilC, nilC, Bool.not_false, fin0, fin0n, sel2, lsC, w1, w2]
  | some x =>
    obtain ⟨y, z⟩ := x
    simp only [lsC] at ho
    by_cases hc : a < y
    · simp (disch := first | assumption | omega | (simp only [az]; done)) only [ru, eq_self, if_true, if_false, BEq.rfl, binI, AO.row?, splice, fillL, mmAll, loadV, storeV, zeros, Am.rowAt, Am.part, addOff, Nat.reduceAdd, Nat.reduceMul, Nat.reduceLeDiff, Nat.reduceSub, Nat.reduceLT, Int.reduceEq, Int.reduceLT, Int.reduceLE, Int.reduceGT, Int.reduceGE, Int.reduceAdd, Int.reduceSub, Int.reduceMul, Int.reduceNeg, Int.reduceToNat, reduceCtorEq, reduceIte, ho, hlim, gUn, pex_nilC, nilC, Bool.not_true, hc, decide_true, fin0, fin0n, sel2, lsC, w1, w2]
    · simp (disch := first | assumption | omega | (simp only [az]; done)) only [ru, eq_self, if_true, if_false, BEq.rfl, binI, AO.row?, splice, fillL, mmAll, loadV, storeV, zeros, Am.rowAt, Am.part, addOff, Nat.reduceAdd, Nat.reduceMul, Nat.reduceLeDiff, Nat.reduceSub, Nat.reduceLT, Int.reduceEq, Int.reduceLT, Int.reduceLE, Int.reduceGT, Int.reduceGE, Int.reduceAdd, Int.reduceSub, Int.reduceMul, Int.reduceNeg, Int.reduceToNat, reduceCtorEq, reduceIte, ho, hlim, gUn, pex_nilC, nilC, Bool.not_true, hc, decide_false, fin0, fin0n, sel2, lsC, w1, w2]
      exact (set_same ho).symm
def sooS (l : List Int) : Nat → Option (Int × AV)
  | 0 => none
  | k + 1 => some (l.getD (soo l (k + 1)) 0, I (soo l (k + 1)))
theorem sooS_step {l : List Int} {k : Nat} : sel2 (sooS l k) (l.getD k 0, I (k : Int)) = sooS l (k + 1) := by
  cases k with
  | zero =>
    have e : soo l (0 + 1) = 0 := by rw [soo, soo]; split <;> rfl
    simp only [sooS, e]; rfl
  | succ k =>
    have e : soo l (k + 1 + 1) = if l.getD (k + 1) 0 < l.getD (soo l (k + 1)) 0 then k + 1 else soo l (k + 1) := rfl
    simp only [sooS, e, sel2]
    split <;> rfl
theorem s94 {l : List Int} {v : AV} (V : IsSl 1 intL l v) (hl : l.length ≤ 1000) (st : Bool) : Iso E 94 [v] st = some (I (soo l l.length)) := by
  have ev := elem_in V
  refine Iso_of (es _ _ _ _) e94 ?_
  simp only [f94]
  simp (disch := first | assumption | omega | (simp only [az]; done)) only [ru, eq_self, if_true, if_false, BEq.rfl, binI, AO.row?, splice, fillL, mmAll, loadV, storeV, zeros, Am.rowAt, Am.part, addOff, Nat.reduceAdd, Nat.reduceMul, Nat.reduceLeDiff, Nat.reduceSub, Nat.reduceLT, Int.reduceEq, Int.reduceLT, Int.reduceLE, Int.reduceGT, Int.reduceGE, Int.reduceAdd, Int.reduceSub, Int.reduceMul, Int.reduceNeg, Int.reduceToNat, reduceCtorEq, reduceIte, lenV_sl V, view_sl V, scalar_sl V, cells_sl V, pure_sl V]
  refine G_loop_ind (fun m ts h mk => ∃ k : Nat, k ≤ l.length ∧ m = l.length - k ∧ ts.length = 19 ∧ ts.getD 3 .undef = .ptr 0 0 ∧ ts.getD 6 .undef = v ∧ ts.getD 7 .undef = I l.length ∧ ts.getD 8 .undef = I k ∧ h = [.cells (lsC (I 0) (sooS l k)) false] ∧ mk = []) ?_ _ _ _ _
    ⟨0, Nat.zero_le _, rfl, rfl, rfl, rfl, rfl, rfl, rfl, rfl⟩
  rintro m ts h mk ih ⟨k, hk, rfl, hl', q3, q6, q7, q8, rfl, rfl⟩
  rw [lit_all hl']
  simp only [lit0, litS, Nat.reduceAdd, q3, q6, q7, q8]
  simp (disch := first | assumption | omega | (simp only [az]; done)) only [ru, eq_self, if_true, if_false, BEq.rfl, binI, AO.row?, splice, fillL, mmAll, loadV, storeV, zeros, Am.rowAt, Am.part, addOff, Nat.reduceAdd, Nat.reduceMul, Nat.reduceLeDiff, Nat.reduceSub, Nat.reduceLT, Int.reduceEq, Int.reduceLT, Int.reduceLE, Int.reduceGT, Int.reduceGE, Int.reduceAdd, Int.reduceSub, Int.reduceMul, Int.reduceNeg, Int.reduceToNat, reduceCtorEq, reduceIte, lenV_sl V, view_sl V, scalar_sl V, cells_sl V, pure_sl V]
  by_cases hlt : (k : Int) < l.length
  case pos =>
    have hr := s84 (b := sooS l k) (h := [.cells (lsC (I 0) (sooS l k)) false]) (o := 0) (lim := 0) rfl (Nat.le_refl _) k (l.getD k 0)
    rw [sooS_step, List.set_cons_zero] at hr
    simp (disch := first | assumption | omega | (simp only [az]; done)) only [ru, eq_self, if_true, if_false, BEq.rfl, binI, AO.row?, splice, fillL, mmAll, loadV, storeV, zeros, Am.rowAt, Am.part, addOff, Nat.reduceAdd, Nat.reduceMul, Nat.reduceLeDiff, Nat.reduceSub, Nat.reduceLT, Int.reduceEq, Int.reduceLT, Int.reduceLE, Int.reduceGT, Int.reduceGE, Int.reduceAdd, Int.reduceSub, Int.reduceMul, Int.reduceNeg, Int.reduceToNat, reduceCtorEq, reduceIte, hlt, ev, Int.toNat_natCast, exOp_call0, hr]
    exact ih (l.length - (k + 1)) _ _ _ (by omega) ⟨k + 1, by omega, rfl, rfl, rfl, rfl, rfl, rfl, rfl, rfl⟩
  have ek : k = l.length := by omega
  have e : ∃ x b, lsC (I 0) (sooS l k) = [x, I (soo l l.length), b] := by
    rw [ek]
    cases hh : l.length with
    | zero => exact ⟨_, _, rfl⟩
    | succ j => exact ⟨_, _, rfl⟩
  obtain ⟨x, b, e⟩ := e
  rw [e]
  simp (disch := first | assumption | omega | (simp only [az]; done)) only [ru, eq_self, if_true, if_false, BEq.rfl, binI, AO.row?, splice, fillL, mmAll, loadV, storeV, zeros, Am.rowAt, Am.part, addOff, Nat.reduceAdd, Nat.reduceMul, Nat.reduceLeDiff, Nat.reduceSub, Nat.reduceLT, Int.reduceEq, Int.reduceLT, Int.reduceLE, Int.reduceGT, Int.reduceGE, Int.reduceAdd, Int.reduceSub, Int.reduceMul, Int.reduceNeg, Int.reduceToNat, reduceCtorEq, reduceIte, hlt]
end Go.Proofs.Ytekoplcnlhanbaa.S

/-
When holes are mended: as the program reckons it; losses.
-/
namespace Go.Proofs.Ytekoplcnlhanbaa.S
open Go Go.Am Go.Proofs.Ytekoplcnlhanbaa.T
set_option maxRecDepth 100000
set_option linter.unusedSimpArgs false
set_option linter.unusedVariables false

/-- six hours, of which the first are those of the holes -/
def pad (l : List Int) : List Int := l ++ List.replicate (6 - l.length) 0
theorem pad_len {l : List Int} (h : l.length ≤ 6) : (pad l).length = 6 := by simp [pad]; omega
theorem pad_at {l : List Int} {i : Nat} (h : i < l.length) : (pad l).getD i 0 = l.getD i 0 := by
  rw [pad, List.getD_eq_getElem?_getD, List.getElem?_append_left h, ← List.getD_eq_getElem?_getD]
theorem pad_set {l : List Int} {i : Nat} (h : i < l.length) (x : Int) : (pad l).set i x = pad (l.set i x) := by
  rw [pad, pad, List.set_append_left _ _ h, List.length_set]
theorem pad_flat {l : List Int} (h : l.length ≤ 6) : ((pad l).flatMap intL).length = 6 := by rw [flat1, pad_len h]
theorem pad0 {n : Net} (h : n.hs.length ≤ 6) : pad (List.replicate n.hs.length 0) = List.replicate 6 0 := by
  rw [pad, List.length_replicate, List.replicate_append_replicate]; congr 1; omega
/-- the hours, as an array -/
def arrV (l : List Int) : AV := .agg ((pad l).flatMap intL)
theorem six {α : Type} {l : List α} (h : l.length = 6) : ∃ a b c d e f, l = [a, b, c, d, e, f] := by
  match l, h with
  | [a, b, c, d, e, f], _ => exact ⟨a, b, c, d, e, f, rfl⟩
theorem arr6 {l : List Int} (h : l.length ≤ 6) : ∃ a b c d e f, (pad l).flatMap intL = [I a, I b, I c, I d, I e, I f] := by
  obtain ⟨a, b, c, d, e, f, e1⟩ := six (pad_len h)
  exact ⟨a, b, c, d, e, f, by rw [e1]; rfl⟩
section
variable {n : Net} {g p : AV} {l : List Int} {v : AV}
set_option maxHeartbeats 8000000 in
theorem s64 (H : NetOk n g p) (G : NetG n) (V : IsSl 1 intL l v) (hl : l.length ≤ 6) (hin : ∀ i, i < l.length → 0 ≤ l.getD i 0 ∧ l.getD i 0 < n.hs.length) (st : Bool) : Iso E 64 [netV n g p, v] st = some (arrV (tms n l)) := by
  have sg := H.sg; have sp := H.sp
  have k6 := G.h.le
  have m1 := G.m1; have m2 := G.m2
  obtain ⟨M, hM⟩ : ∃ M : Nat, n.m = M := ⟨n.m.toNat, by omega⟩
  have ev := elem_in V
  refine Iso_of (es _ _ _ _) e64 ?_
  simp only [f64, netV]
  rw [hM]
  have z2 : (0 : Int) ≤ M ∧ (M : Int) ≤ M ∧ (8 * (M : Int) ≤ 140737488355328) ∧ 1 ≤ 8 := by omega
  simp (disch := first | assumption | omega | (simp only [az]; done)) only [ru, eq_self, if_true, if_false, BEq.rfl, binI, AO.row?, splice, fillL, mmAll, loadV, storeV, zeros, Am.rowAt, Am.part, addOff, Nat.reduceAdd, Nat.reduceMul, Nat.reduceLeDiff, Nat.reduceSub, Nat.reduceLT, Int.reduceEq, Int.reduceLT, Int.reduceLE, Int.reduceGT, Int.reduceGE, Int.reduceAdd, Int.reduceSub, Int.reduceMul, Int.reduceNeg, Int.reduceToNat, reduceCtorEq, reduceIte, lenV_sl H.g, view_sl H.g, scalar_sl H.g, cells_sl H.g, pure_sl H.g, lenV_sl H.p, view_sl H.p, scalar_sl H.p, cells_sl H.p, pure_sl H.p, lenV_sl V, view_sl V, scalar_sl V, cells_sl V, pure_sl V, exOp_mk, Int.toNat_natCast, z2, rep_int]
  refine G_loop_ind (fun m ts h mk => ∃ i : Nat, i ≤ l.length ∧ m = l.length - i ∧ ts.length = 75 ∧ ts.getD 2 .undef = .ptr 0 0 ∧ ts.getD 4 .undef = .ptr 1 0 ∧ ts.getD 5 .undef = .ptr 2 0 ∧ ts.getD 6 .undef = .ms 1 3 0 M ∧ ts.getD 17 .undef = v ∧ ts.getD 18 .undef = I l.length ∧ ts.getD 19 .undef = I i ∧ h[0]? = some (.cells [I M, g, p] false) ∧ h[1]? = some (.cells [I 0, I 0, I 0, I 0, I 0, I 0] false) ∧ h[2]? = some (.cells ((pad (tms2 n (l.take i)).1).flatMap intL) false) ∧ h[3]? = some (.cells ((tms2 n (l.take i)).2.flatMap intL) false) ∧ mk = []) ?_ _ _ _ _
    ⟨0, Nat.zero_le _, rfl, rfl, rfl, rfl, rfl, rfl, rfl, rfl, rfl, rfl, rfl, by
      show some (AO.cells [I 0, I 0, I 0, I 0, I 0, I 0] false) = some (.cells ((pad (List.replicate n.hs.length (0 : Int))).flatMap intL) false)
      rw [pad0 k6]; rfl, by simp [tms2, st0, hM], rfl⟩
  rintro m ts h mk ih ⟨i, hi, rfl, hl', q2, q4, q5, q6, q17, q18, q19, h0, h1, h2, h3, rfl⟩
  rw [lit_all hl']
  simp only [lit0, litS, Nat.reduceAdd, q2, q4, q5, q6, q17, q18, q19]
  simp (disch := first | assumption | omega | (simp only [az]; done)) only [ru, eq_self, if_true, if_false, BEq.rfl, binI, AO.row?, splice, fillL, mmAll, loadV, storeV, zeros, Am.rowAt, Am.part, addOff, Nat.reduceAdd, Nat.reduceMul, Nat.reduceLeDiff, Nat.reduceSub, Nat.reduceLT, Int.reduceEq, Int.reduceLT, Int.reduceLE, Int.reduceGT, Int.reduceGE, Int.reduceAdd, Int.reduceSub, Int.reduceMul, Int.reduceNeg, Int.reduceToNat, reduceCtorEq, reduceIte]
  by_cases hlt : (i : Int) < l.length
  case neg =>
    obtain rfl : i = l.length := by omega
    rw [List.take_length] at h2
    have lo := (tms2_len (n := n) (l := l)).1
    obtain ⟨a, b, c, d, e, f, e6⟩ := arr6 (l := tms n l) (by show (tms2 n l).1.length ≤ 6; omega)
    have h2' : h[2]? = some (.cells [I a, I b, I c, I d, I e, I f] false) := by rw [h2]; exact congrArg (fun x => some (AO.cells x false)) e6
    have n1 := (List.getElem?_eq_some_iff.1 h1).1
    have k1 : (h.set 1 (.cells [I a, I b, I c, I d, I e, I f] false))[1]? = some (.cells [I a, I b, I c, I d, I e, I f] false) := List.getElem?_set_self n1
    have ea : arrV (tms n l) = .agg [I a, I b, I c, I d, I e, I f] := by unfold arrV; rw [e6]
    rw [ea]
    simp (disch := first | assumption | omega | (simp only [az]; done)) only [ru, eq_self, if_true, if_false, BEq.rfl, binI, AO.row?, splice, fillL, mmAll, loadV, storeV, zeros, Am.rowAt, Am.part, addOff, Nat.reduceAdd, Nat.reduceMul, Nat.reduceLeDiff, Nat.reduceSub, Nat.reduceLT, Int.reduceEq, Int.reduceLT, Int.reduceLE, Int.reduceGT, Int.reduceGE, Int.reduceAdd, Int.reduceSub, Int.reduceMul, Int.reduceNeg, Int.reduceToNat, reduceCtorEq, reduceIte, hlt, h1, h2', k1, finC, getRes, Option.some.injEq, exists_eq_left', view_agg, view_int]
  have hi' : i < l.length := by omega
  obtain ⟨x0, x1⟩ := hin i hi'
  obtain ⟨x, hx⟩ : ∃ x, x = l.getD i 0 := ⟨_, rfl⟩
  rw [← hx] at x0 x1
  have lt := tms2_len (n := n) (l := l.take i)
  have bd := tms_le G.h (l := l.take i)
  have lti : (l.take i).length = i := by rw [List.length_take]; omega
  rw [lti] at bd
  obtain ⟨out, hout⟩ : ∃ o, o = (tms2 n (l.take i)).1 := ⟨_, rfl⟩
  obtain ⟨fre, hfre⟩ : ∃ o, o = (tms2 n (l.take i)).2 := ⟨_, rfl⟩
  have nxt : tms2 n (l.take (i + 1)) = (out.set x.toNat (vAt n out fre x), fre.set (soo fre fre.length) (vAt n out fre x)) := by
    rw [take_snoc (d := 0) hi', tms2_snoc, ← hx, stp, ← hout, ← hfre]
  rw [← hout] at h2 lt bd
  rw [← hfre] at h3 lt bd
  have lf : fre.length = M := by have := lt.2; omega
  have lo6 : out.length ≤ 6 := by omega
  have n0 := (List.getElem?_eq_some_iff.1 h0).1
  have n1 := (List.getElem?_eq_some_iff.1 h1).1
  have n2 := (List.getElem?_eq_some_iff.1 h2).1
  have n3 := (List.getElem?_eq_some_iff.1 h3).1
  have fh := fun {j : Nat} (hj : j < fre.length) => flat_head (F := fre) hj
  have oh := fun {j : Nat} (hj : j < (pad out).length) => flat_head (F := pad out) hj
  have pl6 := pad_len lo6
  have fv : ∀ st, view st h 8 (.ms 1 3 0 M) = some (slV 1 intL fre) := fun st => by
    rw [← lf]; exact RdC.view (enc := intL) ⟨3, rfl, h3⟩ intE intIv
  have FV := slV_is (esz := 1) (enc := intL) (l := fre)
  have c94 := fun st => s94 FV (by omega) st
  rw [lf] at c94
  have hw := soo_in (l := fre) (Nat.le_refl M) (m := M) (by omega)
  obtain ⟨w, hwd⟩ : ∃ w, w = soo fre M := ⟨_, rfl⟩
  rw [← hwd] at hw c94
  have hw' : (w : Int) < M := by omega
  have f1 := fh (j := w) (by omega)
  have eg := elem_hl H.g x x0 x1
  have ye := G.h.at x
  obtain ⟨y, hy⟩ : ∃ y, y = n.hs.getD x.toNat default := ⟨_, rfl⟩
  rw [← hy] at eg ye
  have em : mmx true (fre.getD w 0) y.f = mx (fre.getD w 0) y.f := rfl
  obtain ⟨b0, hb0⟩ : ∃ b, b = mx (fre.getD w 0) y.f := ⟨_, rfl⟩
  rw [← hb0] at em
  simp (disch := first | assumption | omega | (simp only [az]; done)) only [ru, eq_self, if_true, if_false, BEq.rfl, binI, AO.row?, splice, fillL, mmAll, loadV, storeV, zeros, Am.rowAt, Am.part, addOff, Nat.reduceAdd, Nat.reduceMul, Nat.reduceLeDiff, Nat.reduceSub, Nat.reduceLT, Int.reduceEq, Int.reduceLT, Int.reduceLE, Int.reduceGT, Int.reduceGE, Int.reduceAdd, Int.reduceSub, Int.reduceMul, Int.reduceNeg, Int.reduceToNat, reduceCtorEq, reduceIte, ev, Int.toNat_natCast, hlt, ← hx, lenV_sl H.g, view_sl H.g, scalar_sl H.g, cells_sl H.g, pure_sl H.g, lenV_sl H.p, view_sl H.p, scalar_sl H.p, cells_sl H.p, pure_sl H.p, lenV_sl FV, view_sl FV, scalar_sl FV, cells_sl FV, pure_sl FV, fv, c94, eg, h0, h3, f1, Nat.mul_one, em, hw']
  clear hl' q2 q4 q5 q6 q17 q18 q19
  refine G_loop_ind (fun m ts hh mk => ∃ j : Nat, j ≤ n.ps.length ∧ m = n.ps.length - j ∧ ts.length = 75 ∧ ts.getD 2 .undef = .ptr 0 0 ∧ ts.getD 4 .undef = .ptr 1 0 ∧ ts.getD 5 .undef = .ptr 2 0 ∧ ts.getD 6 .undef = .ms 1 3 0 M ∧ ts.getD 8 .undef = I x ∧ ts.getD 9 .undef = I w ∧ ts.getD 10 .undef = I (beg out x (n.ps.take j) b0) ∧ ts.getD 17 .undef = v ∧ ts.getD 18 .undef = I l.length ∧ ts.getD 19 .undef = I i ∧ ts.getD 39 .undef = p ∧ ts.getD 40 .undef = I n.ps.length ∧ ts.getD 41 .undef = I j ∧
      hh[0]? = some (.cells [I M, g, p] false) ∧ hh[1]? = some (.cells [I 0, I 0, I 0, I 0, I 0, I 0] false) ∧ hh[2]? = some (.cells ((pad out).flatMap intL) false) ∧ hh[3]? = some (.cells (fre.flatMap intL) false) ∧ mk = []) ?_ _ _ _ _
    ⟨0, Nat.zero_le _, rfl, rfl, rfl, rfl, rfl, rfl, rfl, rfl, rfl, rfl, rfl, rfl, rfl, rfl, rfl, h0, h1, h2, h3, rfl⟩
  rintro m ts hh mk ihj ⟨j, hj, rfl, hl', q2, q4, q5, q6, q8, q9, q10, q17, q18, q19, q39, q40, q41, k0, k1, k2, k3, rfl⟩
  rw [lit_all hl']
  simp only [lit0, litS, Nat.reduceAdd, q2, q4, q5, q6, q8, q9, q10, q17, q18, q19, q39, q40, q41]
  simp (disch := first | assumption | omega | (simp only [az]; done)) only [ru, eq_self, if_true, if_false, BEq.rfl, binI, AO.row?, splice, fillL, mmAll, loadV, storeV, zeros, Am.rowAt, Am.part, addOff, Nat.reduceAdd, Nat.reduceMul, Nat.reduceLeDiff, Nat.reduceSub, Nat.reduceLT, Int.reduceEq, Int.reduceLT, Int.reduceLE, Int.reduceGT, Int.reduceGE, Int.reduceAdd, Int.reduceSub, Int.reduceMul, Int.reduceNeg, Int.reduceToNat, reduceCtorEq, reduceIte]
  have m0 := (List.getElem?_eq_some_iff.1 k0).1
  have mm1 := (List.getElem?_eq_some_iff.1 k1).1
  have mm2 := (List.getElem?_eq_some_iff.1 k2).1
  have m3 := (List.getElem?_eq_some_iff.1 k3).1
  by_cases hjt : (j : Int) < n.ps.length
  case pos =>
    have hj' : j < n.ps.length := by omega
    have ep := elem_pr H.p
    obtain ⟨z, hz⟩ : ∃ z, z = n.ps.getD j default := ⟨_, rfl⟩
    have zp := G.p z (by rw [hz]; exact getD_mem hj')
    have e2 : beg out x (n.ps.take (j + 1)) b0 = if z.b = x then mx (beg out x (n.ps.take j) b0) (out.getD z.a.toNat 0) else beg out x (n.ps.take j) b0 := by
      rw [take_snoc (d := default) hj', beg_app, ← hz]
    have f3 := oh (j := z.a.toNat) (by omega)
    rw [pad_at (by have := lt.1; omega)] at f3
    have e3 : mmx true (beg out x (n.ps.take j) b0) (out.getD z.a.toNat 0) = mx (beg out x (n.ps.take j) b0) (out.getD z.a.toNat 0) := rfl
    have za : 0 ≤ z.a ∧ z.a < 6 := by omega
    by_cases c : z.b = x
    · rw [if_pos c] at e2
      simp (disch := first | assumption | omega | (simp only [az]; done)) only [ru, eq_self, if_true, if_false, BEq.rfl, binI, AO.row?, splice, fillL, mmAll, loadV, storeV, zeros, Am.rowAt, Am.part, addOff, Nat.reduceAdd, Nat.reduceMul, Nat.reduceLeDiff, Nat.reduceSub, Nat.reduceLT, Int.reduceEq, Int.reduceLT, Int.reduceLE, Int.reduceGT, Int.reduceGE, Int.reduceAdd, Int.reduceSub, Int.reduceMul, Int.reduceNeg, Int.reduceToNat, reduceCtorEq, reduceIte, lenV_sl H.p, view_sl H.p, scalar_sl H.p, cells_sl H.p, pure_sl H.p, ep, Int.toNat_natCast, hjt, ← hz, atE, setE, at_ap, mm2, c, k2, za, f3, Nat.mul_one, e3, decide_true]
      exact ihj (n.ps.length - (j + 1)) _ _ _ (by omega) ⟨j + 1, by omega, rfl, rfl, rfl, rfl, rfl, rfl, rfl, rfl, by rw [e2]; rfl, rfl, rfl, rfl, rfl, rfl, rfl, by rw [at_ap m0]; exact k0, by rw [at_ap mm1]; exact k1, by rw [at_ap mm2]; exact k2, by rw [at_ap m3]; exact k3, rfl⟩
    · rw [if_neg c] at e2
      simp (disch := first | assumption | omega | (simp only [az]; done)) only [ru, eq_self, if_true, if_false, BEq.rfl, binI, AO.row?, splice, fillL, mmAll, loadV, storeV, zeros, Am.rowAt, Am.part, addOff, Nat.reduceAdd, Nat.reduceMul, Nat.reduceLeDiff, Nat.reduceSub, Nat.reduceLT, Int.reduceEq, Int.reduceLT, Int.reduceLE, Int.reduceGT, Int.reduceGE, Int.reduceAdd, Int.reduceSub, Int.reduceMul, Int.reduceNeg, Int.reduceToNat, reduceCtorEq, reduceIte, lenV_sl H.p, view_sl H.p, scalar_sl H.p, cells_sl H.p, pure_sl H.p, ep, Int.toNat_natCast, hjt, ← hz, atE, setE, c, decide_false]
      exact ihj (n.ps.length - (j + 1)) _ _ _ (by omega) ⟨j + 1, by omega, rfl, rfl, rfl, rfl, rfl, rfl, rfl, rfl, by rw [e2]; rfl, rfl, rfl, rfl, rfl, rfl, rfl, by rw [at_ap m0]; exact k0, by rw [at_ap mm1]; exact k1, by rw [at_ap mm2]; exact k2, by rw [at_ap m3]; exact k3, rfl⟩
  have ejp : j = n.ps.length := by omega
  rw [ejp, List.take_length]
  clear ihj hl' q2 q4 q5 q6 q8 q9 q10 q17 q18 q19 q39 q40 q41
  have hpp : ¬ (n.ps.length : Int) < n.ps.length := by omega
  have vd : vAt n out fre x = beg out x n.ps b0 + y.h := by unfold vAt; rw [lf, ← hwd, ← hy, ← hb0]
  have vb : 0 ≤ beg out x n.ps b0 + y.h ∧ beg out x n.ps b0 + y.h ≤ 200 := by
    rw [← vd]
    have := (tms_le G.h (l := l.take (i + 1))).1 x.toNat
    rw [nxt, List.length_take] at this
    simp only [List.getD_eq_getElem?_getD] at this
    rw [List.getElem?_set_self (by have := lt.1; omega)] at this
    simp only [Option.getD_some] at this
    omega
  obtain ⟨V2, hV2⟩ : ∃ V2, V2 = beg out x n.ps b0 + y.h := ⟨_, rfl⟩
  rw [lf, ← hwd, vd, ← hV2] at nxt
  have p1 := int_put (l := pad out) (i := x.toNat) (by omega) V2
  rw [pad_set (by have := lt.1; omega)] at p1
  have p2 := int_put (l := fre) (i := w) (by omega) V2
  have fl1 : ((pad out).flatMap intL).length = (pad out).length := flat1 _
  have fl2 : (fre.flatMap intL).length = fre.length := flat1 _
  have oh2 := flat_head (F := pad (out.set x.toNat V2)) (i := x.toNat) (by rw [pad_len (by simpa using lo6)]; omega)
  rw [pad_at (by rw [List.length_set]; have := lt.1; omega)] at oh2
  have gs : (out.set x.toNat V2).getD x.toNat 0 = V2 := by
    rw [List.getD_eq_getElem?_getD, List.getElem?_set_self (by have := lt.1; omega)]; rfl
  rw [gs] at oh2
  obtain ⟨R1, hR1⟩ : ∃ R1, R1 = (pad out).flatMap intL := ⟨_, rfl⟩
  obtain ⟨R2, hR2⟩ : ∃ R2, R2 = fre.flatMap intL := ⟨_, rfl⟩
  obtain ⟨R3, hR3⟩ : ∃ R3, R3 = (pad (out.set x.toNat V2)).flatMap intL := ⟨_, rfl⟩
  rw [← hR1, ← hR3] at p1
  rw [← hR1] at k2 fl1
  rw [← hR2] at k3 p2 fl2
  rw [← hR3] at oh2
  have fit1 : x.toNat + 1 ≤ R1.length := by omega
  have fit2 : w + 1 ≤ R2.length := by omega
  have x6 : x < 6 := by omega
  obtain ⟨H3, hH3⟩ : ∃ H3, H3 = hh.set 2 (.cells (R1.take x.toNat ++ [I V2] ++ R1.drop (x.toNat + 1)) false) := ⟨_, rfl⟩
  have j0 : H3[0]? = some (.cells [I M, g, p] false) := by rw [hH3, List.getElem?_set_ne (by omega)]; exact k0
  have j1 : H3[1]? = some (.cells [I 0, I 0, I 0, I 0, I 0, I 0] false) := by rw [hH3, List.getElem?_set_ne (by omega)]; exact k1
  have j2 : H3[2]? = some (.cells R3 false) := by rw [hH3, List.getElem?_set_self (by omega), p1]
  have j3 : H3[3]? = some (.cells R2 false) := by rw [hH3, List.getElem?_set_ne (by omega)]; exact k3
  have l3 : H3.length = hh.length := by rw [hH3]; simp
  obtain ⟨H4, hH4⟩ : ∃ H4, H4 = H3.set 3 (.cells (R2.take w ++ [I V2] ++ R2.drop (w + 1)) false) := ⟨_, rfl⟩
  simp (disch := first | assumption | omega | (simp only [az]; done)) only [ru, eq_self, if_true, if_false, BEq.rfl, binI, AO.row?, splice, fillL, mmAll, loadV, storeV, zeros, Am.rowAt, Am.part, addOff, Nat.reduceAdd, Nat.reduceMul, Nat.reduceLeDiff, Nat.reduceSub, Nat.reduceLT, Int.reduceEq, Int.reduceLT, Int.reduceLE, Int.reduceGT, Int.reduceGE, Int.reduceAdd, Int.reduceSub, Int.reduceMul, Int.reduceNeg, Int.reduceToNat, reduceCtorEq, reduceIte, hpp, lenV_sl H.g, view_sl H.g, scalar_sl H.g, cells_sl H.g, pure_sl H.g, lenV_sl H.p, view_sl H.p, scalar_sl H.p, cells_sl H.p, pure_sl H.p, eg, Int.toNat_natCast, k0, k2, x0, x1, x6, ← hV2, Nat.mul_one, fit1, ← hH3, j2, j3, oh2, hw', fit2, ← hH4]
  refine ih (l.length - (i + 1)) _ _ _ (by omega) ⟨i + 1, by omega, rfl, rfl, rfl, rfl, rfl, rfl, rfl, rfl, rfl, ?_, ?_, ?_, ?_, rfl⟩
  · rw [hH4, List.getElem?_set_ne (by omega)]; exact j0
  · rw [hH4, List.getElem?_set_ne (by omega)]; exact j1
  · rw [hH4, List.getElem?_set_ne (by omega), nxt, j2, hR3]
  · rw [hH4, List.getElem?_set_self (by omega), nxt, p2]
end
end Go.Proofs.Ytekoplcnlhanbaa.S

/-
Losses and the end by the program; Times and Lost.
-/
namespace Go.Proofs.Ytekoplcnlhanbaa.S
open Go Go.Am Go.Proofs.Ytekoplcnlhanbaa.T
set_option maxRecDepth 100000
set_option linter.unusedSimpArgs false
set_option linter.unusedVariables false

section
variable {n : Net} {g p : AV} {l : List Int} {v : AV}
theorem arr_pt {o : List Int} {i : Nat} (hi : i < o.length) (h6 : o.length ≤ 6) : (((pad o).flatMap intL).drop i).head? = some (I (o.getD i 0)) := by
  rw [← pad_at hi]; exact flat_head (by rw [pad_len h6]; omega)
set_option maxHeartbeats 4000000 in
theorem s67 (H : NetOk n g p) (G : NetG n) (V : IsSl 1 intL l v) (hl : l.length ≤ 6) (hin : ∀ i, i < l.length → 0 ≤ l.getD i 0 ∧ l.getD i 0 < n.hs.length) (st : Bool) : Iso E 67 [netV n g p, v] st = some (.agg [I (los n (loR n) l), I (worst n l)]) := by
  have k6 := G.h.le
  have c64 := fun st => s64 H G V hl hin st
  have tl := (tms2_len (n := n) (l := l)).1
  have td := (tms_le G.h (l := l)).1
  have e3 := elem_hl H.g
  obtain ⟨t, ht⟩ : ∃ t, t = tms n l := ⟨_, rfl⟩
  have tl' : t.length = n.hs.length := by rw [ht]; exact tl
  have td' : ∀ j, 0 ≤ t.getD j 0 ∧ t.getD j 0 ≤ 74 := fun j => by
    have := td j; rw [ht]; show 0 ≤ (tms2 n l).1.getD j 0 ∧ (tms2 n l).1.getD j 0 ≤ 74; omega
  have ap := fun {i : Nat} (hi : i < t.length) => arr_pt hi (by omega)
  have a6 := pad_flat (l := t) (by omega)
  simp only [netV, arrV, ← ht] at c64
  obtain ⟨T, hT⟩ : ∃ T, T = (pad t).flatMap intL := ⟨_, rfl⟩
  rw [← hT] at a6
  simp only [← hT] at c64 ap
  have Tsc : T.all AV.scalar = true := by rw [hT]; exact flat_sc _
  have Tdr : [] ++ T ++ List.drop (0 + 6) [I 0, I 0, I 0, I 0, I 0, I 0] = T := by simp
  refine Iso_of (es _ _ _ _) e67 ?_
  simp only [f67, netV]
  simp (disch := first | assumption | omega | (simp only [az]; done)) only [ru, eq_self, if_true, if_false, BEq.rfl, binI, AO.row?, splice, fillL, mmAll, loadV, storeV, zeros, Am.rowAt, Am.part, addOff, Nat.reduceAdd, Nat.reduceMul, Nat.reduceLeDiff, Nat.reduceSub, Nat.reduceLT, Int.reduceEq, Int.reduceLT, Int.reduceLE, Int.reduceGT, Int.reduceGE, Int.reduceAdd, Int.reduceSub, Int.reduceMul, Int.reduceNeg, Int.reduceToNat, reduceCtorEq, reduceIte, lenV_sl H.g, view_sl H.g, scalar_sl H.g, cells_sl H.g, pure_sl H.g, lenV_sl H.p, view_sl H.p, scalar_sl H.p, cells_sl H.p, pure_sl H.p, lenV_sl V, view_sl V, scalar_sl V, cells_sl V, pure_sl V, c64, a6, Tsc, List.take_zero, List.nil_append, List.drop_nil, List.append_nil, List.drop_succ_cons, List.drop_zero]
  refine G_loop_ind (fun m ts h mk => ∃ i : Nat, i ≤ n.hs.length ∧ m = n.hs.length - i ∧ ∃ a b : Int, (a = sm ((ofN (List.range i)).map (lterm n (loR n) l)) ∧ -400 * i ≤ a ∧ a ≤ 2000 * i) ∧ (b = sm ((ofN (List.range i)).map (lterm n (hiR n) l)) ∧ -400 * i ≤ b ∧ b ≤ 2000 * i) ∧ ts.length = 48 ∧ ts.getD 2 .undef = .ptr 0 0 ∧ ts.getD 4 .undef = .ptr 1 0 ∧ ts.getD 5 .undef = .ptr 2 0 ∧ ts.getD 6 .undef = .ptr 3 0 ∧ ts.getD 15 .undef = g ∧ ts.getD 16 .undef = I n.hs.length ∧ ts.getD 17 .undef = I i ∧
    h[1]? = some (.cells [I 0, I 0] false) ∧ h[2]? = some (.cells [I a, I b] false) ∧ h[3]? = some (.cells T false) ∧ mk = []) ?_ _ _ _ _
    ⟨0, Nat.zero_le _, rfl, 0, 0, ⟨rfl, by omega, by omega⟩, ⟨rfl, by omega, by omega⟩, rfl, rfl, rfl, rfl, rfl, rfl, rfl, rfl, rfl, rfl, rfl, rfl⟩
  rintro m ts h mk ih ⟨i, hi, rfl, a, b, ⟨ea, a0, a1⟩, ⟨eb, b0, b1⟩, hl', q2, q4, q5, q6, q15, q16, q17, h1, h2, h3, rfl⟩
  rw [lit_all hl']
  simp only [lit0, litS, Nat.reduceAdd, q2, q4, q5, q6, q15, q16, q17]
  simp (disch := first | assumption | omega | (simp only [az]; done)) only [ru, eq_self, if_true, if_false, BEq.rfl, binI, AO.row?, splice, fillL, mmAll, loadV, storeV, zeros, Am.rowAt, Am.part, addOff, Nat.reduceAdd, Nat.reduceMul, Nat.reduceLeDiff, Nat.reduceSub, Nat.reduceLT, Int.reduceEq, Int.reduceLT, Int.reduceLE, Int.reduceGT, Int.reduceGE, Int.reduceAdd, Int.reduceSub, Int.reduceMul, Int.reduceNeg, Int.reduceToNat, reduceCtorEq, reduceIte]
  have n1 := (List.getElem?_eq_some_iff.1 h1).1
  have n2 := (List.getElem?_eq_some_iff.1 h2).1
  have n3 := (List.getElem?_eq_some_iff.1 h3).1
  by_cases hlt : (i : Int) < n.hs.length
  case neg =>
    obtain rfl : i = n.hs.length := by omega
    have k1 : (h.set 1 (.cells [I a, I b] false))[1]? = some (.cells [I a, I b] false) := List.getElem?_set_self n1
    have w1 : los n (loR n) l = a := by rw [los_eq, ea]
    have w2 : worst n l = b := by rw [eb]; rfl
    rw [w1, w2]
    simp (disch := first | assumption | omega | (simp only [az]; done)) only [ru, eq_self, if_true, if_false, BEq.rfl, binI, AO.row?, splice, fillL, mmAll, loadV, storeV, zeros, Am.rowAt, Am.part, addOff, Nat.reduceAdd, Nat.reduceMul, Nat.reduceLeDiff, Nat.reduceSub, Nat.reduceLT, Int.reduceEq, Int.reduceLT, Int.reduceLE, Int.reduceGT, Int.reduceGE, Int.reduceAdd, Int.reduceSub, Int.reduceMul, Int.reduceNeg, Int.reduceToNat, reduceCtorEq, reduceIte, hlt, h1, h2, k1, finC, getRes, Option.some.injEq, exists_eq_left', view_agg, view_int]
  have i6 : (i : Int) < 6 := by omega
  have i0 : (0 : Int) ≤ i := by omega
  have api := ap (i := i) (by omega)
  have tdi := td' i
  have hx := G.h.at (i : Int)
  simp only [Int.toNat_natCast] at hx
  have es1 : sm ((ofN (List.range (i + 1))).map (lterm n (loR n) l)) = a + (n.hs.getD i default).lo * (t.getD i 0 - (n.hs.getD i default).f) := by
    rw [ofN_succ, map_snoc, ← ea, lterm, ← ht]; rfl
  have es2 : sm ((ofN (List.range (i + 1))).map (lterm n (hiR n) l)) = b + (n.hs.getD i default).hi * (t.getD i 0 - (n.hs.getD i default).f) := by
    rw [ofN_succ, map_snoc, ← eb, lterm, ← ht]; rfl
  obtain ⟨x, hxx⟩ : ∃ x, x = n.hs.getD i default := ⟨_, rfl⟩
  rw [← hxx] at hx es1 es2
  obtain ⟨ti, hti⟩ : ∃ q, q = t.getD i 0 := ⟨_, rfl⟩
  rw [← hti] at api tdi es1 es2
  have t1 := term_bd (r := x.lo) (d := ti - x.f) (by omega) (by omega) (by omega) (by omega)
  have t2 := term_bd (r := x.hi) (d := ti - x.f) (by omega) (by omega) (by omega) (by omega)
  obtain ⟨H2, hH2⟩ : ∃ H2, H2 = h ++ [AO.cells [I x.f, I x.lo, I x.hi, I x.h] false] := ⟨_, rfl⟩
  have k1 : H2[1]? = some (.cells [I 0, I 0] false) := by rw [hH2, at_ap n1]; exact h1
  have k2 : H2[2]? = some (.cells [I a, I b] false) := by rw [hH2, at_ap n2]; exact h2
  have k3 : H2[3]? = some (.cells T false) := by rw [hH2, at_ap n3]; exact h3
  obtain ⟨o, ho⟩ : ∃ o, o = h.length := ⟨_, rfl⟩
  have k4 : H2[o]? = some (.cells [I x.f, I x.lo, I x.hi, I x.h] false) := by rw [hH2, ho]; exact atE
  have l2 : H2.length = o + 1 := by rw [hH2, ho]; simp
  have atO : ∀ X : AO, (h ++ [X])[o]? = some X := fun X => by rw [ho]; exact atE
  have stO : ∀ X Y : AO, (h ++ [X]).set o Y = h ++ [Y] := fun X Y => by rw [ho]; exact setE
  obtain ⟨a2, ha2⟩ : ∃ q, q = a + x.lo * (ti - x.f) := ⟨_, rfl⟩
  obtain ⟨b2, hb2⟩ : ∃ q, q = b + x.hi * (ti - x.f) := ⟨_, rfl⟩
  obtain ⟨H3, hH3⟩ : ∃ H3, H3 = H2.set 2 (.cells [I a2, I b] false) := ⟨_, rfl⟩
  have j1 : H3[1]? = some (.cells [I 0, I 0] false) := by rw [hH3, List.getElem?_set_ne (by omega)]; exact k1
  have j2 : H3[2]? = some (.cells [I a2, I b] false) := by rw [hH3, List.getElem?_set_self (by omega)]
  have j3 : H3[3]? = some (.cells T false) := by rw [hH3, List.getElem?_set_ne (by omega)]; exact k3
  have j4 : H3[o]? = some (.cells [I x.f, I x.lo, I x.hi, I x.h] false) := by rw [hH3, List.getElem?_set_ne (by omega)]; exact k4
  have l3 : H3.length = o + 1 := by rw [hH3]; simpa using l2
  have w3 : ∀ X, (H3.set 2 X)[2]? = some X := fun X => List.getElem?_set_self (by omega)
  simp (disch := first | assumption | omega | (simp only [az]; done)) only [ru, eq_self, if_true, if_false, BEq.rfl, binI, AO.row?, splice, fillL, mmAll, loadV, storeV, zeros, Am.rowAt, Am.part, addOff, Nat.reduceAdd, Nat.reduceMul, Nat.reduceLeDiff, Nat.reduceSub, Nat.reduceLT, Int.reduceEq, Int.reduceLT, Int.reduceLE, Int.reduceGT, Int.reduceGE, Int.reduceAdd, Int.reduceSub, Int.reduceMul, Int.reduceNeg, Int.reduceToNat, reduceCtorEq, reduceIte, lenV_sl H.g, view_sl H.g, scalar_sl H.g, cells_sl H.g, pure_sl H.g, e3, Int.toNat_natCast, hlt, ← hxx, ← ho, atO, stO, ← hH2, k2, k3, k4, i0, i6, api, Nat.mul_one, ← ha2, ← hH3, j2, j4, ← hb2]
  exact ih (n.hs.length - (i + 1)) _ _ _ (by omega) ⟨i + 1, by omega, rfl, a2, b2, ⟨by rw [es1, ha2], by rw [ha2]; omega, by rw [ha2]; omega⟩, ⟨by rw [es2, hb2], by rw [hb2]; omega, by rw [hb2]; omega⟩, rfl, rfl, rfl, rfl, rfl, rfl, rfl, rfl, by rw [List.getElem?_set_ne (by omega)]; exact j1, by exact w3 _, by rw [List.getElem?_set_ne (by omega)]; exact j3, rfl⟩
theorem s71r (H : NetOk n g p) (G : NetG n) {h : List AO} (V : RdS h v l) (hl : l.length ≤ 6) (hin : ∀ i, i < l.length → 0 ≤ l.getD i 0 ∧ l.getD i 0 < n.hs.length) : Ro E 71 [netV n g p, v] h = some (I (worst n l)) := by
  have c1 := fun st => s67 H G (resL_is l) hl hin st
  have vw := fun st => (V.fr (Fr.app h [AO.cells [I n.m, g, p] false])).view (st := st) (k := 7)
  have VL := resL_is l
  obtain ⟨lv, hlv⟩ : ∃ u, u = resL l := ⟨_, rfl⟩
  rw [← hlv] at VL
  simp only [netV, ← hlv] at c1 vw
  refine Ro_of (es _ _ _ _) e71 ?_
  simp only [f71, netV]
  simp (disch := first | assumption | omega | (simp only [az]; done)) only [ru, eq_self, if_true, if_false, BEq.rfl, binI, AO.row?, splice, fillL, mmAll, loadV, storeV, zeros, Am.rowAt, Am.part, addOff, Nat.reduceAdd, Nat.reduceMul, Nat.reduceLeDiff, Nat.reduceSub, Nat.reduceLT, Int.reduceEq, Int.reduceLT, Int.reduceLE, Int.reduceGT, Int.reduceGE, Int.reduceAdd, Int.reduceSub, Int.reduceMul, Int.reduceNeg, Int.reduceToNat, reduceCtorEq, reduceIte, lenV_sl H.g, view_sl H.g, scalar_sl H.g, cells_sl H.g, pure_sl H.g, lenV_sl H.p, view_sl H.p, scalar_sl H.p, cells_sl H.p, pure_sl H.p, lenV_sl VL, view_sl VL, scalar_sl VL, cells_sl VL, pure_sl VL, atE, vw, c1]
  rfl
theorem mxs6 {a b c d e f : Int} (st : Bool) : Iso E 97 [.cs 1 6 [I a, I b, I c, I d, I e, I f]] st = some (I (mx (mx (mx (mx (mx a b) c) d) e) f)) := by
  have V : IsSl 1 intL [a, b, c, d, e, f] (.cs 1 6 [I a, I b, I c, I d, I e, I f]) := .inl rfl
  have ev := elem_in V
  obtain ⟨v, hv⟩ : ∃ v, v = AV.cs 1 6 [I a, I b, I c, I d, I e, I f] := ⟨_, rfl⟩
  rw [← hv] at V ev ⊢
  have lv := lenV_sl V
  have g0 := ev 0 (by omega) (by show (0 : Int) < ((6 : Nat) : Int); omega)
  have g1 := ev 1 (by omega) (by show (1 : Int) < ((6 : Nat) : Int); omega)
  have g2 := ev 2 (by omega) (by show (2 : Int) < ((6 : Nat) : Int); omega)
  have g3 := ev 3 (by omega) (by show (3 : Int) < ((6 : Nat) : Int); omega)
  have g4 := ev 4 (by omega) (by show (4 : Int) < ((6 : Nat) : Int); omega)
  have g5 := ev 5 (by omega) (by show (5 : Int) < ((6 : Nat) : Int); omega)
  have h0 : elemAt 1 v (I 0) = some (.cptr [I a]) := g0
  have h1 : elemAt 1 v (I 1) = some (.cptr [I b]) := g1
  have h2 : elemAt 1 v (I 2) = some (.cptr [I c]) := g2
  have h3 : elemAt 1 v (I 3) = some (.cptr [I d]) := g3
  have h4 : elemAt 1 v (I 4) = some (.cptr [I e]) := g4
  have h5 : elemAt 1 v (I 5) = some (.cptr [I f]) := g5
  have lv6 : lenV v = some (I 6) := lv
  have w1 : ∀ x y : Int, mmx true x y = mx x y := fun x y => rfl
  refine Iso_of (es _ _ _ _) e97 ?_
  simp only [f97]
  simp (disch := first | assumption | omega | (simp only [az]; done)) only [ru, eq_self, if_true, if_false, BEq.rfl, binI, AO.row?, splice, fillL, mmAll, loadV, storeV, zeros, Am.rowAt, Am.part, addOff, Nat.reduceAdd, Nat.reduceMul, Nat.reduceLeDiff, Nat.reduceSub, Nat.reduceLT, Int.reduceEq, Int.reduceLT, Int.reduceLE, Int.reduceGT, Int.reduceGE, Int.reduceAdd, Int.reduceSub, Int.reduceMul, Int.reduceNeg, Int.reduceToNat, reduceCtorEq, reduceIte, lv6, h0, decide_false]
  rw [G_loop]; simp (disch := first | assumption | omega | (simp only [az]; done)) only [ru, eq_self, if_true, if_false, BEq.rfl, binI, AO.row?, splice, fillL, mmAll, loadV, storeV, zeros, Am.rowAt, Am.part, addOff, Nat.reduceAdd, Nat.reduceMul, Nat.reduceLeDiff, Nat.reduceSub, Nat.reduceLT, Int.reduceEq, Int.reduceLT, Int.reduceLE, Int.reduceGT, Int.reduceGE, Int.reduceAdd, Int.reduceSub, Int.reduceMul, Int.reduceNeg, Int.reduceToNat, reduceCtorEq, reduceIte, lv6, h1, w1, decide_true]
  rw [G_loop]; simp (disch := first | assumption | omega | (simp only [az]; done)) only [ru, eq_self, if_true, if_false, BEq.rfl, binI, AO.row?, splice, fillL, mmAll, loadV, storeV, zeros, Am.rowAt, Am.part, addOff, Nat.reduceAdd, Nat.reduceMul, Nat.reduceLeDiff, Nat.reduceSub, Nat.reduceLT, Int.reduceEq, Int.reduceLT, Int.reduceLE, Int.reduceGT, Int.reduceGE, Int.reduceAdd, Int.reduceSub, Int.reduceMul, Int.reduceNeg, Int.reduceToNat, reduceCtorEq, reduceIte, lv6, h2, w1, decide_true]
  rw [G_loop]; simp (disch := first | assumption | omega | (simp only [az]; done)) only [ru, eq_self, if_true, if_false, BEq.rfl, binI, AO.row?, splice, fillL, mmAll, loadV, storeV, zeros, Am.rowAt, Am.part, addOff, Nat.reduceAdd, Nat.reduceMul, Nat.reduceLeDiff, Nat.reduceSub, Nat.reduceLT, Int.reduceEq, Int.reduceLT, Int.reduceLE, Int.reduceGT, Int.reduceGE, Int.reduceAdd, Int.reduceSub, Int.reduceMul, Int.reduceNeg, Int.reduceToNat, reduceCtorEq, reduceIte, lv6, h3, w1, decide_true]
  rw [G_loop]; simp (disch := first | assumption | omega | (simp only [az]; done)) only [ru, eq_self, if_true, if_false, BEq.rfl, binI, AO.row?, splice, fillL, mmAll, loadV, storeV, zeros, Am.rowAt, Am.part, addOff, Nat.reduceAdd, Nat.reduceMul, Nat.reduceLeDiff, Nat.reduceSub, Nat.reduceLT, Int.reduceEq, Int.reduceLT, Int.reduceLE, Int.reduceGT, Int.reduceGE, Int.reduceAdd, Int.reduceSub, Int.reduceMul, Int.reduceNeg, Int.reduceToNat, reduceCtorEq, reduceIte, lv6, h4, w1, decide_true]
  rw [G_loop]; simp (disch := first | assumption | omega | (simp only [az]; done)) only [ru, eq_self, if_true, if_false, BEq.rfl, binI, AO.row?, splice, fillL, mmAll, loadV, storeV, zeros, Am.rowAt, Am.part, addOff, Nat.reduceAdd, Nat.reduceMul, Nat.reduceLeDiff, Nat.reduceSub, Nat.reduceLT, Int.reduceEq, Int.reduceLT, Int.reduceLE, Int.reduceGT, Int.reduceGE, Int.reduceAdd, Int.reduceSub, Int.reduceMul, Int.reduceNeg, Int.reduceToNat, reduceCtorEq, reduceIte, lv6, h5, w1, decide_true]
  rw [G_loop]; simp (disch := first | assumption | omega | (simp only [az]; done)) only [ru, eq_self, if_true, if_false, BEq.rfl, binI, AO.row?, splice, fillL, mmAll, loadV, storeV, zeros, Am.rowAt, Am.part, addOff, Nat.reduceAdd, Nat.reduceMul, Nat.reduceLeDiff, Nat.reduceSub, Nat.reduceLT, Int.reduceEq, Int.reduceLT, Int.reduceLE, Int.reduceGT, Int.reduceGE, Int.reduceAdd, Int.reduceSub, Int.reduceMul, Int.reduceNeg, Int.reduceToNat, reduceCtorEq, reduceIte, lv6, w1, decide_false]
end
end Go.Proofs.Ytekoplcnlhanbaa.S

/-
The end of an order, Times and Lost by the program; the best of all orders.
-/
namespace Go.Proofs.Ytekoplcnlhanbaa.S
open Go Go.Am Go.Proofs.Ytekoplcnlhanbaa.T
set_option maxRecDepth 100000
set_option linter.unusedSimpArgs false
set_option linter.unusedVariables false

section
variable {n : Net} {g p : AV} {l : List Int} {v : AV}
theorem mx_pad {t : List Int} (ht : t.length ≤ 6) {a b c d e f : Int} (h6 : (pad t).flatMap intL = [I a, I b, I c, I d, I e, I f]) (hp : ∀ j, 0 ≤ t.getD j 0) {D : Int} (h1 : 0 ≤ D) (h2 : ∀ i, i < t.length → t.getD i 0 ≤ D) (h3 : ∀ x, 0 ≤ x → (∀ i, i < t.length → t.getD i 0 ≤ x) → D ≤ x) : mx (mx (mx (mx (mx a b) c) d) e) f = D := by
  obtain ⟨a', b', c', d', e', f', e1⟩ := six (pad_len ht)
  have e2 : [I a', I b', I c', I d', I e', I f'] = [I a, I b, I c, I d, I e, I f] := by rw [← h6, e1]; rfl
  simp only [List.cons.injEq, AV.int.injEq, true_and, and_true] at e2
  obtain ⟨rfl, rfl, rfl, rfl, rfl, rfl⟩ := e2
  have el : ∀ i, i < 6 → (pad t).getD i 0 ≤ D ∧ 0 ≤ (pad t).getD i 0 := fun i hi => by
    by_cases c : i < t.length
    · rw [pad_at c]; exact ⟨h2 i c, hp i⟩
    · rw [pad, List.getD_eq_getElem?_getD, List.getElem?_append_right (by omega), List.getElem?_replicate]
      split
      · exact ⟨h1, Int.le_refl _⟩
      · exact ⟨h1, Int.le_refl _⟩
  have g0 := el 0 (by omega); have g1 := el 1 (by omega); have g2 := el 2 (by omega); have g3 := el 3 (by omega); have g4 := el 4 (by omega); have g5 := el 5 (by omega)
  rw [e1] at g0 g1 g2 g3 g4 g5
  have w0 : a' ≤ D ∧ 0 ≤ a' := g0
  have w1 : b' ≤ D ∧ 0 ≤ b' := g1
  have w2 : c' ≤ D ∧ 0 ≤ c' := g2
  have w3 : d' ≤ D ∧ 0 ≤ d' := g3
  have w4 : e' ≤ D ∧ 0 ≤ e' := g4
  have w5 : f' ≤ D ∧ 0 ≤ f' := g5
  refine Int.le_antisymm (mx_le (mx_le (mx_le (mx_le (mx_le w0.1 w1.1) w2.1) w3.1) w4.1) w5.1) ?_
  obtain ⟨R, hR⟩ : ∃ R, R = mx (mx (mx (mx (mx a' b') c') d') e') f' := ⟨_, rfl⟩
  have q5 : f' ≤ R := by rw [hR]; exact le_mx2
  have r5 : mx (mx (mx (mx a' b') c') d') e' ≤ R := by rw [hR]; exact le_mx1
  have q4 : e' ≤ R := Int.le_trans le_mx2 r5
  have r4 : mx (mx (mx a' b') c') d' ≤ R := Int.le_trans le_mx1 r5
  have q3 : d' ≤ R := Int.le_trans le_mx2 r4
  have r3 : mx (mx a' b') c' ≤ R := Int.le_trans le_mx1 r4
  have q2 : c' ≤ R := Int.le_trans le_mx2 r3
  have r2 : mx a' b' ≤ R := Int.le_trans le_mx1 r3
  have q1 : b' ≤ R := Int.le_trans le_mx2 r2
  have q0 : a' ≤ R := Int.le_trans le_mx1 r2
  rw [← hR]
  refine h3 R (by omega) fun i hi => ?_
  rw [← pad_at hi, e1]
  match i, (show i < 6 by omega) with
  | 0, _ => exact q0
  | 1, _ => exact q1
  | 2, _ => exact q2
  | 3, _ => exact q3
  | 4, _ => exact q4
  | 5, _ => exact q5
set_option maxHeartbeats 1000000 in
theorem s77r (H : NetOk n g p) (G : NetG n) {h : List AO} (V : RdS h v l) (hl : l.length ≤ 6) (hin : ∀ i, i < l.length → 0 ≤ l.getD i 0 ∧ l.getD i 0 < n.hs.length) : Ro E 77 [netV n g p, v] h = some (I (dne n l)) := by
  have k6 := G.h.le
  have c1 := fun st => s64 H G (resL_is l) hl hin st
  have vw := fun st => (V.fr (Fr.app h [AO.cells [I n.m, g, p] false])).view (st := st) (k := 7)
  have VL := resL_is l
  obtain ⟨lv, hlv⟩ : ∃ u, u = resL l := ⟨_, rfl⟩
  rw [← hlv] at VL
  have tl : (tms n l).length = n.hs.length := tms2_len.1
  have td := (tms_le G.h (l := l)).1
  obtain ⟨a, b, c, d, e, f, h6⟩ := arr6 (l := tms n l) (by omega)
  have em := mx_pad (t := tms n l) (by omega) h6 (fun j => (td j).1) (dne_at (n := n) (l := l)).1 (fun i hi => dne_at.2 i (by omega)) (fun x x0 hx => dneU_le.2 ⟨x0, fun i hi => hx i (by omega)⟩)
  have c97 := fun st => mxs6 (a := a) (b := b) (c := c) (d := d) (e := e) (f := f) st
  rw [em] at c97
  simp only [netV, arrV, h6, ← hlv] at c1 vw
  obtain ⟨D, hD⟩ : ∃ D, D = dne n l := ⟨_, rfl⟩
  rw [← hD]
  simp only [← hD] at c97
  obtain ⟨o, ho⟩ : ∃ o, o = (h ++ [AO.cells [I n.m, g, p] false]).length := ⟨_, rfl⟩
  obtain ⟨h1, hh1⟩ : ∃ h1, h1 = h ++ [AO.cells [I n.m, g, p] false] := ⟨_, rfl⟩
  rw [← hh1] at ho
  simp only [← hh1] at vw
  have at0 : (h ++ [AO.cells [I n.m, g, p] false])[h.length]? = some (.cells [I n.m, g, p] false) := atE
  rw [← hh1] at at0
  have atO : ∀ X : AO, (h1 ++ [X])[o]? = some X := fun X => by rw [ho]; exact atE
  have stO : ∀ X Y : AO, (h1 ++ [X]).set o Y = h1 ++ [Y] := fun X Y => by rw [ho]; exact setE
  have lo : h.length ≤ o := by rw [ho, hh1]; simp
  have vm : ∀ st, view st (h1 ++ [AO.cells [I a, I b, I c, I d, I e, I f] false]) 8 (.ms 1 o 0 6) = some (.cs 1 6 [I a, I b, I c, I d, I e, I f]) := fun st => by
    have := RdC.view (enc := intL) (esz := 1) (h := h1 ++ [AO.cells [I a, I b, I c, I d, I e, I f] false]) (w := .ms 1 o 0 6) (l := [a, b, c, d, e, f]) ⟨o, rfl, atO _⟩ intE intIv (st := st) (k := 7)
    exact this
  have sa : sliceAW (h1 ++ [AO.cells [I a, I b, I c, I d, I e, I f] false]) 6 1 none (.ptr o 0) = some (.ms 1 o 0 6) := by
    simp only [sliceAW, Am.rowAt, atO, Option.bind_some, AO.row?]; rfl
  refine Ro_of (es _ _ _ _) e77 ?_
  simp only [f77, netV]
  simp (disch := first | assumption | omega | (simp only [az]; done)) only [ru, eq_self, if_true, if_false, BEq.rfl, binI, AO.row?, splice, fillL, mmAll, loadV, storeV, zeros, Am.rowAt, Am.part, addOff, Nat.reduceAdd, Nat.reduceMul, Nat.reduceLeDiff, Nat.reduceSub, Nat.reduceLT, Int.reduceEq, Int.reduceLT, Int.reduceLE, Int.reduceGT, Int.reduceGE, Int.reduceAdd, Int.reduceSub, Int.reduceMul, Int.reduceNeg, Int.reduceToNat, reduceCtorEq, reduceIte, lenV_sl H.g, view_sl H.g, scalar_sl H.g, cells_sl H.g, pure_sl H.g, lenV_sl H.p, view_sl H.p, scalar_sl H.p, cells_sl H.p, pure_sl H.p, lenV_sl VL, view_sl VL, scalar_sl VL, cells_sl VL, pure_sl VL, ← hh1, ← ho, at0, vw, c1, atO, stO, lo, List.drop_succ_cons, List.drop_zero, List.drop_nil, List.take_zero, List.nil_append, List.append_nil, exOp_sliceA, Option.map_none, sa, vm, c97]
  rfl
end
end Go.Proofs.Ytekoplcnlhanbaa.S

/-
Times and Lost by the program; the best of all orders: Least, Order, Done.
-/
namespace Go.Proofs.Ytekoplcnlhanbaa.S
open Go Go.Am Go.Proofs.Ytekoplcnlhanbaa.T
set_option maxRecDepth 100000
set_option linter.unusedSimpArgs false
set_option linter.unusedVariables false

section
variable {n : Net} {g p : AV} {l : List Int} {v : AV}
end

/-! the best of all orders -/
def stV (f : List Int → Int) (D : List (List Int)) (v : AV) : Option (Int × AV) := (lst f D).map fun x => (x.1, v)
def rdV (b : Nat) (f : List Int → Int) (D : List (List Int)) (h : List AO) (v : AV) : Prop := match lst f D with | none => True | some x => RdB b h v x.2
theorem rdV.fk {b : Nat} {f : List Int → Int} {D : List (List Int)} {h h' : List AO} {v : AV} (H : rdV b f D h v) (F : Fk b h h') : rdV b f D h' v := by
  unfold rdV at H ⊢
  cases e : lst f D with
  | none => trivial
  | some x => rw [e] at H; exact H.fk F
theorem stV_step {b : Nat} {f : List Int → Int} {D : List (List Int)} {F : List Int} {h : List AO} {v fv : AV} (H : rdV b f D h v) (R : RdB b h fv F) : ∃ v', sel2 (stV f D v) (f F, fv) = stV f (D ++ [F]) v' ∧ rdV b f (D ++ [F]) h v' := by
  unfold stV rdV at *
  rw [lst_snoc]
  cases e : lst f D with
  | none => exact ⟨fv, rfl, R⟩
  | some x =>
    rw [e] at H
    by_cases c : f F < x.1
    · exact ⟨fv, by simp only [Option.map_some, sel2, sel, c, if_true], by simp only [sel, c, if_true]; exact R⟩
    · exact ⟨v, by simp only [Option.map_some, sel2, sel, c, if_false], by simp only [sel, c, if_false]; exact H⟩
def As70 : ACode := .region 0 [oP 6 (.move (.t 9))]
def Bd70 : ACode := .block 1 (.region 0 [oP 10 (.move (.t 6)),
       oQ 11 (.load false 1 (.t 3)),
       oP 12 (.move (.t 6)),
       oQ 13 (.callv true (.t 11) [(.t 12)]),
       oQ 14 (.call 0 96 [(.t 5), (.t 10), (.t 13)])])
set_option maxHeartbeats 4000000 in
theorem s70 {n : Net} {g p : AV} (H : NetOk n g p) (hne : ords n ≠ []) {fk : Nat} {fs : List AV} {f : List Int → Int} (hf : ∀ (F : List Int) (h : List AO) (fv : AV), RdS h fv F → isO n F → Ro E fk (fs ++ [fv]) h = some (I (f F))) :
    Iso E 70 [netV n g p, .fn fk fs []] false = some (.agg [I (lstN f (ords n)), resL (lstW f (ords n)), Bo true]) := by
  refine Iso_of (es _ _ _ _) e70 ?_
  simp only [f70, netV]
  simp (disch := first | assumption | omega | (simp only [az]; done)) only [ru, eq_self, if_true, if_false, BEq.rfl, binI, AO.row?, splice, fillL, mmAll, loadV, storeV, zeros, Am.rowAt, Am.part, addOff, Nat.reduceAdd, Nat.reduceMul, Nat.reduceLeDiff, Nat.reduceSub, Nat.reduceLT, Int.reduceEq, Int.reduceLT, Int.reduceLE, Int.reduceGT, Int.reduceGE, Int.reduceAdd, Int.reduceSub, Int.reduceMul, Int.reduceNeg, Int.reduceToNat, reduceCtorEq, reduceIte, lenV_sl H.g, view_sl H.g, scalar_sl H.g, cells_sl H.g, pure_sl H.g, lenV_sl H.p, view_sl H.p, scalar_sl H.p, cells_sl H.p, pure_sl H.p, AV.cells, AV.scalar]
  obtain ⟨TS, hTS⟩ : ∃ TS : List AV, TS = [.agg [I n.m, g, p], .fn fk fs [], .ptr 0 0, .ptr 1 0, .ptr 2 0, .ptr 3 0, .undef, .agg [I n.m, g, p], .fn 95 [.agg [I n.m, g, p]] [], .undef, .undef, .undef, .undef, .undef, .undef, .undef] := ⟨_, rfl⟩
  obtain ⟨H1, hH1⟩ : ∃ H1 : List AO, H1 = [.cells [I n.m, g, p] false, .cells [.fn fk fs []] false, .cells [I 0, .nils, Bo false] false, .cells [I 0, .nils, Bo false] false, .dfr, .loop .ready none 70 TS [9] As70 Bd70 4] := ⟨_, rfl⟩
  have key := r95 H (o := 5) (lim := 0) (by omega)
    (P := fun D h => h[1]? = some (.cells [.fn fk fs []] false) ∧ h[2]? = some (.cells [I 0, .nils, Bo false] false) ∧ (∃ v, h[3]? = some (.cells (lsC .nils (stV f D v)) false) ∧ rdV 6 f D h v) ∧ h[4]? = some .dfr ∧ h[5]? = some (.loop .ready none 70 TS [9] As70 Bd70 4)) (Q := fun _ => False)
    (by rintro D h h' ⟨a, b, ⟨v, c, c'⟩, d, e⟩ fr; exact ⟨fr.at a, fr.at b, ⟨v, fr.at c, c'.fk (Fk.of fr)⟩, fr.at d, fr.at e⟩) ?_ (h := H1) (by rw [hH1]; simp) (by rw [hH1]; exact ⟨rfl, rfl, ⟨.nils, rfl, trivial⟩, rfl, rfl⟩)
  · refine G_range_of rfl rfl ?_
    rw [← hTS]
    obtain ⟨r, h3, hr, ⟨g1, g2, ⟨v, g3, g3'⟩, g4, g5⟩ | hq⟩ := key
    case inr => exact hq.elim
    rw [hH1] at hr
    refine ⟨r, h3, .ready, none, 70, TS, [9], As70, Bd70, 4, hr, g5, .inl rfl, ?_⟩
    simp only [Option.getD_none, GE_nrm]
    obtain ⟨h4, hh4⟩ : ∃ h4, h4 = h3.set (([.cells [I n.m, g, p] false, .cells [.fn fk fs []] false, .cells [I 0, .nils, Bo false] false, .cells [I 0, .nils, Bo false] false] : List AO).length + 1) (AO.loop .exhausted none 70 TS [9] As70 Bd70 4) := ⟨_, rfl⟩
    rw [← hh4]
    have eL := lst_eq (f := f) hne
    unfold stV at g3
    unfold rdV at g3'
    rw [eL] at g3 g3'
    obtain ⟨mn_, hmn⟩ : ∃ q, q = lstN f (ords n) := ⟨_, rfl⟩
    obtain ⟨W, hW⟩ : ∃ q, q = lstW f (ords n) := ⟨_, rfl⟩
    rw [← hmn, ← hW] at g3
    simp only [← hW] at g3'
    rw [← hmn, ← hW]
    simp only [Option.map_some, lsC] at g3
    have k2 : h4[2]? = some (.cells [I 0, .nils, Bo false] false) := by rw [hh4, List.getElem?_set_ne (by simp)]; exact g2
    have k3 : h4[3]? = some (.cells [I mn_, v, Bo true] false) := by rw [hh4, List.getElem?_set_ne (by simp)]; exact g3
    have k4 : h4[4]? = some .dfr := by rw [hh4, List.getElem?_set_ne (by simp)]; exact g4
    have l4 : 4 < h4.length := (List.getElem?_eq_some_iff.1 k4).1
    have fk1 : Fk 6 h3 h4 := ⟨by rw [hh4]; simp, fun j hj hl => by rw [hh4, List.getElem?_set_ne (by simp; omega)]⟩
    have rl := g3'.s.len
    have w2 : (h4.set 2 (.cells [I mn_, v, Bo true] false))[2]? = some (.cells [I mn_, v, Bo true] false) := List.getElem?_set_self (by omega)
    have w4 : (h4.set 2 (.cells [I mn_, v, Bo true] false))[4]? = some .dfr := by rw [List.getElem?_set_ne (by omega)]; exact k4
    have fk2 : Fk 6 h3 ((h4.set 2 (.cells [I mn_, v, Bo true] false)).set 4 .tomb) := ⟨by have := fk1.l; simpa using this, fun j hj hl => by rw [List.getElem?_set_ne (by omega), List.getElem?_set_ne (by omega)]; exact fk1.k j hj hl⟩
    have vw := (g3'.fk fk2).s.view (st := false) (k := 6)
    have w3 : ((h4.set 2 (.cells [I mn_, v, Bo true] false)).set 4 .tomb)[2]? = some (.cells [I mn_, v, Bo true] false) := by rw [List.getElem?_set_ne (by omega)]; exact w2
    rw [hTS]
    simp (disch := first | assumption | omega | (simp only [az]; done)) only [ru, eq_self, if_true, if_false, BEq.rfl, binI, AO.row?, splice, fillL, mmAll, loadV, storeV, zeros, Am.rowAt, Am.part, addOff, Nat.reduceAdd, Nat.reduceMul, Nat.reduceLeDiff, Nat.reduceSub, Nat.reduceLT, Int.reduceEq, Int.reduceLT, Int.reduceLE, Int.reduceGT, Int.reduceGE, Int.reduceAdd, Int.reduceSub, Int.reduceMul, Int.reduceNeg, Int.reduceToNat, reduceCtorEq, reduceIte, k2, k3, rl.2.1, rl.2.2]
    refine finM (h' := (h4.set 2 (.cells [I mn_, v, Bo true] false)).set 4 .tomb) (vs := [.agg [I mn_, v, Bo true]]) (.inr rfl) (by simp) ?_ ?_ ?_
    · simp only [takeMarks, List.length_cons, List.length_nil, w4]
    · simp (disch := first | assumption | omega | (simp only [az]; done)) only [ru, eq_self, if_true, if_false, BEq.rfl, binI, AO.row?, splice, fillL, mmAll, loadV, storeV, zeros, Am.rowAt, Am.part, addOff, Nat.reduceAdd, Nat.reduceMul, Nat.reduceLeDiff, Nat.reduceSub, Nat.reduceLT, Int.reduceEq, Int.reduceLT, Int.reduceLE, Int.reduceGT, Int.reduceGE, Int.reduceAdd, Int.reduceSub, Int.reduceMul, Int.reduceNeg, Int.reduceToNat, reduceCtorEq, reduceIte, w3, List.mapM_cons, List.mapM_nil, getRes, Option.bind_eq_bind, Option.pure_def, Option.bind_some]
    · simp (disch := first | assumption | omega | (simp only [az]; done)) only [ru, eq_self, if_true, if_false, BEq.rfl, binI, AO.row?, splice, fillL, mmAll, loadV, storeV, zeros, Am.rowAt, Am.part, addOff, Nat.reduceAdd, Nat.reduceMul, Nat.reduceLeDiff, Nat.reduceSub, Nat.reduceLT, Int.reduceEq, Int.reduceLT, Int.reduceLE, Int.reduceGT, Int.reduceGE, Int.reduceAdd, Int.reduceSub, Int.reduceMul, Int.reduceNeg, Int.reduceToNat, reduceCtorEq, reduceIte, view_agg, List.mapM_cons, List.mapM_nil, view_int, view_bool, vw, Option.bind_eq_bind, Option.pure_def, Option.bind_some, Option.map_some]
  · rintro D F fv h ho ⟨g1, g2, ⟨v, g3, g3'⟩, g4, g5⟩ rd hO
    have rl := rd.s.len
    have := R_rnd_of (E := E) (lim := 0) (args := [fv]) (P := fun r h' => r = Bo true ∧ (h'[1]? = some (.cells [.fn fk fs []] false) ∧ h'[2]? = some (.cells [I 0, .nils, Bo false] false) ∧ (∃ v, h'[3]? = some (.cells (lsC .nils (stV f (D ++ [F]) v)) false) ∧ rdV 6 f (D ++ [F]) h' v) ∧ h'[4]? = some .dfr ∧ h'[5]? = some (.loop .ready none 70 TS [9] As70 Bd70 4)) ∧ Fk 6 h h') g5 rfl (Nat.zero_le _) ?_
    · obtain ⟨r, h', hr, rfl, hp, fk⟩ := this
      exact ⟨true, h', hr, .inl ⟨rfl, hp, fk⟩⟩
    rw [hTS]
    simp only [setAll, List.set_cons_succ, List.set_cons_zero]
    rw [← hTS]
    unfold As70
    simp (disch := first | assumption | omega | (simp only [az]; done)) only [ru, eq_self, if_true, if_false, BEq.rfl, binI, AO.row?, splice, fillL, mmAll, loadV, storeV, zeros, Am.rowAt, Am.part, addOff, Nat.reduceAdd, Nat.reduceMul, Nat.reduceLeDiff, Nat.reduceSub, Nat.reduceLT, Int.reduceEq, Int.reduceLT, Int.reduceLE, Int.reduceGT, Int.reduceGE, Int.reduceAdd, Int.reduceSub, Int.reduceMul, Int.reduceNeg, Int.reduceToNat, reduceCtorEq, reduceIte]
    refine ⟨none, 70, TS, [9], As70, Bd70, 4, g5, ?_⟩
    obtain ⟨h6, hh6⟩ : ∃ h6, h6 = h.set 5 (AO.loop .busy none 70 TS [9] As70 Bd70 4) := ⟨_, rfl⟩
    rw [← hh6]
    have n1 : h6[1]? = some (.cells [.fn fk fs []] false) := by rw [hh6, List.getElem?_set_ne (by omega)]; exact g1
    have n2 : h6[2]? = some (.cells [I 0, .nils, Bo false] false) := by rw [hh6, List.getElem?_set_ne (by omega)]; exact g2
    have n3 : h6[3]? = some (.cells (lsC .nils (stV f D v)) false) := by rw [hh6, List.getElem?_set_ne (by omega)]; exact g3
    have n4 : h6[4]? = some .dfr := by rw [hh6, List.getElem?_set_ne (by omega)]; exact g4
    have n5 : h6[5]? = some (AO.loop .busy none 70 TS [9] As70 Bd70 4) := by rw [hh6, List.getElem?_set_self (by omega)]
    have l6 : h6.length = h.length := by rw [hh6]; simp
    have fk6 : Fk 6 h h6 := ⟨by omega, fun j hj hl => by rw [hh6, List.getElem?_set_ne (by omega)]⟩
    have cf := hf F h6 fv (rd.fk fk6).s hO
    obtain ⟨v', ev', rv'⟩ := stV_step (f := f) g3' rd
    have hr := s96 (lim := 0) n3 (Nat.zero_le _) rl.2.1 rl.2.2 (f F)
    rw [ev'] at hr
    obtain ⟨h7, hh7⟩ : ∃ h7, h7 = h6.set 3 (.cells (lsC .nils (stV f (D ++ [F]) v')) false) := ⟨_, rfl⟩
    rw [← hh7] at hr
    have p1 : h7[1]? = some (.cells [.fn fk fs []] false) := by rw [hh7, List.getElem?_set_ne (by omega)]; exact n1
    have p2 : h7[2]? = some (.cells [I 0, .nils, Bo false] false) := by rw [hh7, List.getElem?_set_ne (by omega)]; exact n2
    have p3 : h7[3]? = some (.cells (lsC .nils (stV f (D ++ [F]) v')) false) := by rw [hh7, List.getElem?_set_self (by omega)]
    have p4 : h7[4]? = some .dfr := by rw [hh7, List.getElem?_set_ne (by omega)]; exact n4
    have p5 : h7[5]? = some (AO.loop .busy none 70 TS [9] As70 Bd70 4) := by rw [hh7, List.getElem?_set_ne (by omega)]; exact n5
    have l7 : h7.length = h.length := by rw [hh7]; simpa using l6
    have fk7 : ∀ X, Fk 6 h (h7.set 5 X) := fun X => ⟨by simp; omega, fun j hj hl => by rw [List.getElem?_set_ne (by omega), hh7, List.getElem?_set_ne (by omega)]; exact fk6.k j hj hl⟩
    unfold Bd70
    simp (disch := first | assumption | omega | (simp only [az]; done)) only [ru, eq_self, if_true, if_false, BEq.rfl, binI, AO.row?, splice, fillL, mmAll, loadV, storeV, zeros, Am.rowAt, Am.part, addOff, Nat.reduceAdd, Nat.reduceMul, Nat.reduceLeDiff, Nat.reduceSub, Nat.reduceLT, Int.reduceEq, Int.reduceLT, Int.reduceLE, Int.reduceGT, Int.reduceGE, Int.reduceAdd, Int.reduceSub, Int.reduceMul, Int.reduceNeg, Int.reduceToNat, reduceCtorEq, reduceIte, n1, exOp_callv1, List.append_nil, cf, exOp_call0, hr]
    refine ⟨.busy, none, 70, TS, [9], As70, Bd70, 4, p5, ?_⟩
    exact ⟨⟨by rw [List.getElem?_set_ne (by omega)]; exact p1, by rw [List.getElem?_set_ne (by omega)]; exact p2, ⟨v', by rw [List.getElem?_set_ne (by omega)]; exact p3, rv'.fk (fk7 _)⟩, by rw [List.getElem?_set_ne (by omega)]; exact p4, by rw [List.getElem?_set_self (by omega)]; rfl⟩, fk7 _⟩
end Go.Proofs.Ytekoplcnlhanbaa.S

/-
Least, Order, Done and First by the program.
-/
namespace Go.Proofs.Ytekoplcnlhanbaa.S
open Go Go.Am Go.Proofs.Ytekoplcnlhanbaa.T
set_option maxRecDepth 100000
set_option linter.unusedSimpArgs false
set_option linter.unusedVariables false

section
variable {n : Net} {g p : AV}
theorem view_cl (H : NetOk n g p) (f : Nat) (h : List AO) : view false h 8 (.fn f [.agg [I n.m, g, p]] []) = some (.fn f [.agg [I n.m, g, p]] []) := by
  have e : view false h 7 (.agg [I n.m, g, p]) = some (.agg [I n.m, g, p]) := by
    show ([I n.m, g, p].mapM (view false h 6)).map AV.agg = _
    simp only [List.mapM_cons, List.mapM_nil, view_int, view_sl H.g, view_sl H.p]; rfl
  show (match [AV.agg [I n.m, g, p]].mapM (view false h 7), ([] : List AV).mapM (view false h 7) with
    | some a', some b' => some (AV.fn f a' b')
    | _, _ => none) = _
  simp only [List.mapM_cons, List.mapM_nil, e]; rfl
theorem c70l (H : NetOk n g p) (G : NetG n) (hne : ords n ≠ []) : Iso E 70 [netV n g p, .fn 71 [netV n g p] []] false = some (.agg [I (lea n), resL (fir n), Bo true]) :=
  s70 H hne (f := worst n) fun F h fv V O => s71r H G V (ord_len G O) fun i hi => ⟨(O.2 i hi).1, (O.2 i hi).2.1⟩
theorem c70d (H : NetOk n g p) (G : NetG n) (hne : ords n ≠ []) : Iso E 70 [netV n g p, .fn 77 [netV n g p] []] false = some (.agg [I (don n), resL (lstW (dne n) (ords n)), Bo true]) :=
  s70 H hne (f := dne n) fun F h fv V O => s77r H G V (ord_len G O) fun i hi => ⟨(O.2 i hi).1, (O.2 i hi).2.1⟩
theorem s29 (H : NetOk n g p) (st : Bool) : Iso E 29 [netV n g p] st = some (leaR n) := by
  have c1 := fun st => s18 H st
  simp only [netV, chk] at c1
  refine Iso_of (es _ _ _ _) e29 ?_
  simp only [f29, netV, leaR]
  cases hv : n.valid
  · simp only [hv, Bool.false_eq_true, if_false] at c1
    simp (disch := first | assumption | omega | (simp only [az]; done)) only [ru, eq_self, if_true, if_false, BEq.rfl, binI, AO.row?, splice, fillL, mmAll, loadV, storeV, zeros, Am.rowAt, Am.part, addOff, Nat.reduceAdd, Nat.reduceMul, Nat.reduceLeDiff, Nat.reduceSub, Nat.reduceLT, Int.reduceEq, Int.reduceLT, Int.reduceLE, Int.reduceGT, Int.reduceGE, Int.reduceAdd, Int.reduceSub, Int.reduceMul, Int.reduceNeg, Int.reduceToNat, reduceCtorEq, reduceIte, lenV_sl H.g, view_sl H.g, scalar_sl H.g, cells_sl H.g, pure_sl H.g, lenV_sl H.p, view_sl H.p, scalar_sl H.p, cells_sl H.p, pure_sl H.p, c1, decide_true, decide_false]
  simp only [hv, if_true] at c1
  have c2 := c70l H (valid_ne hv).1 (valid_ne hv).2
  have vc := view_cl H 71
  obtain ⟨Z, hZ⟩ : ∃ Z, Z = lea n := ⟨_, rfl⟩
  obtain ⟨F, hF⟩ : ∃ F, F = resL (fir n) := ⟨_, rfl⟩
  rw [← hZ] at c2 ⊢
  rw [← hF] at c2
  simp only [netV] at c2
  simp (disch := first | assumption | omega | (simp only [az]; done)) only [ru, eq_self, if_true, if_false, BEq.rfl, binI, AO.row?, splice, fillL, mmAll, loadV, storeV, zeros, Am.rowAt, Am.part, addOff, Nat.reduceAdd, Nat.reduceMul, Nat.reduceLeDiff, Nat.reduceSub, Nat.reduceLT, Int.reduceEq, Int.reduceLT, Int.reduceLE, Int.reduceGT, Int.reduceGE, Int.reduceAdd, Int.reduceSub, Int.reduceMul, Int.reduceNeg, Int.reduceToNat, reduceCtorEq, reduceIte, lenV_sl H.g, view_sl H.g, scalar_sl H.g, cells_sl H.g, pure_sl H.g, lenV_sl H.p, view_sl H.p, scalar_sl H.p, cells_sl H.p, pure_sl H.p, c1, c2, vc, AV.pureV, AV.pureV.go, decide_true, decide_false, bne_self_eq_false]
theorem s35 (H : NetOk n g p) (st : Bool) : Iso E 35 [netV n g p] st = some (donR n) := by
  have c1 := fun st => s18 H st
  simp only [netV, chk] at c1
  refine Iso_of (es _ _ _ _) e35 ?_
  simp only [f35, netV, donR]
  cases hv : n.valid
  · simp only [hv, Bool.false_eq_true, if_false] at c1
    simp (disch := first | assumption | omega | (simp only [az]; done)) only [ru, eq_self, if_true, if_false, BEq.rfl, binI, AO.row?, splice, fillL, mmAll, loadV, storeV, zeros, Am.rowAt, Am.part, addOff, Nat.reduceAdd, Nat.reduceMul, Nat.reduceLeDiff, Nat.reduceSub, Nat.reduceLT, Int.reduceEq, Int.reduceLT, Int.reduceLE, Int.reduceGT, Int.reduceGE, Int.reduceAdd, Int.reduceSub, Int.reduceMul, Int.reduceNeg, Int.reduceToNat, reduceCtorEq, reduceIte, lenV_sl H.g, view_sl H.g, scalar_sl H.g, cells_sl H.g, pure_sl H.g, lenV_sl H.p, view_sl H.p, scalar_sl H.p, cells_sl H.p, pure_sl H.p, c1, decide_true, decide_false]
  simp only [hv, if_true] at c1
  have c2 := c70d H (valid_ne hv).1 (valid_ne hv).2
  have vc := view_cl H 77
  obtain ⟨Z, hZ⟩ : ∃ Z, Z = don n := ⟨_, rfl⟩
  obtain ⟨F, hF⟩ : ∃ F, F = resL (lstW (dne n) (ords n)) := ⟨_, rfl⟩
  rw [← hZ] at c2 ⊢
  rw [← hF] at c2
  simp only [netV] at c2
  simp (disch := first | assumption | omega | (simp only [az]; done)) only [ru, eq_self, if_true, if_false, BEq.rfl, binI, AO.row?, splice, fillL, mmAll, loadV, storeV, zeros, Am.rowAt, Am.part, addOff, Nat.reduceAdd, Nat.reduceMul, Nat.reduceLeDiff, Nat.reduceSub, Nat.reduceLT, Int.reduceEq, Int.reduceLT, Int.reduceLE, Int.reduceGT, Int.reduceGE, Int.reduceAdd, Int.reduceSub, Int.reduceMul, Int.reduceNeg, Int.reduceToNat, reduceCtorEq, reduceIte, lenV_sl H.g, view_sl H.g, scalar_sl H.g, cells_sl H.g, pure_sl H.g, lenV_sl H.p, view_sl H.p, scalar_sl H.p, cells_sl H.p, pure_sl H.p, c1, c2, vc, AV.pureV, AV.pureV.go, decide_true, decide_false, bne_self_eq_false]
/-! whether best orders begin with a hole -/
end
end Go.Proofs.Ytekoplcnlhanbaa.S

/-
Regret and Calm by the program.
-/
namespace Go.Proofs.Ytekoplcnlhanbaa.S
open Go Go.Am Go.Proofs.Ytekoplcnlhanbaa.T
set_option maxRecDepth 100000
set_option linter.unusedSimpArgs false
set_option linter.unusedVariables false

section
variable {n : Net} {g p : AV} {l m : List Int} {v : AV}
end
end Go.Proofs.Ytekoplcnlhanbaa.S

