/-
Functions of both sides of stage 1, one after another (C2).
-/
import Derived.Test.YtjmelmmhnpgneaaC1

/-
What the program answers: Fish, Whole, Came, Passed.
-/
namespace Go.Proofs.Ytjmelmmhnpgneaa.S
open Go Go.Am Go.Proofs.Ytjmelmmhnpgneaa.T
set_option maxRecDepth 100000
set_option linter.unusedSimpArgs false
set_option linter.unusedVariables false

def Trap.C (t : Trap) : Nat := t.ch.toNat
def Trap.T (t : Trap) : Nat := t.tm.toNat
theorem eqC {t : Trap} (hv : t.valid = true) : t.ch = t.C := by
  have := (valid_trb hv).c0
  unfold Trap.C; omega
theorem eqT {t : Trap} (hv : t.valid = true) : t.tm = t.T := by
  have := (valid_trb hv).t0
  unfold Trap.T; omega

section
variable {t : Trap} {o w : AV}
theorem call73 (H : TrOk t o w) (fit : Bool) (h : List AO) :
    ∃ p e K, (∀ {lim : Nat} {ρ : Opd → AV} {x y : Opd}, ρ x = trV t o w → ρ y = Bo fit → exOp (R E) lim none ρ h (.call 2 35 [x, y]) = some (.tup [p, I e], h ++ K)) ∧
      StR t t.C t.T o w fit (h ++ K) (2 + h.length) p e := by
  obtain ⟨p, e, K, hr, hs⟩ := r73 H eqC eqT fit
  refine ⟨p.shift h.length, e, K.map (AO.shift h.length), ?_, ?_⟩
  · intro lim ρ x y hx hy
    simp only [exOp, List.map_cons, List.map_nil, hx, hy, pureTb H fit, if_true, hr]
    rfl
  · cases hs with
    | bad hv => exact .bad hv
    | arg hv hf => exact .arg hv hf
    | none hv hf hn => exact .none hv hf hn
    | ok hv hf hk hB hs => exact .ok hv hf (at_shift hk (shift_sl H.o) (shift_sl H.w)) hB hs

/-- the least and the greatest of what truths say -/
structure Xt (t : Trap) (f : (Nat → Int) → Int) (lo hi : Int) : Prop where
  b : ∀ x, Sat 21 (bat wide) x → AllS t.C t.T t x → lo ≤ f x ∧ f x ≤ hi
  l : ∃ x, Sat 21 (bat wide) x ∧ AllS t.C t.T t x ∧ f x = lo
  h : ∃ x, Sat 21 (bat wide) x ∧ AllS t.C t.T t x ∧ f x = hi
theorem Xt.uniq {f : (Nat → Int) → Int} {lo hi lo' hi' : Int} (X : Xt t f lo hi) (Y : Xt t f lo' hi') : lo = lo' ∧ hi = hi' := by
  obtain ⟨x, a1, a2, a3⟩ := X.l
  obtain ⟨y, b1, b2, b3⟩ := Y.l
  obtain ⟨z, c1, c2, c3⟩ := X.h
  obtain ⟨u, d1, d2, d3⟩ := Y.h
  have := X.b y b1 b2
  have := Y.b x a1 a2
  have := X.b u d1 d2
  have := Y.b z c1 c2
  omega
theorem Says.xt {B : List Int} (K : Ok B) (s : Says t.C t.T t B) {i j : Nat} (hi : i < 21) (hj : j < 21) : Xt t (fun x => x i - x j) (- bat B j i) (bat B i j) := by
  refine ⟨fun x h1 h2 => ?_, ?_, ?_⟩
  · have hx := (s x).2 ⟨h1, h2⟩
    have a := hx i j hi hj
    have b := hx j i hj hi
    omega
  · obtain ⟨x, hx, _, e⟩ := reach0 K.cld hj hi
    have := (s x).1 hx
    exact ⟨x, this.1, this.2, by show x i - x j = _; omega⟩
  · obtain ⟨x, hx, _, e⟩ := reach0 K.cld hi hj
    have := (s x).1 hx
    exact ⟨x, this.1, this.2, e⟩
/-- an answer: the least and the greatest, or an error -/
inductive Ans (t : Trap) (fit : Bool) (f : (Nat → Int) → Int) : Int → Int → Int → Prop
  | bad (h : t.valid = false) : Ans t fit f 0 0 10
  | arg (h : t.valid = true) (hf : fit = false) : Ans t fit f 0 0 1
  | none (h : t.valid = true) (hf : fit = true) (hn : ¬ Solv t.C t.T t) : Ans t fit f 0 0 3
  | ok {lo hi : Int} (h : t.valid = true) (hf : fit = true) (hs : Solv t.C t.T t) (hx : Xt t f lo hi) : Ans t fit f lo hi 0
theorem Ans.uniq {fit : Bool} {f : (Nat → Int) → Int} {lo hi e lo' hi' e' : Int} (X : Ans t fit f lo hi e) (Y : Ans t fit f lo' hi' e') : lo = lo' ∧ hi = hi' ∧ e = e' := by
  cases X <;> cases Y <;> first | exact ⟨rfl, rfl, rfl⟩ | (exfalso; simp_all; done) | (rename_i x _ _ _ y; exact ⟨(x.uniq y).1, (x.uniq y).2, rfl⟩)
theorem finS {lim i j : Nat} {P : AV → List AO → Prop} {ts : List AV} {a b : Int} {x : AO} {K : List AO} (h6 : ts.getD i .undef = .ptr 1 0) (hp : P (.tup [.agg [I a, I b], ts.getD j .undef]) (x :: .cells [I a, I b] false :: K)) :
    Done lim [.cell true 2 i, .tmp j] P .ret ⟨ts, x :: .cells [I a, I b] false :: K, []⟩ := by
  have e : getRes ts (x :: .cells [I a, I b] false :: K) (.cell true 2 i) = some (.agg [I a, I b]) := by
    simp only [getRes, h6]; rfl
  rw [finG (vs := [.agg [I a, I b], ts.getD j .undef]) (by
    simp only [List.mapM_cons, List.mapM_nil, e]; rfl)]
  exact hp

set_option maxHeartbeats 4000000 in
theorem s32 (H : TrOk t o w) (time c : Int) : ∃ lo hi e, (∀ st, Iso E 24 [trV t o w, I time, I c] st = some (.tup [.agg [I lo, I hi], I e])) ∧ Ans t (placeB t time c) (fun x => gap t.C x time.toNat c.toNat) lo hi e := by
  have c1 := fun st => s81 H time c st
  obtain ⟨fit, hfit⟩ : ∃ fit, fit = placeB t time c := ⟨_, rfl⟩
  rw [← hfit] at c1 ⊢
  obtain ⟨p, e, K, q, hs⟩ := call73 H fit [.cells [I t.ch, I t.tm, o, w] false, .cells [I 0, I 0] false]
  simp only [trV] at q c1 ⊢
  cases hs with
  | bad hv =>
    refine ⟨0, 0, 10, fun st => ?_, .bad hv⟩
    refine Iso_of (es _ _ _ _) e24 ?_
    simp only [f24]
    simp (disch := first | assumption | omega | (simp only [az]; done)) only [ru, eq_self, if_true, if_false, BEq.rfl, binI, AO.row?, splice, fillL, mmAll, loadV, storeV, zeros, Am.rowAt, Am.part, addOff, Nat.reduceAdd, Nat.reduceMul, Nat.reduceLeDiff, Nat.reduceSub, Nat.reduceLT, Int.reduceEq, Int.reduceLT, Int.reduceLE, Int.reduceGT, Int.reduceGE, Int.reduceAdd, Int.reduceSub, Int.reduceMul, Int.reduceNeg, Int.reduceToNat, reduceCtorEq, reduceIte, lenV_sl H.o, lenV_sl H.w, elem_sl Ls.el H.o, elem_sl Wd.el H.w, view_sl H.o, view_sl H.w, scalar_sl H.o, scalar_sl H.w, cells_sl H.o, cells_sl H.w, pure_sl H.o, pure_sl H.w, Int.toNat_natCast, c1]
    rw [q rfl rfl]
    simp (disch := first | assumption | omega | (simp only [az]; done)) only [ru, eq_self, if_true, if_false, BEq.rfl, binI, AO.row?, splice, fillL, mmAll, loadV, storeV, zeros, Am.rowAt, Am.part, addOff, Nat.reduceAdd, Nat.reduceMul, Nat.reduceLeDiff, Nat.reduceSub, Nat.reduceLT, Int.reduceEq, Int.reduceLT, Int.reduceLE, Int.reduceGT, Int.reduceGE, Int.reduceAdd, Int.reduceSub, Int.reduceMul, Int.reduceNeg, Int.reduceToNat, reduceCtorEq, reduceIte, lenV_sl H.o, lenV_sl H.w, elem_sl Ls.el H.o, elem_sl Wd.el H.w, view_sl H.o, view_sl H.w, scalar_sl H.o, scalar_sl H.w, cells_sl H.o, cells_sl H.w, pure_sl H.o, pure_sl H.w, Int.toNat_natCast, List.cons_append, List.nil_append, List.set_cons_succ, List.set_cons_zero]
    exact finS rfl rfl
  | arg hv hf =>
    refine ⟨0, 0, 1, fun st => ?_, .arg hv hf⟩
    refine Iso_of (es _ _ _ _) e24 ?_
    simp only [f24]
    simp (disch := first | assumption | omega | (simp only [az]; done)) only [ru, eq_self, if_true, if_false, BEq.rfl, binI, AO.row?, splice, fillL, mmAll, loadV, storeV, zeros, Am.rowAt, Am.part, addOff, Nat.reduceAdd, Nat.reduceMul, Nat.reduceLeDiff, Nat.reduceSub, Nat.reduceLT, Int.reduceEq, Int.reduceLT, Int.reduceLE, Int.reduceGT, Int.reduceGE, Int.reduceAdd, Int.reduceSub, Int.reduceMul, Int.reduceNeg, Int.reduceToNat, reduceCtorEq, reduceIte, lenV_sl H.o, lenV_sl H.w, elem_sl Ls.el H.o, elem_sl Wd.el H.w, view_sl H.o, view_sl H.w, scalar_sl H.o, scalar_sl H.w, cells_sl H.o, cells_sl H.w, pure_sl H.o, pure_sl H.w, Int.toNat_natCast, c1]
    rw [q rfl rfl]
    simp (disch := first | assumption | omega | (simp only [az]; done)) only [ru, eq_self, if_true, if_false, BEq.rfl, binI, AO.row?, splice, fillL, mmAll, loadV, storeV, zeros, Am.rowAt, Am.part, addOff, Nat.reduceAdd, Nat.reduceMul, Nat.reduceLeDiff, Nat.reduceSub, Nat.reduceLT, Int.reduceEq, Int.reduceLT, Int.reduceLE, Int.reduceGT, Int.reduceGE, Int.reduceAdd, Int.reduceSub, Int.reduceMul, Int.reduceNeg, Int.reduceToNat, reduceCtorEq, reduceIte, lenV_sl H.o, lenV_sl H.w, elem_sl Ls.el H.o, elem_sl Wd.el H.w, view_sl H.o, view_sl H.w, scalar_sl H.o, scalar_sl H.w, cells_sl H.o, cells_sl H.w, pure_sl H.o, pure_sl H.w, Int.toNat_natCast, List.cons_append, List.nil_append, List.set_cons_succ, List.set_cons_zero]
    exact finS rfl rfl
  | none hv hf hn =>
    refine ⟨0, 0, 3, fun st => ?_, .none hv hf hn⟩
    refine Iso_of (es _ _ _ _) e24 ?_
    simp only [f24]
    simp (disch := first | assumption | omega | (simp only [az]; done)) only [ru, eq_self, if_true, if_false, BEq.rfl, binI, AO.row?, splice, fillL, mmAll, loadV, storeV, zeros, Am.rowAt, Am.part, addOff, Nat.reduceAdd, Nat.reduceMul, Nat.reduceLeDiff, Nat.reduceSub, Nat.reduceLT, Int.reduceEq, Int.reduceLT, Int.reduceLE, Int.reduceGT, Int.reduceGE, Int.reduceAdd, Int.reduceSub, Int.reduceMul, Int.reduceNeg, Int.reduceToNat, reduceCtorEq, reduceIte, lenV_sl H.o, lenV_sl H.w, elem_sl Ls.el H.o, elem_sl Wd.el H.w, view_sl H.o, view_sl H.w, scalar_sl H.o, scalar_sl H.w, cells_sl H.o, cells_sl H.w, pure_sl H.o, pure_sl H.w, Int.toNat_natCast, c1]
    rw [q rfl rfl]
    simp (disch := first | assumption | omega | (simp only [az]; done)) only [ru, eq_self, if_true, if_false, BEq.rfl, binI, AO.row?, splice, fillL, mmAll, loadV, storeV, zeros, Am.rowAt, Am.part, addOff, Nat.reduceAdd, Nat.reduceMul, Nat.reduceLeDiff, Nat.reduceSub, Nat.reduceLT, Int.reduceEq, Int.reduceLT, Int.reduceLE, Int.reduceGT, Int.reduceGE, Int.reduceAdd, Int.reduceSub, Int.reduceMul, Int.reduceNeg, Int.reduceToNat, reduceCtorEq, reduceIte, lenV_sl H.o, lenV_sl H.w, elem_sl Ls.el H.o, elem_sl Wd.el H.w, view_sl H.o, view_sl H.w, scalar_sl H.o, scalar_sl H.w, cells_sl H.o, cells_sl H.w, pure_sl H.o, pure_sl H.w, Int.toNat_natCast, List.cons_append, List.nil_append, List.set_cons_succ, List.set_cons_zero]
    exact finS rfl rfl
  | @ok B hv hf hk hB hs =>
    have V := valid_trb hv
    have v1 := V.c0; have v2 := V.c1; have v3 := V.t0; have v4 := V.t1
    have eC := eqC hv; have eT := eqT hv
    have pl : 0 ≤ time ∧ time < t.tm ∧ 0 ≤ c ∧ c < t.ch := by
      rw [hfit] at hf
      simp only [placeB, Bool.and_eq_true, decide_eq_true_eq] at hf; omega
    obtain ⟨ti, rfl⟩ : ∃ ti : Nat, time = ti := ⟨time.toNat, by omega⟩
    obtain ⟨ci, rfl⟩ : ∃ ci : Nat, c = ci := ⟨c.toNat, by omega⟩
    simp only [Int.toNat_natCast]
    have ia := sumN_lt (ch := t.C) (t := ti) (c := ci) (by omega) (by omega) (by omega)
    have ib := sumN_lt (ch := t.C) (t := ti) (c := ci + 1) (by omega) (by omega) (by omega)
    simp only [List.cons_append, List.nil_append, List.length_cons, List.length_nil] at hk
    have c82 := s82 hk hB (t := ti) (c := ci) (by omega) (by omega) (by omega)
    refine ⟨_, _, 0, fun st => ?_, .ok hv hf (hs.solv hB) (hs.xt hB ia ib)⟩
    refine Iso_of (es _ _ _ _) e24 ?_
    simp only [f24]
    simp (disch := first | assumption | omega | (simp only [az]; done)) only [ru, eq_self, if_true, if_false, BEq.rfl, binI, AO.row?, splice, fillL, mmAll, loadV, storeV, zeros, Am.rowAt, Am.part, addOff, Nat.reduceAdd, Nat.reduceMul, Nat.reduceLeDiff, Nat.reduceSub, Nat.reduceLT, Int.reduceEq, Int.reduceLT, Int.reduceLE, Int.reduceGT, Int.reduceGE, Int.reduceAdd, Int.reduceSub, Int.reduceMul, Int.reduceNeg, Int.reduceToNat, reduceCtorEq, reduceIte, lenV_sl H.o, lenV_sl H.w, elem_sl Ls.el H.o, elem_sl Wd.el H.w, view_sl H.o, view_sl H.w, scalar_sl H.o, scalar_sl H.w, cells_sl H.o, cells_sl H.w, pure_sl H.o, pure_sl H.w, Int.toNat_natCast, c1]
    rw [q rfl rfl]
    simp (disch := first | assumption | omega | (simp only [az]; done)) only [ru, eq_self, if_true, if_false, BEq.rfl, binI, AO.row?, splice, fillL, mmAll, loadV, storeV, zeros, Am.rowAt, Am.part, addOff, Nat.reduceAdd, Nat.reduceMul, Nat.reduceLeDiff, Nat.reduceSub, Nat.reduceLT, Int.reduceEq, Int.reduceLT, Int.reduceLE, Int.reduceGT, Int.reduceGE, Int.reduceAdd, Int.reduceSub, Int.reduceMul, Int.reduceNeg, Int.reduceToNat, reduceCtorEq, reduceIte, lenV_sl H.o, lenV_sl H.w, elem_sl Ls.el H.o, elem_sl Wd.el H.w, view_sl H.o, view_sl H.w, scalar_sl H.o, scalar_sl H.w, cells_sl H.o, cells_sl H.w, pure_sl H.o, pure_sl H.w, Int.toNat_natCast, List.cons_append, List.nil_append, List.set_cons_succ, List.set_cons_zero, c82]
    exact finS rfl rfl
end
end Go.Proofs.Ytjmelmmhnpgneaa.S

/-
What the program answers: Whole, Came, Passed.
-/
namespace Go.Proofs.Ytjmelmmhnpgneaa.S
open Go Go.Am Go.Proofs.Ytjmelmmhnpgneaa.T
set_option maxRecDepth 100000
set_option linter.unusedSimpArgs false
set_option linter.unusedVariables false
section
variable {t : Trap} {o w : AV}
end
end Go.Proofs.Ytjmelmmhnpgneaa.S

/-
The reference's spans in the heap: what differ does to them.
-/
namespace Go.Proofs.Ytjmelmmhnpgneaa.S
open Go Go.Am Go.Proofs.Ytjmelmmhnpgneaa.T
set_option maxRecDepth 100000
set_option linter.unusedSimpArgs false
set_option linter.unusedVariables false

def Spn.e (s : Spn) : List AV := [I s.lo, I s.hi]
theorem Spn.el (s : Spn) : s.e.length = 2 := rfl

/-- the number of a sum in the spans -/
def pos (C i c : Nat) : Nat := i * (C + 1) + c
section
variable {C T oo : Nat} {oi : Nat → Nat} {S : Sps} {h : List AO}
end
end Go.Proofs.Ytjmelmmhnpgneaa.S

/-
What differ does to spans in the heap.
-/
namespace Go.Proofs.Ytjmelmmhnpgneaa.S
open Go Go.Am Go.Proofs.Ytjmelmmhnpgneaa.T
set_option maxRecDepth 100000
set_option linter.unusedSimpArgs false
set_option linter.unusedVariables false

end Go.Proofs.Ytjmelmmhnpgneaa.S

/-
Spans that are known of nothing, as the reference makes them.
-/
namespace Go.Proofs.Ytjmelmmhnpgneaa.S
open Go Go.Am Go.Proofs.Ytjmelmmhnpgneaa.T
set_option maxRecDepth 100000
set_option linter.unusedSimpArgs false
set_option linter.unusedVariables false

end Go.Proofs.Ytjmelmmhnpgneaa.S

/-
The steps of a pass of settle.
-/
namespace Go.Proofs.Ytjmelmmhnpgneaa.S
open Go Go.Am Go.Proofs.Ytjmelmmhnpgneaa.T
set_option maxRecDepth 100000
set_option linter.unusedSimpArgs false
set_option linter.unusedVariables false

section
variable {C T i c k : Nat} {t : Trap}
end

section
variable {C T oo lim : Nat} {oi : Nat → Nat} {l : List Stp} {S S' : Sps} {h0 hk : List AO} {rest : List Stp} {ch : Bool}
end
end Go.Proofs.Ytjmelmmhnpgneaa.S

/-
settle: passes until nothing changes.
-/
namespace Go.Proofs.Ytjmelmmhnpgneaa.S
open Go Go.Am Go.Proofs.Ytjmelmmhnpgneaa.T
set_option maxRecDepth 100000
set_option linter.unusedSimpArgs false
set_option linter.unusedVariables false

end Go.Proofs.Ytjmelmmhnpgneaa.S

/-
The steps of a pass of a valid trap are as they must be, for it to end; whether a trap has a truth.
-/
namespace Go.Proofs.Ytjmelmmhnpgneaa.S
open Go Go.Am Go.Proofs.Ytjmelmmhnpgneaa.T
set_option maxRecDepth 100000
set_option linter.unusedSimpArgs false
set_option linter.unusedVariables false

section
variable {C T : Nat} {t : Trap}
end
end Go.Proofs.Ytjmelmmhnpgneaa.S

/-
The truths of the program's sums and of the reference's spans are the same.
-/
namespace Go.Proofs.Ytjmelmmhnpgneaa.S
open Go Go.Am Go.Proofs.Ytjmelmmhnpgneaa.T
set_option maxRecDepth 100000
set_option linter.unusedSimpArgs false
set_option linter.unusedVariables false

section
variable {C T : Nat} {t : Trap}
theorem sumN_last {i : Nat} : sumN C i C = 0 := by unfold sumN; rw [if_pos rfl]
theorem sumN_in {i c : Nat} (hc : c < C) : sumN C i c = 1 + i * 4 + c := by unfold sumN; rw [if_neg (by omega)]
theorem word_at (V : TrB t) (hC : t.ch = C) (hT : t.tm = T) {w : Wd} (hw : w ∈ t.ws) : w.time.toNat < T ∧ w.ch.toNat < C := by
  have fw := V.fw w hw
  simp only [fitB, placeB, Bool.and_eq_true, decide_eq_true_eq] at fw
  omega
end
end Go.Proofs.Ytjmelmmhnpgneaa.S

/-
Whether a trap has a truth, by the reference; its errors.
-/
namespace Go.Proofs.Ytjmelmmhnpgneaa.S
open Go Go.Am Go.Proofs.Ytjmelmmhnpgneaa.T
set_option maxRecDepth 100000
set_option linter.unusedSimpArgs false
set_option linter.unusedVariables false

section
variable {t : Trap} {o w : AV} {C T : Nat}
end
end Go.Proofs.Ytjmelmmhnpgneaa.S

/-
difference: the least and the greatest, by the reference.
-/
namespace Go.Proofs.Ytjmelmmhnpgneaa.S
open Go Go.Am Go.Proofs.Ytjmelmmhnpgneaa.T
set_option maxRecDepth 100000
set_option linter.unusedSimpArgs false
set_option linter.unusedVariables false

section
variable {t : Trap} {o w : AV} {C T : Nat}
end
end Go.Proofs.Ytjmelmmhnpgneaa.S

/-
difference, as it runs.
-/
namespace Go.Proofs.Ytjmelmmhnpgneaa.S
open Go Go.Am Go.Proofs.Ytjmelmmhnpgneaa.T
set_option maxRecDepth 100000
set_option linter.unusedSimpArgs false
set_option linter.unusedVariables false

section
variable {t : Trap} {o w : AV} {C T : Nat}
end
end Go.Proofs.Ytjmelmmhnpgneaa.S

/-
What the reference answers: FishOf, Fish.
-/
namespace Go.Proofs.Ytjmelmmhnpgneaa.S
open Go Go.Am Go.Proofs.Ytjmelmmhnpgneaa.T
set_option maxRecDepth 100000
set_option linter.unusedSimpArgs false
set_option linter.unusedVariables false

section
variable {t : Trap} {o w : AV}
theorem trC (V : TrB t) : t.ch = t.C := by
  have := V.c0
  unfold Trap.C; omega
theorem trT (V : TrB t) : t.tm = t.T := by
  have := V.t0
  unfold Trap.T; omega
theorem wrT (hv : t.valid = true) : wr .i64 (t.tm - 1) = t.tm - 1 := by
  have V := valid_trb hv
  have v3 := V.t0; have v4 := V.t1
  exact wr64 (by omega) (by omega)
theorem wrC (hv : t.valid = true) : wr .i64 (t.ch - 1) = t.ch - 1 := by
  have V := valid_trb hv
  have v3 := V.c0; have v4 := V.c1
  exact wr64 (by omega) (by omega)

end
end Go.Proofs.Ytjmelmmhnpgneaa.S

/-
What the reference answers: Whole, Came, Passed.
-/
namespace Go.Proofs.Ytjmelmmhnpgneaa.S
open Go Go.Am Go.Proofs.Ytjmelmmhnpgneaa.T
set_option maxRecDepth 100000
set_option linter.unusedSimpArgs false
set_option linter.unusedVariables false

section
variable {t : Trap} {o w : AV}
end
end Go.Proofs.Ytjmelmmhnpgneaa.S

/-
What the reference answers: Came, Passed.
-/
namespace Go.Proofs.Ytjmelmmhnpgneaa.S
open Go Go.Am Go.Proofs.Ytjmelmmhnpgneaa.T
set_option maxRecDepth 100000
set_option linter.unusedSimpArgs false
set_option linter.unusedVariables false

section
variable {t : Trap} {o w : AV}
end
end Go.Proofs.Ytjmelmmhnpgneaa.S

/-
What is asked of a copy of a trap is answered as of the trap.
-/
namespace Go.Proofs.Ytjmelmmhnpgneaa.S
open Go Go.Am Go.Proofs.Ytjmelmmhnpgneaa.T
set_option linter.unusedSimpArgs false
set_option linter.unusedVariables false

section
variable {t : Trap}
theorem cp_C : t.cp.C = t.C := rfl
theorem cp_T : t.cp.T = t.T := rfl
theorem cp_opl : t.cp.op.length = t.op.length := cpL_len
theorem cp_may {i j : Nat} (hi : i < t.op.length) : mayP t.cp.op i j = mayP t.op i j := by
  unfold mayP
  rw [show t.cp.op = cpL t.op from rfl, cpL_list hi]
theorem cp_all {C T : Nat} {x : Nat → Int} : AllS C T t.cp x ↔ AllS C T t x := by
  constructor
  · intro A
    refine ⟨A.f, fun i j hi hj => ?_, A.w⟩
    rw [← cp_may hi]; exact A.m i j (by rw [cp_opl]; exact hi) hj
  · intro A
    refine ⟨A.f, fun i j hi hj => ?_, A.w⟩
    rw [cp_opl] at hi
    rw [cp_may hi]; exact A.m i j hi hj
theorem cp_xt {f : (Nat → Int) → Int} {lo hi : Int} (X : Xt t.cp f lo hi) : Xt t f lo hi := by
  refine ⟨fun x h1 h2 => X.b x h1 (cp_all.2 h2), ?_, ?_⟩
  · obtain ⟨x, h1, h2, h3⟩ := X.l; exact ⟨x, h1, cp_all.1 h2, h3⟩
  · obtain ⟨x, h1, h2, h3⟩ := X.h; exact ⟨x, h1, cp_all.1 h2, h3⟩
/-- the copy lies in memory as a trap does -/
theorem TrOk.cp {o w o' w' : AV} (H : TrOk t o w) (ho : IsSl 1 Ls.e (cpL t.op) o') (hw : IsSl 4 Wd.e t.ws w') : TrOk t.cp o' w' :=
  ⟨ho, hw, by rw [cp_opl]; exact H.so, H.sw, cpL_under H.sl⟩
end
end Go.Proofs.Ytjmelmmhnpgneaa.S

/-
One word more, one word less: what truths there are; each number between both ends is so in some truth.
-/
namespace Go.Proofs.Ytjmelmmhnpgneaa.S
open Go Go.Am Go.Proofs.Ytjmelmmhnpgneaa.T
set_option maxRecDepth 100000
set_option linter.unusedSimpArgs false
set_option linter.unusedVariables false

/-- one word more -/
def Trap.add (t : Trap) (w : Wd) : Trap := ⟨t.ch, t.tm, t.op, t.ws ++ [w]⟩
section
variable {t : Trap} {C T : Nat}
theorem add_C {w : Wd} : (t.add w).C = t.C := rfl
theorem add_T {w : Wd} : (t.add w).T = t.T := rfl
theorem allW {ws : List Wd} {x : Nat → Int} : (∀ k, k < ws.length → saysW C x (ws.getD k default)) ↔ ∀ y ∈ ws, saysW C x y := by
  constructor
  · intro h y hy
    obtain ⟨k, hk, rfl⟩ := List.mem_iff_getElem.1 hy
    have := h k hk
    rwa [List.getD_eq_getElem?_getD, List.getElem?_eq_getElem hk, Option.getD_some] at this
  · intro h k hk
    rw [List.getD_eq_getElem?_getD, List.getElem?_eq_getElem hk, Option.getD_some]
    exact h _ (List.getElem_mem hk)
theorem add_all {w : Wd} {x : Nat → Int} : AllS C T (t.add w) x ↔ AllS C T t x ∧ saysW C x w := by
  constructor
  · intro A
    have hw := allW.1 A.w
    exact ⟨⟨A.f, A.m, allW.2 fun y hy => hw y (by simp [Trap.add, hy])⟩, hw w (by simp [Trap.add])⟩
  · rintro ⟨A, h⟩
    refine ⟨A.f, A.m, allW.2 fun y hy => ?_⟩
    simp only [Trap.add, List.mem_append, List.mem_singleton] at hy
    rcases hy with hy | rfl
    · exact allW.1 A.w y hy
    · exact h
theorem add_trb {w : Wd} (V : TrB t) (h8 : t.ws.length ≤ 8) (hf : fitB t w = true) : TrB (t.add w) := by
  refine ⟨V.c0, V.c1, V.t0, V.t1, V.o, by simp [Trap.add]; omega, V.ro, fun y hy => ?_⟩
  simp only [Trap.add, List.mem_append, List.mem_singleton] at hy
  rcases hy with hy | rfl
  · exact V.fw y hy
  · exact hf
/-! truths -/
def Tr (t : Trap) (x : Nat → Int) : Prop := Sat 21 (bat wide) x ∧ AllS t.C t.T t x
theorem solv_tr : Solv t.C t.T t ↔ ∃ x, Tr t x := Iff.rfl
theorem tr_add {w : Wd} {x : Nat → Int} : Tr (t.add w) x ↔ Tr t x ∧ saysW t.C x w := by
  unfold Tr
  rw [add_C, add_T, add_all]; exact and_assoc.symm
theorem tr_cp {x : Nat → Int} : Tr t.cp x ↔ Tr t x := by
  unfold Tr
  rw [cp_C, cp_T, cp_all]
theorem xt_tr {f : (Nat → Int) → Int} {lo hi : Int} (X : Xt t f lo hi) : (∀ x, Tr t x → lo ≤ f x ∧ f x ≤ hi) ∧ (∃ x, Tr t x ∧ f x = lo) ∧ ∃ x, Tr t x ∧ f x = hi :=
  ⟨fun x hx => X.b x hx.1 hx.2, by obtain ⟨x, a, b, c⟩ := X.l; exact ⟨x, ⟨a, b⟩, c⟩, by obtain ⟨x, a, b, c⟩ := X.h; exact ⟨x, ⟨a, b⟩, c⟩⟩
theorem tr_xt {f : (Nat → Int) → Int} {lo hi : Int} (h1 : ∀ x, Tr t x → lo ≤ f x ∧ f x ≤ hi) (h2 : ∃ x, Tr t x ∧ f x = lo) (h3 : ∃ x, Tr t x ∧ f x = hi) : Xt t f lo hi :=
  ⟨fun x a b => h1 x ⟨a, b⟩, by obtain ⟨x, a, c⟩ := h2; exact ⟨x, a.1, a.2, c⟩, by obtain ⟨x, a, c⟩ := h3; exact ⟨x, a.1, a.2, c⟩⟩
/-! each number between -/
/-- the ends are numbers of fish -/
theorem gap_bd {x : Nat → Int} (hx : Tr t x) {i c : Nat} (hi : i < t.T) (hc : c < t.C) : 0 ≤ gap t.C x i c ∧ gap t.C x i c ≤ 40 := hx.2.f i c hi hc
theorem xt_bd {i c : Nat} (hi : i < t.T) (hc : c < t.C) {lo hi' : Int} (X : Xt t (fun x => gap t.C x i c) lo hi') : 0 ≤ lo ∧ lo ≤ hi' ∧ hi' ≤ 40 := by
  obtain ⟨a, ⟨x, b1, b2⟩, y, c1, c2⟩ := xt_tr X
  have h1 := gap_bd b1 hi hc
  have h2 := gap_bd c1 hi hc
  have h3 := a x b1
  try simp only at b2 c2 h3
  omega
end
end Go.Proofs.Ytjmelmmhnpgneaa.S

/-
A trap in new memory: Copy.
-/
namespace Go.Proofs.Ytjmelmmhnpgneaa.S
open Go Go.Am Go.Proofs.Ytjmelmmhnpgneaa.T
set_option maxRecDepth 100000
set_option linter.unusedSimpArgs false
set_option linter.unusedVariables false

/-! appends in a region of open order -/
noncomputable def appG (keep : Bool) (lim p esz eb : Nat) (h : List AO) (s x : AV) : Option (AV × List AO) := exOp (fun _ _ _ _ => none) lim (some p) (fun o => match o with | .t 0 => s | _ => x) h (.append keep esz eb (.t 0) (.t 1))
theorem appG_zero {keep : Bool} {lim p esz eb sl : Nat} {h : List AO} {s x : AV} (hs : lenOf s = some sl) (hx : lenOf x = some 0) (hr : Am.rowOf h x = some []) : appG keep lim p esz eb h s x = some (s, h) := by
  simp only [appG, exOp, hs, hx, hr, List.length_nil, Nat.zero_mul, if_true]
theorem appG_nil {keep : Bool} {lim p esz eb n : Nat} {h : List AO} {x : AV} {xs : List AV} (hn : n ≠ 0) (hx : lenOf x = some n) (hr : Am.rowOf h x = some xs) (hl : xs.length = n * esz) (hs : xs.all AV.scalar = true) (hb : n * eb ≤ 140737488355328) (heb : 1 ≤ eb) :
    appG keep lim p esz eb h .nils x = some (.ms esz p 0 n, h.set p (.cells xs false)) := by
  simp only [appG, exOp, lenOf_nils, hx, hr, hl, hn, hs, hb, heb, Nat.zero_add, if_true, if_false, and_self, newAt, Option.getD_some]
theorem appG_ms {keep : Bool} {lim p esz eb n o len : Nat} {h : List AO} {x : AV} {c xs : List AV} (hn : n ≠ 0) (ho : h[o]? = some (.cells c false)) (hc : len * esz = c.length) (hx : lenOf x = some n) (hr : Am.rowOf h x = some xs) (hl : xs.length = n * esz) (hs : xs.all AV.scalar = true)
    (hb : (len + n) * eb ≤ 140737488355328) (heb : 1 ≤ eb) (hlim : lim ≤ o) :
    appG keep lim p esz eb h (.ms esz o 0 len) x = some (.ms esz p 0 (len + n), (h.set o (if keep then .ro c else .tomb)).set p (.cells (c ++ xs) (keep && len != 0))) := by
  simp only [appG, exOp, lenOf_ms, hx, hr, hl, hn, hs, hb, heb, ho, hc, hlim, if_true, if_false, and_self, true_and, true_or, newObj', Option.getD_some, List.take_length, Bool.or_false]
theorem GO_mapp {X : Cx} {base : Nat} {k : List KF} {ts : List AV} {h : List AO} {mk : List Nat} {r : List AOper} {d : Option Nat} {kp : Bool} {e eb s : Nat} {a x : Opd} {m : List Nat} :
    GO X base (⟨d, .append kp e eb a x, none, some s, m⟩ :: r) k ts h mk = GX X base ((appG kp X.lim (base + s) e eb (hide base m h) (a.ev ts) (x.ev ts)).map fun y => (y.1, unhide base h m y.2)) d r k ts mk := by
  rw [GO_slot]
  congr 1
  show exMask (R X.E) X.lim base (some (base + s)) (Opd.ev ts) h (.append kp e eb a x) m = _
  rw [exMask_eq]; rfl
theorem unhN {b : Nat} {h g : List AO} : unhide b h [] g = g := id rfl
theorem unhC {b s : Nat} {r : List Nat} {h g : List AO} : unhide b h (s :: r) g = (unhide b h r g).set (b + s) (h.getD (b + s) .tomb) := id rfl
theorem intSc (n : Int) : (intL n).all AV.scalar = true := rfl
theorem flat1 (l : List Int) : (l.flatMap intL).length = l.length := by rw [flat_len intE]; omega
/-- the first append: a copy -/
theorem app_one {α : Type} {esz eb lim : Nat} {enc : α → List AV} {l : List α} {v : AV} {h J : List AO} (hv : IsSl esz enc l v) (he : ∀ a, (enc a).length = esz) (hs : ∀ a, (enc a).all AV.scalar = true) (hb : l.length * eb ≤ 140737488355328) (heb : 1 ≤ eb) (hlim : lim ≤ h.length) :
    ∃ q x0 x1, q < 2 ∧ appG true lim (h.length + 1) esz eb (h ++ .cells [] false :: .tomb :: J) (.ms esz h.length 0 0) v = some (.ms esz (h.length + q) 0 l.length, h ++ x0 :: x1 :: J) ∧ [x0, x1][q]? = some (.cells (l.flatMap enc) false) := by
  by_cases hz : l.length = 0
  · have e : l = [] := List.eq_nil_of_length_eq_zero hz
    subst e
    refine ⟨0, .cells [] false, .tomb, by omega, ?_, rfl⟩
    have hr : Am.rowOf (h ++ .cells [] false :: .tomb :: J) v = some [] := rowOf_sl hv _
    rw [appG_zero (sl := 0) rfl (lenOf_sl hv) hr]; rfl
  · refine ⟨1, .ro [], .cells (l.flatMap enc) false, by omega, ?_, rfl⟩
    rw [appG_ms (c := []) hz atA0 (by simp) (lenOf_sl hv) (rowOf_sl hv _) (flat_len he l) (scal_sl hs l) (by simpa using hb) heb hlim, setT0, setT]
    simp

/-! what lies in the heap -/
def WvH (h : List AO) (ow : Nat) (wv : AV) (ws : List Wd) : Prop := wv = .ms 4 ow 0 ws.length ∧ h[ow]? = some (.cells (ws.flatMap Wd.e) false)
/-- a list of numbers in the heap, not at two places -/
def LiH (h : List AO) (o ow : Nat) (u : AV) (l : List Int) : Prop := ∃ p, p ≠ o ∧ p ≠ ow ∧ u = .ms 1 p 0 l.length ∧ h[p]? = some (.cells (l.flatMap intL) false)
def OvH (h : List AO) (ow : Nat) (ov : AV) (L : List Ls) : Prop := (L = [] ∧ ov = .nils) ∨ (L ≠ [] ∧ ∃ o vs, o ≠ ow ∧ ov = .ms 1 o 0 L.length ∧ h[o]? = some (.cells vs false) ∧ vs.length = L.length ∧ ∀ i, i < L.length → LiH h o ow (vs.getD i .undef) (L.getD i default).list)
structure CpH (t : Trap) (h : List AO) (ow : Nat) (ov wv : AV) : Prop where
  o : OvH h ow ov t.op
  w : WvH h ow wv t.ws
theorem OvH.fr {h h' : List AO} {ow : Nat} {ov : AV} {L : List Ls} (H : OvH h ow ov L) (hf : ∀ k, k < h.length → k ≠ ow → h'[k]? = h[k]?) : OvH h' ow ov L := by
  rcases H with H | ⟨hne, o, vs, h1, rfl, ho, hl, hr⟩
  · exact .inl H
  · refine .inr ⟨hne, o, vs, h1, rfl, by rw [hf o (List.getElem?_eq_some_iff.1 ho).1 h1]; exact ho, hl, fun i hi => ?_⟩
    obtain ⟨p, p1, p2, e, hp⟩ := hr i hi
    exact ⟨p, p1, p2, e, by rw [hf p (List.getElem?_eq_some_iff.1 hp).1 p2]; exact hp⟩
theorem mapM_get {f : AV → Option AV} : ∀ {vs us : List AV}, vs.length = us.length → (∀ i, i < us.length → f (vs.getD i .undef) = some (us.getD i .undef)) → vs.mapM f = some us
  | [], [], _, _ => rfl
  | [], _ :: _, h, _ => by simp at h
  | _ :: _, [], h, _ => by simp at h
  | v :: vs, u :: us, h, hi => by
    have h0 := hi 0 (by simp)
    have ih := mapM_get (f := f) (vs := vs) (us := us) (by simpa using h) fun i hi' => by
      have := hi (i + 1) (by simpa using hi')
      simpa using this
    simp only [get0] at h0
    rw [List.mapM_cons, h0]
    show (do let y ← vs.mapM f; pure (u :: y)) = _
    rw [ih]; rfl
theorem ints_view {st : Bool} {h : List AO} {n : Nat} (l : List Int) : (l.flatMap intL).mapM (view st h n) = some (l.flatMap intL) := by
  induction l with
  | nil => rfl
  | cons a l ih =>
    show (I a :: l.flatMap intL).mapM (view st h n) = _
    rw [List.mapM_cons, view_int]
    show (do let y ← (l.flatMap intL).mapM (view st h n); pure (I a :: y)) = _
    rw [ih]; rfl
theorem wds_view {st : Bool} {h : List AO} {n : Nat} (l : List Wd) : (l.flatMap Wd.e).mapM (view st h n) = some (l.flatMap Wd.e) := by
  induction l with
  | nil => rfl
  | cons a l ih =>
    show (I a.time :: I a.ch :: I a.lo :: I a.hi :: l.flatMap Wd.e).mapM (view st h n) = _
    simp only [List.mapM_cons, view_int, ih]; rfl
theorem LiH.view {h : List AO} {o ow n : Nat} {u : AV} {l : List Int} (H : LiH h o ow u l) (st : Bool) : view st h (n + 1) u = some (slV 1 intL l) := by
  obtain ⟨p, _, _, rfl, hp⟩ := H
  rw [view_ms, rowOf_ms]
  simp only [Am.rowAt, hp, Option.bind_some, AO.row?, List.drop_zero]
  rw [List.take_of_length_le (by rw [flat1]; omega), if_pos (by rw [flat1]; omega)]
  simp only [ints_view, Option.map_some, slV]
theorem WvH.view {h : List AO} {n ow : Nat} {wv : AV} {ws : List Wd} (H : WvH h ow wv ws) (st : Bool) : view st h (n + 1) wv = some (slV 4 Wd.e ws) := by
  obtain ⟨rfl, hp⟩ := H
  have hl := flat_len Wd.el ws
  rw [view_ms, rowOf_ms]
  simp only [Am.rowAt, hp, Option.bind_some, AO.row?, List.drop_zero]
  rw [List.take_of_length_le (by omega), if_pos (by omega)]
  simp only [wds_view, Option.map_some, slV]
/-- the list of lists of a copy, as a value -/
def cpO (L : List Ls) : AV := if L = [] then .nils else slV 1 Ls.e (cpL L)
theorem cpO_is {L : List Ls} : IsSl 1 Ls.e (cpL L) (cpO L) := by
  unfold cpO
  split
  · rename_i e; subst e; exact .inr ⟨rfl, rfl⟩
  · exact slV_is
theorem OvH.view {h : List AO} {n ow : Nat} {ov : AV} {L : List Ls} (H : OvH h ow ov L) (st : Bool) : view st h (n + 2) ov = some (cpO L) := by
  unfold cpO
  rcases H with ⟨rfl, rfl⟩ | ⟨hne, o, vs, _, rfl, ho, hl, hr⟩
  · rw [if_pos rfl, view_nils]
  · rw [if_neg hne, view_ms, rowOf_ms]
    simp only [Am.rowAt, ho, Option.bind_some, AO.row?, List.drop_zero]
    rw [List.take_of_length_le (by omega), if_pos (by omega)]
    have hf : ((cpL L).flatMap Ls.e).length = L.length := by rw [flat_len Ls.el, cpL_len, Nat.mul_one]
    have hm : vs.mapM (Am.view st h (n + 1)) = some ((cpL L).flatMap Ls.e) := by
      refine mapM_get (by omega) fun i hi => ?_
      have hi' : i < L.length := by omega
      rw [(hr i hi').view st]
      congr 1
      have hc : i < (cpL L).length := by rw [cpL_len]; exact hi'
      have := flat_at Ls.el (cpL L) i hc
      have e2 : (cpL L)[i] = ⟨(L.getD i default).list, false⟩ := by
        have := cpL_at hi'
        rwa [List.getD_eq_getElem?_getD, List.getElem?_eq_getElem hc, Option.getD_some] at this
      rw [e2] at this
      have e3 : ((cpL L).flatMap Ls.e).getD i .undef = slV 1 intL (L.getD i default).list := by
        rw [Nat.mul_one] at this
        have h4 : (((cpL L).flatMap Ls.e).drop i).head? = some (slV 1 intL (L.getD i default).list) := by
          have := congrArg List.head? this
          rw [List.head?_take] at this
          simpa [Ls.e, Ls.v] using this
        rw [List.head?_drop] at h4
        rw [List.getD_eq_getElem?_getD, h4]; rfl
      exact e3.symm
    simp only [hm, Option.map_some, slV, cpL_len]
/-- a copy, as a value -/
abbrev cpV (t : Trap) : AV := trV t (cpO t.op) (slV 4 Wd.e t.ws)
theorem CpH.view {t : Trap} {h : List AO} {n ow : Nat} {ov wv : AV} (H : CpH t h ow ov wv) (st : Bool) : view st h (n + 3) (trV t ov wv) = some (cpV t) := by
  show ([I t.ch, I t.tm, ov, wv].mapM (Am.view st h (n + 2))).map AV.agg = _
  have h1 := H.o.view (n := n) st
  have h2 := H.w.view (n := n + 1) st
  simp only [List.mapM_cons, List.mapM_nil, view_int, h1, h2]
  rfl
theorem TrOk.cpv {t : Trap} {o w : AV} (H : TrOk t o w) : TrOk t.cp (cpO t.op) (slV 4 Wd.e t.ws) := H.cp cpO_is slV_is

end Go.Proofs.Ytjmelmmhnpgneaa.S

/-
What the program answers: judge and Judge, enough and Enough, doubt.
-/
namespace Go.Proofs.Ytjmelmmhnpgneaa.S
open Go Go.Am Go.Proofs.Ytjmelmmhnpgneaa.T
set_option maxRecDepth 100000
set_option linter.unusedSimpArgs false
set_option linter.unusedVariables false

section
variable {t : Trap} {o w : AV}
end
end Go.Proofs.Ytjmelmmhnpgneaa.S

/-
A trap in new memory: Copy runs.
-/
namespace Go.Proofs.Ytjmelmmhnpgneaa.S
open Go Go.Am Go.Proofs.Ytjmelmmhnpgneaa.T
set_option maxRecDepth 100000
set_option linter.unusedSimpArgs false
set_option linter.unusedVariables false

/-- a trap of any size that an input can have -/
structure TrUp (t : Trap) (o w : AV) : Prop where
  o : IsSl 1 Ls.e t.op o
  w : IsSl 4 Wd.e t.ws w
  so : t.op.length * 24 ≤ 140737488351232
  sw : t.ws.length * 32 ≤ 140737488351232
  sl : ∀ x ∈ t.op, x.list.length * 8 ≤ 140737488351232
theorem TrOk.up {t : Trap} {o w : AV} (H : TrOk t o w) : TrUp t o w := by
  have so := H.so; have sw := H.sw
  exact ⟨H.o, H.w, by omega, by omega, fun x hx => by have := H.sl x hx; omega⟩

set_option maxHeartbeats 400000 in
theorem r41u {t : Trap} {o w : AV} (H : TrUp t o w) : ∃ ow ov wv K, R E (.fn 31) [trV t o w] [] 0 = some (trV t ov wv, K) ∧ CpH t K ow ov wv := by
  have so := H.so; have sw := H.sw
  suffices hh : ∃ r K, R E (.fn 31) [trV t o w] [] 0 = some (r, K) ∧ ∃ ow ov wv, r = trV t ov wv ∧ CpH t K ow ov wv by
    obtain ⟨r, K, hr, ow, ov, wv, rfl, hh⟩ := hh
    exact ⟨ow, ov, wv, K, hr, hh⟩
  obtain ⟨q, x0, x1, hq, hA, hx⟩ := app_one (lim := 0) (eb := 32) (h := [.cells [I t.ch, I t.tm, o, w] false, .cells [I 0, I 0, .nils, .nils] false]) (J := [.tomb]) H.w Wd.el Wd.sc (by omega) (by omega) (by omega)
  simp only [List.cons_append, List.nil_append, List.length_cons, List.length_nil, Nat.zero_add, Nat.reduceAdd] at hA
  obtain ⟨wv, hwv⟩ : ∃ wv, wv = AV.ms 4 (2 + q) 0 t.ws.length := ⟨_, rfl⟩
  rw [← hwv] at hA
  have wc1 : wv.cells = [wv] := by rw [hwv]; rfl
  have ws1 : wv.scalar = true := by rw [hwv]; rfl
  refine R_of (f := 31) (vs := [trV t o w]) (h := []) (lim := 0) (fun r K => ∃ ow ov wv, r = trV t ov wv ∧ CpH t K ow ov wv) (es _ _ _ _) e31 ?_
  simp only [f31, trV]
  simp (disch := first | assumption | omega | (simp only [az]; done)) only [ru, eq_self, if_true, if_false, BEq.rfl, binI, AO.row?, splice, fillL, mmAll, loadV, storeV, zeros, Am.rowAt, Am.part, addOff, Nat.reduceAdd, Nat.reduceMul, Nat.reduceLeDiff, Nat.reduceSub, Nat.reduceLT, Int.reduceEq, Int.reduceLT, Int.reduceLE, Int.reduceGT, Int.reduceGE, Int.reduceAdd, Int.reduceSub, Int.reduceMul, Int.reduceNeg, Int.reduceToNat, reduceCtorEq, reduceIte, lenV_sl H.o, lenV_sl H.w, elem_sl Ls.el H.o, elem_sl Wd.el H.w, view_sl H.o, view_sl H.w, scalar_sl H.o, scalar_sl H.w, cells_sl H.o, cells_sl H.w, pure_sl H.o, pure_sl H.w, Int.toNat_natCast, GO_mapp, hA, unhN, unhC, wc1, ws1]
  refine G_loop_ind (fun m ts hk mk => ∃ (i : Nat) (ov : AV), i ≤ t.op.length ∧ m = t.op.length - i ∧ ts.length = 34 ∧ ts.getD 1 .undef = .ptr 0 0 ∧ ts.getD 2 .undef = .ptr 1 0 ∧ ts.getD 3 .undef = .ptr 4 0 ∧ ts.getD 4 .undef = I i ∧
    hk.length = 5 + 4 * i ∧ hk[0]? = some (.cells [I t.ch, I t.tm, o, w] false) ∧ hk[1]? = some (.cells [I 0, I 0, .nils, .nils] false) ∧ hk[2 + q]? = some (.cells (t.ws.flatMap Wd.e) false) ∧ hk[4]? = some (.cells [I t.ch, I t.tm, ov, wv] false) ∧
    (i = 0 ∧ ov = .nils ∨ 0 < i ∧ ∃ o vs, 5 ≤ o ∧ o < 5 + 4 * i ∧ ov = .ms 1 o 0 i ∧ hk[o]? = some (.cells vs false) ∧ vs.length = i ∧ ∀ j, j < i → ∃ p, 5 ≤ p ∧ p < 5 + 4 * i ∧ p ≠ o ∧ vs.getD j .undef = .ms 1 p 0 (t.op.getD j default).list.length ∧ hk[p]? = some (.cells ((t.op.getD j default).list.flatMap intL) false)) ∧ mk = []) ?_ _ _ _ _
    ⟨0, .nils, Nat.zero_le _, rfl, rfl, rfl, rfl, rfl, rfl, rfl, rfl, rfl, ?_, rfl, .inl ⟨rfl, rfl⟩, rfl⟩
  case refine_2 =>
    match q, hq with
    | 0, _ => exact hx
    | 1, _ => exact hx
  rintro m ts hk mk ih ⟨i, ov, hi, rfl, hl, q1, q2, q3, q4, lk, k0, k1, kw, k4, hov, rfl⟩
  rw [lit_all hl]
  simp only [lit0, litS, Nat.reduceAdd, q1, q2, q3, q4]
  simp (disch := first | assumption | omega | (simp only [az]; done)) only [ru, eq_self, if_true, if_false, BEq.rfl, binI, AO.row?, splice, fillL, mmAll, loadV, storeV, zeros, Am.rowAt, Am.part, addOff, Nat.reduceAdd, Nat.reduceMul, Nat.reduceLeDiff, Nat.reduceSub, Nat.reduceLT, Int.reduceEq, Int.reduceLT, Int.reduceLE, Int.reduceGT, Int.reduceGE, Int.reduceAdd, Int.reduceSub, Int.reduceMul, Int.reduceNeg, Int.reduceToNat, reduceCtorEq, reduceIte, lenV_sl H.o, lenV_sl H.w, elem_sl Ls.el H.o, elem_sl Wd.el H.w, view_sl H.o, view_sl H.w, scalar_sl H.o, scalar_sl H.w, cells_sl H.o, cells_sl H.w, pure_sl H.o, pure_sl H.w, Int.toNat_natCast, k0]
  have osc : ov.scalar = true ∧ ov.cells = [ov] := by
    rcases hov with ⟨_, rfl⟩ | ⟨_, o', vs, _, _, rfl, _⟩ <;> exact ⟨rfl, rfl⟩
  by_cases hlt : (i : Int) < t.op.length
  case neg =>
    have hi3 : i = t.op.length := by omega
    subst hi3
    simp (disch := first | assumption | omega | (simp only [az]; done)) only [ru, eq_self, if_true, if_false, BEq.rfl, binI, AO.row?, splice, fillL, mmAll, loadV, storeV, zeros, Am.rowAt, Am.part, addOff, Nat.reduceAdd, Nat.reduceMul, Nat.reduceLeDiff, Nat.reduceSub, Nat.reduceLT, Int.reduceEq, Int.reduceLT, Int.reduceLE, Int.reduceGT, Int.reduceGE, Int.reduceAdd, Int.reduceSub, Int.reduceMul, Int.reduceNeg, Int.reduceToNat, reduceCtorEq, reduceIte, hlt, k4, k1, osc.1, osc.2, wc1, ws1, Bool.and_self]
    rw [finC]
    have l5 : 1 < hk.length := by omega
    have e1 : (hk.set 1 (.cells [I t.ch, I t.tm, ov, wv] false))[1]? = some (.cells [I t.ch, I t.tm, ov, wv] false) := by rw [List.getElem?_set_self l5]
    have en : ∀ k, k ≠ 1 → (hk.set 1 (.cells [I t.ch, I t.tm, ov, wv] false))[k]? = hk[k]? := fun k hk' => by rw [List.getElem?_set_ne (fun e => hk' e.symm)]
    refine ⟨.agg [I t.ch, I t.tm, ov, wv], ?_, 2 + q, ov, wv, rfl, ⟨?_, hwv, ?_⟩⟩
    · simp only [getRes, List.getD_cons_zero, List.getD_cons_succ, Am.rowAt, e1]; rfl
    · rcases hov with ⟨h0, rfl⟩ | ⟨h0, o', vs, a1, a2, rfl, a4, a5, a6⟩
      · exact .inl ⟨List.eq_nil_of_length_eq_zero h0, rfl⟩
      · refine .inr ⟨fun e => by rw [e] at h0; simp at h0, o', vs, by omega, rfl, by rw [en _ (by omega)]; exact a4, a5, fun j hj => ?_⟩
        obtain ⟨p, b1, b2, b3, b4, b5⟩ := a6 j hj
        exact ⟨p, b3, by omega, b4, by rw [en _ (by omega)]; exact b5⟩
    · rw [en _ (by omega)]; exact kw
  have hi2 : i < t.op.length := by omega
  have un : (t.op.getD i default).list.length * 8 ≤ 140737488351232 := H.sl _ (mem_getD hi2)
  have kJ0 : ∀ J, (hk ++ J)[0]? = some (.cells [I t.ch, I t.tm, o, w] false) := fun J => by rw [at_ap (by omega)]; exact k0
  have kJ4 : ∀ J, (hk ++ J)[4]? = some (.cells [I t.ch, I t.tm, ov, wv] false) := fun J => by rw [at_ap (by omega)]; exact k4
  refine (app_one (lim := 0) (eb := 8) (h := hk) (J := [.tomb, .tomb]) (t.op.getD i default).is intE intSc (by omega) (by omega) (by omega)).elim fun q' hh => hh.elim fun y0 hh => hh.elim fun y1 hh => ?_
  have xis := (t.op.getD i default).is
  have hq' := hh.1
  have hB := hh.2.1
  have hy := hh.2.2
  clear hh
  have key : ∃ ov' h', appG false 0 (hk.length + 3) 1 24 (hk ++ [y0, y1, .cells [.ms 1 (hk.length + q') 0 (t.op.getD i default).list.length] false, .tomb]) ov (.ms 1 (hk.length + 2) 0 1) = some (ov', h') ∧
      ov'.scalar = true ∧ ov'.cells = [ov'] ∧ h'.length = hk.length + 4 ∧ (∀ k, k < 5 → h'[k]? = hk[k]?) ∧
      ∃ o vs, 5 ≤ o ∧ o < hk.length + 4 ∧ ov' = .ms 1 o 0 (i + 1) ∧ h'[o]? = some (.cells vs false) ∧ vs.length = i + 1 ∧
        ∀ j, j < i + 1 → ∃ p, 5 ≤ p ∧ p < hk.length + 4 ∧ p ≠ o ∧ vs.getD j .undef = .ms 1 p 0 (t.op.getD j default).list.length ∧ h'[p]? = some (.cells ((t.op.getD j default).list.flatMap intL) false) := by
    obtain ⟨z, hz⟩ : ∃ z, z = AV.ms 1 (hk.length + q') 0 (t.op.getD i default).list.length := ⟨_, rfl⟩
    rw [← hz]
    obtain ⟨G0, hG0⟩ : ∃ G0 : List AO, G0 = hk ++ [y0, y1, .cells [z] false, .tomb] := ⟨_, rfl⟩
    rw [← hG0]
    have gl : G0.length = hk.length + 4 := by rw [hG0]; simp
    have gk : ∀ k, k < hk.length → G0[k]? = hk[k]? := fun k hk' => by rw [hG0, at_ap hk']
    have g2 : G0[hk.length + 2]? = some (.cells [z] false) := by rw [hG0, atT]; rfl
    have gq : G0[hk.length + q']? = some (.cells ((t.op.getD i default).list.flatMap intL) false) := by
      rw [hG0, atT]
      match q', hq' with
      | 0, _ => exact hy
      | 1, _ => exact hy
    have hr : Am.rowOf G0 (.ms 1 (hk.length + 2) 0 1) = some [z] := by rw [rowOf_ms]; simp only [Am.rowAt, g2]; rfl
    have zs : [z].all AV.scalar = true := by rw [hz]; rfl
    rcases hov with ⟨h0, rfl⟩ | ⟨h0, o', vs, a1, a2, rfl, a4, a5, a6⟩
    · subst h0
      refine ⟨_, _, appG_nil (n := 1) (by omega) rfl hr rfl zs (by omega) (by omega), rfl, rfl, by simp [gl], fun k hk' => ?_, hk.length + 3, [z], by omega, by omega, rfl, ?_, rfl, fun j hj => ?_⟩
      · rw [List.getElem?_set_ne (by omega)]; exact gk k (by omega)
      · rw [List.getElem?_set_self (by omega)]
      · obtain rfl : j = 0 := by omega
        exact ⟨hk.length + q', by omega, by omega, by omega, hz, by rw [List.getElem?_set_ne (by omega)]; exact gq⟩
    · have go : G0[o']? = some (.cells vs false) := by rw [gk _ (by omega)]; exact a4
      refine ⟨_, _, appG_ms (n := 1) (by omega) go (by omega) rfl hr rfl zs (by omega) (by omega) (by omega), rfl, rfl, by simp [gl], fun k hk' => ?_, hk.length + 3, vs ++ [z], by omega, by omega, rfl, ?_, by simp [a5], fun j hj => ?_⟩
      · rw [List.getElem?_set_ne (by omega), List.getElem?_set_ne (by omega)]; exact gk k (by omega)
      · rw [List.getElem?_set_self (by simp [gl])]; rfl
      · by_cases e : j = i
        · subst e
          refine ⟨hk.length + q', by omega, by omega, by omega, ?_, ?_⟩
          · rw [← hz, ← a5, getT0]; rfl
          · rw [List.getElem?_set_ne (by omega), List.getElem?_set_ne (by omega)]; exact gq
        · obtain ⟨p, b1, b2, b3, b4, b5⟩ := a6 j (by omega)
          refine ⟨p, b1, by omega, by omega, ?_, ?_⟩
          · rw [← b4, List.getD_eq_getElem?_getD, List.getElem?_append_left (by omega), ← List.getD_eq_getElem?_getD]
          · rw [List.getElem?_set_ne (by omega), List.getElem?_set_ne (by omega), gk _ (by omega)]; exact b5
  refine key.elim fun ov' hh => hh.elim fun h' hh => ?_
  have c1 := hh.1
  have c2 := hh.2.1
  have c3 := hh.2.2.1
  have c4 := hh.2.2.2.1
  have c5 := hh.2.2.2.2.1
  have c6 := hh.2.2.2.2.2
  clear hh key
  have d4 : h'[4]? = some (.cells [I t.ch, I t.tm, ov, wv] false) := by rw [c5 4 (by omega)]; exact k4
  simp (disch := first | assumption | omega | (simp only [az]; done)) only [ru, eq_self, if_true, if_false, BEq.rfl, binI, AO.row?, splice, fillL, mmAll, loadV, storeV, zeros, Am.rowAt, Am.part, addOff, Nat.reduceAdd, Nat.reduceMul, Nat.reduceLeDiff, Nat.reduceSub, Nat.reduceLT, Int.reduceEq, Int.reduceLT, Int.reduceLE, Int.reduceGT, Int.reduceGE, Int.reduceAdd, Int.reduceSub, Int.reduceMul, Int.reduceNeg, Int.reduceToNat, reduceCtorEq, reduceIte, lenV_sl H.o, lenV_sl H.w, elem_sl Ls.el H.o, elem_sl Wd.el H.w, view_sl H.o, view_sl H.w, scalar_sl H.o, scalar_sl H.w, cells_sl H.o, cells_sl H.w, pure_sl H.o, pure_sl H.w, Int.toNat_natCast, hlt, kJ0, kJ4, Ls.e, lenV_sl xis, elem_sl intE xis, view_sl xis, scalar_sl xis, cells_sl xis, pure_sl xis, List.append_assoc, lenE, setT, setT0, atT, atT0, getT, getT0, Nat.add_assoc, GO_mapp, hB, unhN, unhC, c1, c2, c3, d4, ws1, wc1, Bool.and_self]
  have en : ∀ k, k ≠ 4 → (h'.set 4 (.cells [I t.ch, I t.tm, ov', wv] false))[k]? = h'[k]? := fun k hk' => by rw [List.getElem?_set_ne (fun e => hk' e.symm)]
  refine ih (t.op.length - (i + 1)) _ _ _ (by omega) ⟨i + 1, ov', by omega, rfl, rfl, rfl, rfl, rfl, rfl, ?_, ?_, ?_, ?_, ?_, .inr ⟨by omega, ?_⟩, rfl⟩
  · rw [List.length_set, c4, lk]; omega
  · rw [en _ (by omega), c5 _ (by omega)]; exact k0
  · rw [en _ (by omega), c5 _ (by omega)]; exact k1
  · rw [en _ (by omega), c5 _ (by omega)]; exact kw
  · rw [List.getElem?_set_self (by omega)]
  · obtain ⟨o', vs, f1, f2, f3, f4, f5, f6⟩ := c6
    refine ⟨o', vs, f1, by omega, f3, by rw [en _ (by omega)]; exact f4, f5, fun j hj => ?_⟩
    obtain ⟨p, g1, g2, g3, g4, g5⟩ := f6 j hj
    exact ⟨p, g1, by omega, g3, g4, by rw [en _ (by omega)]; exact g5⟩

theorem r41 {t : Trap} {o w : AV} (H : TrOk t o w) : ∃ ow ov wv K, R E (.fn 31) [trV t o w] [] 0 = some (trV t ov wv, K) ∧ CpH t K ow ov wv := r41u H.up
/-- Copy -/
theorem s41 {t : Trap} {o w : AV} (H : TrOk t o w) (st : Bool) : Iso E 31 [trV t o w] st = some (cpV t) := by
  obtain ⟨ow, ov, wv, K, hr, h⟩ := r41 H
  simp only [Iso, hr]
  exact h.view st
end Go.Proofs.Ytjmelmmhnpgneaa.S

/-
What the program answers: last, doubt, enough and Enough.
-/
namespace Go.Proofs.Ytjmelmmhnpgneaa.S
open Go Go.Am Go.Proofs.Ytjmelmmhnpgneaa.T
set_option maxRecDepth 100000
set_option linter.unusedSimpArgs false
set_option linter.unusedVariables false

section
variable {t : Trap} {o w : AV}
def fishB (n : Int) : Bool := decide (1 ≤ n) && decide (n ≤ 40)
end
end Go.Proofs.Ytjmelmmhnpgneaa.S

/-
Lists in new memory; a trap with one more word, and with one less.
-/
namespace Go.Proofs.Ytjmelmmhnpgneaa.S
open Go Go.Am Go.Proofs.Ytjmelmmhnpgneaa.T
set_option maxRecDepth 100000
set_option linter.unusedSimpArgs false
set_option linter.unusedVariables false

/-! a copy, moved up -/
theorem ints_shift (l : List Int) (n : Nat) : (l.flatMap intL).map (AV.shift n) = l.flatMap intL := by
  rw [List.map_flatMap]; congr 1
theorem wds_shift (l : List Wd) (n : Nat) : (l.flatMap Wd.e).map (AV.shift n) = l.flatMap Wd.e := by
  rw [List.map_flatMap]; congr 1
theorem getD_shift (vs : List AV) (n i : Nat) : (vs.map (AV.shift n)).getD i .undef = (vs.getD i .undef).shift n := by
  rw [List.getD_eq_getElem?_getD, List.getD_eq_getElem?_getD, List.getElem?_map]
  cases vs[i]? <;> rfl
theorem OvH.up {K h' : List AO} {ow ow' n : Nat} {ov : AV} {L : List Ls} (H : OvH K ow ov L) (hf : ∀ k, k < K.length → k ≠ ow → h'[k + n]? = (K[k]?).map (AO.shift n)) (hw : K.length + n ≤ ow' ∨ ow' = ow + n) : OvH h' ow' (ov.shift n) L := by
  rcases H with ⟨h1, rfl⟩ | ⟨hne, o, vs, h1, rfl, ho, hl, hr⟩
  · exact .inl ⟨h1, rfl⟩
  · have o2 := (List.getElem?_eq_some_iff.1 ho).1
    refine .inr ⟨hne, o + n, vs.map (AV.shift n), by omega, rfl, by rw [hf o o2 h1, ho]; rfl, by simp [hl], fun i hi => ?_⟩
    obtain ⟨p, p1, p2, e, hp⟩ := hr i hi
    have p3 := (List.getElem?_eq_some_iff.1 hp).1
    refine ⟨p + n, by omega, by omega, by rw [getD_shift, e]; rfl, ?_⟩
    rw [hf p p3 p2, hp]
    simp only [Option.map_some, AO.shift, ints_shift]
theorem call41u {t : Trap} {o w : AV} (H : TrUp t o w) (h : List AO) : ∃ ow ov wv K, (∀ {lim : Nat} {ρ : Opd → AV} {x : Opd}, ρ x = trV t o w → exOp (R E) lim none ρ h (.call 2 31 [x]) = some (trV t (ov.shift h.length) (wv.shift h.length), h ++ K.map (AO.shift h.length))) ∧ CpH t K ow ov wv := by
  obtain ⟨ow, ov, wv, K, hr, hc⟩ := r41u H
  have pureT : AV.pureV.go [trV t o w] = true := by simp [AV.pureV.go, AV.pureV, pure_sl H.o, pure_sl H.w]
  refine ⟨ow, ov, wv, K, ?_, hc⟩
  intro lim ρ x hx
  simp only [exOp, List.map_cons, List.map_nil, hx, pureT, if_true, hr]
  rfl
theorem up_at {h K : List AO} {k : Nat} : (h ++ K.map (AO.shift h.length))[k + h.length]? = (K[k]?).map (AO.shift h.length) := by
  rw [List.getElem?_append_right (by omega), Nat.add_sub_cancel, List.getElem?_map]
theorem OvH.sc {K : List AO} {ow : Nat} {ov : AV} {L : List Ls} (H : OvH K ow ov L) (n : Nat) : (ov.shift n).scalar = true ∧ (ov.shift n).cells = [ov.shift n] := by
  rcases H with ⟨_, rfl⟩ | ⟨_, o', vs, _, rfl, _⟩ <;> exact ⟨rfl, rfl⟩

set_option maxHeartbeats 4000000 in
theorem s35u {t : Trap} {o w : AV} (H : TrUp t o w) (y : Wd) (st : Bool) : Iso E 15 [trV t o w, .agg y.e] st = some (cpV (t.add y)) := by
  obtain ⟨ow, ov0, wv0, K, q, hc⟩ := call41u H [.cells [I t.ch, I t.tm, o, w] false, .cells y.e false, .cells [I 0, I 0, .nils, .nils] false]
  have hl := H.sw
  have sc := hc.o.sc 3
  have hw0 := hc.w.1
  have hw1 := hc.w.2
  have ow1 := (List.getElem?_eq_some_iff.1 hw1).1
  simp only [List.length_cons, List.length_nil, Nat.zero_add, Nat.reduceAdd] at q
  obtain ⟨G0, hG0⟩ : ∃ G0 : List AO, G0 = [.cells [I t.ch, I t.tm, o, w] false, .cells y.e false, .cells [I 0, I 0, .nils, .nils] false] ++ K.map (AO.shift 3) := ⟨_, rfl⟩
  rw [← hG0] at q
  have gl : G0.length = K.length + 3 := by rw [hG0]; simp
  have g1 : ∀ J, (G0 ++ J)[1]? = some (.cells y.e false) := fun J => by rw [at_ap (by omega), hG0]; rfl
  have gK : ∀ k, G0[k + 3]? = (K[k]?).map (AO.shift 3) := fun k => by rw [hG0]; exact up_at (h := [.cells [I t.ch, I t.tm, o, w] false, .cells y.e false, .cells [I 0, I 0, .nils, .nils] false])
  have gow : G0[ow + 3]? = some (.cells (t.ws.flatMap Wd.e) false) := by
    rw [gK, hw1]; simp only [Option.map_some, AO.shift, wds_shift]
  obtain ⟨ov, hov⟩ : ∃ ov, ov = ov0.shift 3 := ⟨_, rfl⟩
  obtain ⟨wv, hwv⟩ : ∃ wv, wv = wv0.shift 3 := ⟨_, rfl⟩
  have hwv2 : wv = .ms 4 (ow + 3) 0 t.ws.length := by rw [hwv, hw0]; rfl
  rw [← hov] at sc
  rw [← hov, ← hwv] at q
  have wsc : wv.scalar = true ∧ wv.cells = [wv] := by rw [hwv2]; exact ⟨rfl, rfl⟩
  have hap : appV 0 (G0 ++ [AO.cells [I t.ch, I t.tm, ov, wv] false]) 4 32 wv (.cs 4 1 y.e) = some (.ms 4 (G0.length + 1) 0 (t.ws.length + 1), (G0 ++ [AO.cells [I t.ch, I t.tm, ov, wv] false]).set (ow + 3) .tomb ++ [.cells (t.ws.flatMap Wd.e ++ y.e) false]) := by
    rw [hwv2, appV_ms (n := 1) (xs := y.e) (by rw [at_ap (by omega)]; exact gow) (by rw [flat_len Wd.el]) rfl rfl rfl rfl (by omega) (by omega) (by omega), if_neg (by omega)]
    simp only [List.length_append, List.length_cons, List.length_nil, Nat.zero_add]
  obtain ⟨H2, hH2⟩ : ∃ H2 : List AO, H2 = (G0 ++ [AO.cells [I t.ch, I t.tm, ov, wv] false]).set (ow + 3) .tomb ++ [.cells (t.ws.flatMap Wd.e ++ y.e) false] := ⟨_, rfl⟩
  rw [← hH2] at hap
  have l2 : H2.length = G0.length + 2 := by rw [hH2]; simp
  have e0 : H2[G0.length]? = some (.cells [I t.ch, I t.tm, ov, wv] false) := by
    rw [hH2, at_ap (by simp), List.getElem?_set_ne (by omega), atT0]; rfl
  have e2 : H2[2]? = some (.cells [I 0, I 0, .nils, .nils] false) := by
    rw [hH2, at_ap (by simp; omega), List.getElem?_set_ne (by omega), at_ap (by omega), hG0]; rfl
  have e9 : H2[G0.length + 1]? = some (.cells (t.ws.flatMap Wd.e ++ y.e) false) := by
    rw [hH2, show G0.length + 1 = ((G0 ++ [AO.cells [I t.ch, I t.tm, ov, wv] false]).set (ow + 3) .tomb).length by simp, atT0]; rfl
  have ek : ∀ k, k < K.length → k ≠ ow → H2[k + 3]? = (K[k]?).map (AO.shift 3) := fun k hk hn => by
    rw [hH2, at_ap (by simp; omega), List.getElem?_set_ne (by omega), at_ap (by omega), gK]
  refine Iso_of (es _ _ _ _) e15 ?_
  simp only [f15, trV] at q ⊢
  simp (disch := first | assumption | omega | (simp only [az]; done)) only [ru, eq_self, if_true, if_false, BEq.rfl, binI, AO.row?, splice, fillL, mmAll, loadV, storeV, zeros, Am.rowAt, Am.part, addOff, Nat.reduceAdd, Nat.reduceMul, Nat.reduceLeDiff, Nat.reduceSub, Nat.reduceLT, Int.reduceEq, Int.reduceLT, Int.reduceLE, Int.reduceGT, Int.reduceGE, Int.reduceAdd, Int.reduceSub, Int.reduceMul, Int.reduceNeg, Int.reduceToNat, reduceCtorEq, reduceIte, lenV_sl H.o, lenV_sl H.w, elem_sl Ls.el H.o, elem_sl Wd.el H.w, view_sl H.o, view_sl H.w, scalar_sl H.o, scalar_sl H.w, cells_sl H.o, cells_sl H.w, pure_sl H.o, pure_sl H.w, Int.toNat_natCast]
  rw [q rfl]
  obtain ⟨wn, hwn⟩ : ∃ wn, wn = AV.ms 4 (G0.length + 1) 0 (t.ws.length + 1) := ⟨_, rfl⟩
  rw [← hwn] at hap
  have hap2 : appV 0 (G0 ++ [AO.cells [I t.ch, I t.tm, ov, wv] false]) 4 32 wv (.cs 4 1 [I y.time, I y.ch, I y.lo, I y.hi]) = some (wn, H2) := hap
  have wn1 : wn.scalar = true ∧ wn.cells = [wn] := by rw [hwn]; exact ⟨rfl, rfl⟩
  have e5 : ∀ c, (H2.set G0.length c)[2]? = some (.cells [I 0, I 0, .nils, .nils] false) := fun c => by rw [List.getElem?_set_ne (by omega)]; exact e2
  have e6 : ∀ c, (H2.set G0.length c)[G0.length]? = some c := fun c => by rw [List.getElem?_set_self (by omega)]
  simp (disch := first | assumption | omega | (simp only [az]; done)) only [ru, eq_self, if_true, if_false, BEq.rfl, binI, AO.row?, splice, fillL, mmAll, loadV, storeV, zeros, Am.rowAt, Am.part, addOff, Nat.reduceAdd, Nat.reduceMul, Nat.reduceLeDiff, Nat.reduceSub, Nat.reduceLT, Int.reduceEq, Int.reduceLT, Int.reduceLE, Int.reduceGT, Int.reduceGE, Int.reduceAdd, Int.reduceSub, Int.reduceMul, Int.reduceNeg, Int.reduceToNat, reduceCtorEq, reduceIte, lenV_sl H.o, lenV_sl H.w, elem_sl Ls.el H.o, elem_sl Wd.el H.w, view_sl H.o, view_sl H.w, scalar_sl H.o, scalar_sl H.w, cells_sl H.o, cells_sl H.w, pure_sl H.o, pure_sl H.w, Int.toNat_natCast, List.append_assoc, lenE, setT, setT0, atT, atT0, getT, getT0, Nat.add_assoc, sc.1, sc.2, wsc.1, wsc.2, Bool.and_self, g1, Wd.e, hap2, wn1.1, wn1.2, e0, e5, e6]
  rw [finC]
  refine ⟨.agg [I t.ch, I t.tm, ov, wn], ?_, ?_⟩
  · simp only [getRes, List.getD_cons_zero, List.getD_cons_succ, Am.rowAt]
    rw [List.getElem?_set_self (by rw [List.length_set]; omega)]; rfl
  · refine CpH.view (t := t.add y) (n := 5) (ow := G0.length + 1) ⟨?_, ?_, ?_⟩ st
    · rw [hov]
      refine hc.o.up (fun k hk hn => ?_) (.inl (by omega))
      rw [List.getElem?_set_ne (by omega), List.getElem?_set_ne (by omega)]
      exact ek k hk hn
    · rw [hwn]; simp [Trap.add]
    · rw [List.getElem?_set_ne (by omega), List.getElem?_set_ne (by omega), e9]
      simp [Trap.add]

theorem s35 {t : Trap} {o w : AV} (H : TrOk t o w) (hl : t.ws.length ≤ 39) (y : Wd) (st : Bool) : Iso E 15 [trV t o w, .agg y.e] st = some (cpV (t.add y)) := s35u H.up y st

section
variable {α : Type} {esz : Nat} {enc : α → List AV}
theorem flat_dropN (he : ∀ a, (enc a).length = esz) : ∀ (l : List α) (k : Nat), (l.flatMap enc).drop (k * esz) = (l.drop k).flatMap enc
  | [], k => by simp
  | a :: l, 0 => by simp
  | a :: l, k + 1 => by
    rw [List.flatMap_cons, List.drop_succ_cons, ← flat_dropN he l k, List.drop_append, he a]
    have : (k + 1) * esz = esz + k * esz := by rw [Nat.succ_mul, Nat.add_comm]
    rw [this, List.drop_eq_nil_of_le (by rw [he]; omega), Nat.add_sub_cancel_left, List.nil_append]
theorem slice_hi (he : ∀ a, (enc a).length = esz) {l : List α} {v : AV} (hv : IsSl esz enc l v) {k : Nat} (hk : k ≤ l.length) : ∃ u, sliceV esz v (some (I k)) none = some u ∧ IsSl esz enc (l.drop k) u := by
  rcases hv with rfl | ⟨rfl, rfl⟩
  · refine ⟨.cs esz (l.length - k) ((l.drop k).flatMap enc), ?_, .inl ?_⟩
    · have c : (0 : Int) ≤ k ∧ (k : Int) ≤ l.length := by omega
      simp only [sliceV, if_true, sliceB, c, and_self, Int.toNat_natCast]
      rw [flat_dropN he, List.take_of_length_le (by rw [flat_len he, List.length_drop]; exact Nat.le_refl _)]
    · rw [List.length_drop]
  · have : k = 0 := by simpa using hk
    subst this
    exact ⟨.nils, rfl, .inr ⟨rfl, rfl⟩⟩
end
theorem cpo_sc {L : List Ls} : (cpO L).scalar = true := scalar_sl cpO_is
theorem cpo_vi {L : List Ls} {g : List AO} {n : Nat} : view false g n (cpO L) = some (cpO L) := view_sl cpO_is g n
theorem slV_sc {α : Type} {esz : Nat} {enc : α → List AV} {l : List α} : (slV esz enc l).scalar = true := scalar_sl slV_is
theorem slV_vi {α : Type} {esz : Nat} {enc : α → List AV} {l : List α} {g : List AO} {n : Nat} : view false g n (slV esz enc l) = some (slV esz enc l) := view_sl slV_is g n
end Go.Proofs.Ytjmelmmhnpgneaa.S

/-
A trap with a place counted, and with one less word; lists in new memory.
-/
namespace Go.Proofs.Ytjmelmmhnpgneaa.S
open Go Go.Am Go.Proofs.Ytjmelmmhnpgneaa.T
set_option maxRecDepth 100000
set_option linter.unusedSimpArgs false
set_option linter.unusedVariables false

end Go.Proofs.Ytjmelmmhnpgneaa.S

/-
What the program answers: tell and Tell.
-/
namespace Go.Proofs.Ytjmelmmhnpgneaa.S
open Go Go.Am Go.Proofs.Ytjmelmmhnpgneaa.T
set_option maxRecDepth 100000
set_option linter.unusedSimpArgs false
set_option linter.unusedVariables false

end Go.Proofs.Ytjmelmmhnpgneaa.S

/-
What the program answers: least, truth and Truth.
-/
namespace Go.Proofs.Ytjmelmmhnpgneaa.S
open Go Go.Am Go.Proofs.Ytjmelmmhnpgneaa.T
set_option maxRecDepth 100000
set_option linter.unusedSimpArgs false
set_option linter.unusedVariables false

/-- the numbers of a truth, as a value -/
def rowG (C : Nat) (x : Nat → Int) (i : Nat) : List Int := (List.range C).map fun c => gap C x i c
def numL (C T : Nat) (x : Nat → Int) : List Ls := (List.range T).map fun i => ⟨rowG C x i, false⟩
theorem rowG_len {C i : Nat} {x : Nat → Int} : (rowG C x i).length = C := by simp [rowG]
theorem numL_len {C T : Nat} {x : Nat → Int} : (numL C T x).length = T := by simp [numL]
theorem numL_at {C T i : Nat} {x : Nat → Int} (hi : i < T) : (numL C T x).getD i default = ⟨rowG C x i, false⟩ := by
  simp [numL, List.getD_eq_getElem?_getD, hi]
theorem rowG_at {C i c : Nat} {x : Nat → Int} (hc : c < C) : (rowG C x i).getD c 0 = gap C x i c := by
  simp [rowG, List.getD_eq_getElem?_getD, hc]

end Go.Proofs.Ytjmelmmhnpgneaa.S

/-
The examples of the chapter come out as it says: works.
-/
namespace Go.Proofs.Ytjmelmmhnpgneaa.S
open Go Go.Am Go.Proofs.Ytjmelmmhnpgneaa.T
set_option maxRecDepth 100000
set_option linter.unusedSimpArgs false
set_option linter.unusedVariables false

theorem s71 (a b c d : Int) (st : Bool) : Iso E 34 [I a, I b, I c, I d] st = some (.agg [I a, I b, I c, I d]) := by
  refine Iso_of (es _ _ _ _) e34 ?_
  simp only [f34]
  simp (disch := first | assumption | omega | (simp only [az]; done)) only [ru, eq_self, if_true, if_false, BEq.rfl, binI, AO.row?, splice, fillL, mmAll, loadV, storeV, zeros, Am.rowAt, Am.part, addOff, Nat.reduceAdd, Nat.reduceMul, Nat.reduceLeDiff, Nat.reduceSub, Nat.reduceLT, Int.reduceEq, Int.reduceLT, Int.reduceLE, Int.reduceGT, Int.reduceGE, Int.reduceAdd, Int.reduceSub, Int.reduceMul, Int.reduceNeg, Int.reduceToNat, reduceCtorEq, reduceIte, finC, getRes, Option.some.injEq, exists_eq_left']
theorem add_ok {t : Trap} {o w : AV} (H : TrOk t o w) (h : t.ws.length ≤ 39) (y : Wd) : TrOk (t.add y).cp (cpO (t.add y).op) (slV 4 Wd.e (t.add y).ws) :=
  TrOk.cpv (o := o) (w := slV 4 Wd.e (t.add y).ws) ⟨H.o, slV_is, H.so, by simp [Trap.add]; omega, H.sl⟩

def T0 : Trap := ⟨2, 3, [⟨[0, 1], false⟩, ⟨[1], false⟩], [⟨0, 0, 5, 6⟩, ⟨0, 1, 0, 0⟩, ⟨1, 0, 3, 8⟩, ⟨2, 1, 4, 10⟩]⟩
def o0 : AV := .cs 1 2 [.cs 1 2 [I 0, I 1], .cs 1 1 [I 1]]
def w0 : AV := .cs 4 4 [I 0, I 0, I 5, I 6, I 0, I 1, I 0, I 0, I 1, I 0, I 3, I 8, I 2, I 1, I 4, I 10]
def y0 : Wd := ⟨1, 1, 12, 20⟩
theorem ok0 : TrOk T0 o0 w0 := ⟨.inl rfl, .inl rfl, by decide, by decide, by decide⟩
theorem val0 : T0.valid = true := by decide
set_option maxHeartbeats 1000000 in
theorem s70 : Iso E 22 [] false = some (.tup [trV T0 o0 w0, cpV (T0.add y0)]) := by
  have c := s35 ok0 (by decide) y0 false
  obtain ⟨Q, hQ⟩ : ∃ Q, Q = cpV (T0.add y0) := ⟨_, rfl⟩
  have Qc : Q.cells = [I 2, I 3, cpO (T0.add y0).op, slV 4 Wd.e (T0.add y0).ws] := by rw [hQ]; rfl
  have Qe : Q = .agg [I 2, I 3, cpO (T0.add y0).op, slV 4 Wd.e (T0.add y0).ws] := by rw [hQ]; rfl
  rw [← hQ] at c ⊢
  have c' : Iso E 15 [.agg [I 2, I 3, .cs 1 2 [.cs 1 2 [I 0, I 1], .cs 1 1 [I 1]], .cs 4 4 [I 0, I 0, I 5, I 6, I 0, I 1, I 0, I 0, I 1, I 0, I 3, I 8, I 2, I 1, I 4, I 10]], .agg [I 1, I 1, I 12, I 20]] false = some Q := c
  refine Iso_of (es _ _ _ _) e22 ?_
  simp only [f22]
  simp (disch := first | assumption | omega | (simp only [az]; done)) only [ru, eq_self, if_true, if_false, BEq.rfl, binI, AO.row?, splice, fillL, mmAll, loadV, storeV, zeros, Am.rowAt, Am.part, addOff, Nat.reduceAdd, Nat.reduceMul, Nat.reduceLeDiff, Nat.reduceSub, Nat.reduceLT, Int.reduceEq, Int.reduceLT, Int.reduceLE, Int.reduceGT, Int.reduceGE, Int.reduceAdd, Int.reduceSub, Int.reduceMul, Int.reduceNeg, Int.reduceToNat, reduceCtorEq, reduceIte, s71, c', Qc, cpo_sc, slV_sc, Bool.and_self]
  rw [finG (vs := [trV T0 o0 w0, Q]) (by
    simp only [List.mapM_cons, List.mapM_nil, Qe]; rfl)]
  show view false _ 8 (.tup [_, Q]) = _
  rw [Qe]
  simp only [view_tup, view_agg, List.mapM_cons, List.mapM_nil, view_int, cpo_vi, slV_vi, o0, w0, view_cs]
  rfl

/-! its truths -/
theorem T0_tr {x : Nat → Int} (h : Tr T0 x) : (5 ≤ x 1 - x 2 ∧ x 1 - x 2 ≤ 6) ∧ x 2 - x 0 = 0 ∧ (3 ≤ x 5 - x 6 ∧ x 5 - x 6 ≤ 8) ∧ (0 ≤ x 6 - x 0 ∧ x 6 - x 0 ≤ 40) ∧ (0 ≤ x 9 - x 10 ∧ x 9 - x 10 ≤ 40) ∧ (4 ≤ x 10 - x 0 ∧ x 10 - x 0 ≤ 10) ∧ 0 ≤ x 5 - x 1 ∧ 0 ≤ x 6 - x 2 ∧ x 9 - x 5 = 0 ∧ 0 ≤ x 10 - x 6 := by
  have A : AllS 2 3 T0 x := h.2
  have w1 : (5 : Int) ≤ x 1 - x 2 ∧ x 1 - x 2 ≤ 6 := A.w 0 (by decide)
  have w2 : (0 : Int) ≤ x 2 - x 0 ∧ x 2 - x 0 ≤ 0 := A.w 1 (by decide)
  have w3 : (3 : Int) ≤ x 5 - x 6 ∧ x 5 - x 6 ≤ 8 := A.w 2 (by decide)
  have w4 : (4 : Int) ≤ x 10 - x 0 ∧ x 10 - x 0 ≤ 10 := A.w 3 (by decide)
  have f1 : 0 ≤ x 6 - x 0 ∧ x 6 - x 0 ≤ 40 := A.f 1 1 (by decide) (by decide)
  have f2 : 0 ≤ x 9 - x 10 ∧ x 9 - x 10 ≤ 40 := A.f 2 0 (by decide) (by decide)
  have m1 : 0 ≤ x 5 - x 1 ∧ x 5 - x 1 ≤ 40 := A.m 0 0 (by decide) (by decide)
  have m2 : 0 ≤ x 6 - x 2 ∧ x 6 - x 2 ≤ 40 := A.m 0 1 (by decide) (by decide)
  have m3 : 0 ≤ x 9 - x 5 ∧ x 9 - x 5 ≤ 0 := A.m 1 0 (by decide) (by decide)
  have m4 : 0 ≤ x 10 - x 6 ∧ x 10 - x 6 ≤ 40 := A.m 1 1 (by decide) (by decide)
  refine ⟨w1, by omega, w3, f1, f2, w4, by omega, by omega, by omega, by omega⟩
def mkX (a b c d e f : Int) : Nat → Int
  | 1 => a | 2 => b | 5 => c | 6 => d | 9 => e | 10 => f | _ => 0
theorem T0_mk {a b c d e f : Int} (h1 : 5 ≤ a ∧ a ≤ 6) (h2 : b = 0) (h3 : 3 ≤ c - d ∧ c - d ≤ 8) (h4 : 0 ≤ d ∧ d ≤ f) (h5 : e = c) (h6 : f ≤ e) (h7 : 4 ≤ f ∧ f ≤ 10) (h8 : a ≤ c) : Tr T0 (mkX a b c d e f) := by
  have bd : ∀ k, 0 ≤ mkX a b c d e f k ∧ mkX a b c d e f k ≤ 40 := by
    intro k
    unfold mkX
    split <;> omega
  refine ⟨sat_wid.2 ⟨fun k l _ _ _ => by have := bd k; have := bd l; omega, fun l _ => by have := bd l; show (0 : Int) ≤ _; omega⟩, ?_⟩
  show AllS 2 3 T0 _
  refine ⟨fun i j hi hj => ?_, fun i j hi hj => ?_, fun k hk => ?_⟩
  · have : (i = 0 ∨ i = 1 ∨ i = 2) ∧ (j = 0 ∨ j = 1) := by omega
    obtain ⟨rfl | rfl | rfl, rfl | rfl⟩ := this
    · show 0 ≤ a - b ∧ a - b ≤ 40; omega
    · show 0 ≤ b - 0 ∧ b - 0 ≤ 40; omega
    · show 0 ≤ c - d ∧ c - d ≤ 40; omega
    · show 0 ≤ d - 0 ∧ d - 0 ≤ 40; omega
    · show 0 ≤ e - f ∧ e - f ≤ 40; omega
    · show 0 ≤ f - 0 ∧ f - 0 ≤ 40; omega
  · have hi' : i < 2 := hi
    have : (i = 0 ∨ i = 1) ∧ (j = 0 ∨ j = 1) := by omega
    obtain ⟨rfl | rfl, rfl | rfl⟩ := this
    · show 0 ≤ c - a ∧ c - a ≤ 40; omega
    · show 0 ≤ d - b ∧ d - b ≤ 40; omega
    · show 0 ≤ e - c ∧ e - c ≤ 0; omega
    · show 0 ≤ f - d ∧ f - d ≤ 40; omega
  · have hk' : k < 4 := hk
    have : k = 0 ∨ k = 1 ∨ k = 2 ∨ k = 3 := by omega
    obtain rfl | rfl | rfl | rfl := this
    · show 5 ≤ a - b ∧ a - b ≤ 6; omega
    · show 0 ≤ b - 0 ∧ b - 0 ≤ 0; omega
    · show 3 ≤ c - d ∧ c - d ≤ 8; omega
    · show 4 ≤ f - 0 ∧ f - 0 ≤ 10; omega
def xA : Nat → Int := mkX 5 0 5 0 5 4
def xB : Nat → Int := mkX 5 0 18 10 18 10
theorem tA : Tr T0 xA := T0_mk (by omega) rfl (by omega) (by omega) rfl (by omega) (by omega) (by omega)
theorem tB : Tr T0 xB := T0_mk (by omega) rfl (by omega) (by omega) rfl (by omega) (by omega) (by omega)
theorem solv0 : Solv T0.C T0.T T0 := ⟨xA, tA⟩
end Go.Proofs.Ytjmelmmhnpgneaa.S

/-
The laws of stage 1 on Fish and Whole, and on Came and Passed.
-/
namespace Go.Proofs.Ytjmelmmhnpgneaa.S
open Go Go.Am Go.Proofs.Ytjmelmmhnpgneaa.T
set_option maxRecDepth 100000
set_option linter.unusedSimpArgs false
set_option linter.unusedVariables false

end Go.Proofs.Ytjmelmmhnpgneaa.S

/-
What the reference answers: Judge and Enough; the law on them.
-/
namespace Go.Proofs.Ytjmelmmhnpgneaa.S
open Go Go.Am Go.Proofs.Ytjmelmmhnpgneaa.T
set_option maxRecDepth 100000
set_option linter.unusedSimpArgs false
set_option linter.unusedVariables false

/-! what is asked of a copy -/
theorem isW_val {t : Trap} (hv : t.valid = true) (y : Wd) : fitB t y = isW t y := by
  have V := valid_trb hv
  exact (isW_fit (inR_iff.2 ⟨V.c0, V.c1⟩) (inR_iff.2 ⟨V.t0, V.t1⟩)).symm

end Go.Proofs.Ytjmelmmhnpgneaa.S

/-
Whether a trap is ready; the law of time.
-/
namespace Go.Proofs.Ytjmelmmhnpgneaa.S
open Go Go.Am Go.Proofs.Ytjmelmmhnpgneaa.T
set_option maxRecDepth 100000
set_option linter.unusedSimpArgs false
set_option linter.unusedVariables false

section
variable {t : Trap} {fit : Bool} {f : (Nat → Int) → Int} {lo hi e : Int}
theorem Ans.val (A : Ans t fit f lo hi e) (hv : t.valid = true) (hf : fit = true) (hs : Solv t.C t.T t) : e = 0 ∧ Xt t f lo hi := by
  cases A with
  | bad h => rw [hv] at h; cases h
  | arg _ h => rw [hf] at h; cases h
  | none _ _ h => exact absurd hs h
  | ok _ _ _ h => exact ⟨rfl, h⟩
theorem Ans.non (A : Ans t fit f lo hi e) (hv : t.valid = true) (hf : fit = true) (hs : ¬ Solv t.C t.T t) : lo = 0 ∧ hi = 0 ∧ e = 3 := by
  cases A with
  | bad h => rw [hv] at h; cases h
  | arg _ h => rw [hf] at h; cases h
  | none _ _ h => exact ⟨rfl, rfl, rfl⟩
  | ok _ _ h _ => exact absurd h hs
end

end Go.Proofs.Ytjmelmmhnpgneaa.S

/-
Fish of all chambers at all times.
-/
namespace Go.Proofs.Ytjmelmmhnpgneaa.S
open Go Go.Am Go.Proofs.Ytjmelmmhnpgneaa.T
set_option maxRecDepth 100000
set_option linter.unusedSimpArgs false
set_option linter.unusedVariables false

end Go.Proofs.Ytjmelmmhnpgneaa.S

/-
No span of a trap is wider than that of another one: narrower.
-/
namespace Go.Proofs.Ytjmelmmhnpgneaa.S
open Go Go.Am Go.Proofs.Ytjmelmmhnpgneaa.T
set_option maxRecDepth 100000
set_option linter.unusedSimpArgs false
set_option linter.unusedVariables false

theorem xt_sub {a b : Trap} {f : (Nat → Int) → Int} {lo hi lo' hi' : Int} (X : Xt a f lo hi) (Y : Xt b f lo' hi') (sub : ∀ x, Tr a x → Tr b x) : lo' ≤ lo ∧ lo ≤ hi ∧ hi ≤ hi' := by
  obtain ⟨p, ⟨x, h1, h2⟩, y, h3, h4⟩ := xt_tr X
  obtain ⟨q, _⟩ := xt_tr Y
  have a1 := q x (sub x h1)
  have a2 := q y (sub y h3)
  have a3 := p x h1
  omega
end Go.Proofs.Ytjmelmmhnpgneaa.S

/-
The law of enough fish.
-/
namespace Go.Proofs.Ytjmelmmhnpgneaa.S
open Go Go.Am Go.Proofs.Ytjmelmmhnpgneaa.T
set_option maxRecDepth 100000
set_option linter.unusedSimpArgs false
set_option linter.unusedVariables false

end Go.Proofs.Ytjmelmmhnpgneaa.S

/-
A trap with one word less: Without; words without one: slices.Concat.
-/
namespace Go.Proofs.Ytjmelmmhnpgneaa.S
open Go Go.Am Go.Proofs.Ytjmelmmhnpgneaa.T
set_option maxRecDepth 100000
set_option linter.unusedSimpArgs false
set_option linter.unusedVariables false

/-! words one after another -/
end Go.Proofs.Ytjmelmmhnpgneaa.S

/-
What the program answers: Idle.
-/
namespace Go.Proofs.Ytjmelmmhnpgneaa.S
open Go Go.Am Go.Proofs.Ytjmelmmhnpgneaa.T
set_option maxRecDepth 100000
set_option linter.unusedSimpArgs false
set_option linter.unusedVariables false

theorem fit_getD {t : Trap} (V : TrB t) {k : Nat} (hk : k < t.ws.length) : fitB t (t.ws.getD k default) = true := V.fw _ (mem_getD hk)

end Go.Proofs.Ytjmelmmhnpgneaa.S

/-
The law of the idle words.
-/
namespace Go.Proofs.Ytjmelmmhnpgneaa.S
open Go Go.Am Go.Proofs.Ytjmelmmhnpgneaa.T
set_option maxRecDepth 100000
set_option linter.unusedSimpArgs false
set_option linter.unusedVariables false

end Go.Proofs.Ytjmelmmhnpgneaa.S

/-
Whether numbers are a truth, by the reference: Sum, Behind, IsTruth.
-/
namespace Go.Proofs.Ytjmelmmhnpgneaa.S
open Go Go.Am Go.Proofs.Ytjmelmmhnpgneaa.T
set_option maxRecDepth 100000
set_option linter.unusedSimpArgs false
set_option linter.unusedVariables false

theorem sum_bd : ∀ {l : List Int}, (∀ x ∈ l, 0 ≤ x ∧ x ≤ 40) → 0 ≤ l.sum ∧ l.sum ≤ 40 * l.length
  | [], _ => by simp
  | a :: l, h => by
    have h1 := sum_bd (l := l) fun x hx => h x (List.mem_cons_of_mem _ hx)
    have h2 := h a (by simp)
    rw [List.sum_cons, List.length_cons]
    omega
theorem take_sum {l : List Int} {i : Nat} (hi : i < l.length) : (l.take (i + 1)).sum = (l.take i).sum + l.getD i 0 := by
  rw [List.take_succ_eq_append_getElem hi, List.sum_append, List.getD_eq_getElem?_getD, List.getElem?_eq_getElem hi]
  simp
theorem drop_sum {l : List Int} {i : Nat} (hi : i < l.length) : (l.drop i).sum = l.getD i 0 + (l.drop (i + 1)).sum := by
  rw [List.drop_eq_getElem_cons hi, List.sum_cons, List.getD_eq_getElem?_getD, List.getElem?_eq_getElem hi]
  rfl
theorem s78 {l : List Int} {v : AV} (hv : IsSl 1 intL l v) (hl : l.length ≤ 40) (hb : ∀ x ∈ l, 0 ≤ x ∧ x ≤ 40) (st : Bool) : Iso E 33 [v] st = some (I l.sum) := by
  refine Iso_of (es _ _ _ _) e33 ?_
  simp only [f33]
  simp (disch := first | assumption | omega | (simp only [az]; done)) only [ru, eq_self, if_true, if_false, BEq.rfl, binI, AO.row?, splice, fillL, mmAll, loadV, storeV, zeros, Am.rowAt, Am.part, addOff, Nat.reduceAdd, Nat.reduceMul, Nat.reduceLeDiff, Nat.reduceSub, Nat.reduceLT, Int.reduceEq, Int.reduceLT, Int.reduceLE, Int.reduceGT, Int.reduceGE, Int.reduceAdd, Int.reduceSub, Int.reduceMul, Int.reduceNeg, Int.reduceToNat, reduceCtorEq, reduceIte, lenV_sl hv, elem_sl intE hv, view_sl hv, scalar_sl hv, cells_sl hv, pure_sl hv]
  refine G_loop_ind (fun m ts h mk => ∃ (i : Nat), i ≤ l.length ∧ m = l.length - i ∧ ts.length = 18 ∧ ts.getD 0 .undef = v ∧ ts.getD 3 .undef = I (l.take i).sum ∧ ts.getD 4 .undef = I i ∧ h = [] ∧ mk = []) ?_ _ _ _ _
    ⟨0, Nat.zero_le _, rfl, rfl, rfl, rfl, rfl, rfl, rfl⟩
  rintro m ts h mk ih ⟨i, hi', rfl, hl', q0, q3, q4, rfl, rfl⟩
  rw [lit_all hl']
  simp only [lit0, litS, Nat.reduceAdd, q0, q3, q4]
  simp (disch := first | assumption | omega | (simp only [az]; done)) only [ru, eq_self, if_true, if_false, BEq.rfl, binI, AO.row?, splice, fillL, mmAll, loadV, storeV, zeros, Am.rowAt, Am.part, addOff, Nat.reduceAdd, Nat.reduceMul, Nat.reduceLeDiff, Nat.reduceSub, Nat.reduceLT, Int.reduceEq, Int.reduceLT, Int.reduceLE, Int.reduceGT, Int.reduceGE, Int.reduceAdd, Int.reduceSub, Int.reduceMul, Int.reduceNeg, Int.reduceToNat, reduceCtorEq, reduceIte, lenV_sl hv, elem_sl intE hv, view_sl hv, scalar_sl hv, cells_sl hv, pure_sl hv]
  by_cases hlt : (i : Int) < l.length
  case neg =>
    obtain rfl : i = l.length := by omega
    rw [List.take_length]
    simp (disch := first | assumption | omega | (simp only [az]; done)) only [ru, eq_self, if_true, if_false, BEq.rfl, binI, AO.row?, splice, fillL, mmAll, loadV, storeV, zeros, Am.rowAt, Am.part, addOff, Nat.reduceAdd, Nat.reduceMul, Nat.reduceLeDiff, Nat.reduceSub, Nat.reduceLT, Int.reduceEq, Int.reduceLT, Int.reduceLE, Int.reduceGT, Int.reduceGE, Int.reduceAdd, Int.reduceSub, Int.reduceMul, Int.reduceNeg, Int.reduceToNat, reduceCtorEq, reduceIte, hlt]
  have hi2 : i < l.length := by omega
  have b1 := sum_bd (l := l.take i) fun x hx => hb x (List.mem_of_mem_take hx)
  have lt : (l.take i).length ≤ 40 := by rw [List.length_take]; omega
  have gm : l.getD i 0 ∈ l := by
    rw [List.getD_eq_getElem?_getD, List.getElem?_eq_getElem hi2]
    exact List.getElem_mem hi2
  have b2 := hb _ gm
  have ts := take_sum hi2
  obtain ⟨a, ha⟩ : ∃ a, a = (l.take i).sum := ⟨_, rfl⟩
  obtain ⟨x, hx⟩ : ∃ x, x = l.getD i default := ⟨_, rfl⟩
  have hx' : l.getD i 0 = x := hx.symm
  rw [← ha] at b1 ts
  rw [hx'] at b2 ts
  rw [← ha]
  have w1 : wr .i64 (a + x) = a + x := wr64 (by omega) (by omega)
  simp (disch := first | assumption | omega | (simp only [az]; done)) only [ru, eq_self, if_true, if_false, BEq.rfl, binI, AO.row?, splice, fillL, mmAll, loadV, storeV, zeros, Am.rowAt, Am.part, addOff, Nat.reduceAdd, Nat.reduceMul, Nat.reduceLeDiff, Nat.reduceSub, Nat.reduceLT, Int.reduceEq, Int.reduceLT, Int.reduceLE, Int.reduceGT, Int.reduceGE, Int.reduceAdd, Int.reduceSub, Int.reduceMul, Int.reduceNeg, Int.reduceToNat, reduceCtorEq, reduceIte, lenV_sl hv, elem_sl intE hv, view_sl hv, scalar_sl hv, cells_sl hv, pure_sl hv, hlt, Int.toNat_natCast, ← hx, w1]
  exact ih (l.length - (i + 1)) _ _ _ (by omega) ⟨i + 1, by omega, rfl, rfl, rfl, by show I _ = I _; rw [ts], rfl, rfl, rfl⟩
theorem s25 {l : List Int} {v : AV} (hv : IsSl 1 intL l v) (hl : l.length ≤ 40) (hb : ∀ x ∈ l, 0 ≤ x ∧ x ≤ 40) {c : Nat} (hc : c ≤ l.length) (st : Bool) : Iso E 20 [v, I c] st = some (I (l.drop c).sum) := by
  obtain ⟨u, su, iu⟩ := slice_hi intE hv hc
  have c78 := fun st => s78 iu (by rw [List.length_drop]; omega) (fun x hx => hb x (List.mem_of_mem_drop hx)) st
  refine Iso_of (es _ _ _ _) e20 ?_
  simp only [f20]
  simp (disch := first | assumption | omega | (simp only [az]; done)) only [ru, eq_self, if_true, if_false, BEq.rfl, binI, AO.row?, splice, fillL, mmAll, loadV, storeV, zeros, Am.rowAt, Am.part, addOff, Nat.reduceAdd, Nat.reduceMul, Nat.reduceLeDiff, Nat.reduceSub, Nat.reduceLT, Int.reduceEq, Int.reduceLT, Int.reduceLE, Int.reduceGT, Int.reduceGE, Int.reduceAdd, Int.reduceSub, Int.reduceMul, Int.reduceNeg, Int.reduceToNat, reduceCtorEq, reduceIte, lenV_sl hv, elem_sl intE hv, view_sl hv, scalar_sl hv, cells_sl hv, pure_sl hv, lenV_sl iu, elem_sl intE iu, view_sl iu, scalar_sl iu, cells_sl iu, pure_sl iu, pex_slice, su, c78]

/-! numbers that are a truth -/
def rowN (L : List Ls) (i : Nat) : List Int := (L.getD i default).list
def numN (L : List Ls) (i c : Nat) : Int := (rowN L i).getD c 0
def behN (L : List Ls) (i c : Nat) : Int := ((rowN L i).drop c).sum
def RowK (C : Nat) (L : List Ls) (i : Nat) : Prop := (rowN L i).length = C ∧ (∀ c, c < C → 0 ≤ numN L i c ∧ numN L i c ≤ 40) ∧ behN L i 0 ≤ 40
def PasK (t : Trap) (L : List Ls) (i c : Nat) : Prop := 0 ≤ behN L (i + 1) c - behN L i c ∧ (0 < behN L (i + 1) c - behN L i c → hasI (t.op.getD i default).list c = true)
structure TruN (t : Trap) (L : List Ls) : Prop where
  l : L.length = t.T
  r : ∀ i, i < t.T → RowK t.C L i
  p : ∀ i, i + 1 < t.T → ∀ c, c < t.C → PasK t L i c
  w : ∀ k, k < t.ws.length → (t.ws.getD k default).lo ≤ numN L (t.ws.getD k default).time.toNat (t.ws.getD k default).ch.toNat ∧ numN L (t.ws.getD k default).time.toNat (t.ws.getD k default).ch.toNat ≤ (t.ws.getD k default).hi
theorem rowK_mem {C : Nat} {L : List Ls} {i : Nat} (h : RowK C L i) : ∀ x ∈ rowN L i, 0 ≤ x ∧ x ≤ 40 := by
  intro x hx
  obtain ⟨c, hc, rfl⟩ := List.mem_iff_getElem.1 hx
  have := h.2.1 c (by rw [← h.1]; exact hc)
  unfold numN at this
  rwa [List.getD_eq_getElem?_getD, List.getElem?_eq_getElem hc, Option.getD_some] at this
theorem beh_bd {C : Nat} {L : List Ls} {i c : Nat} (h : RowK C L i) (hC : C ≤ 4) : 0 ≤ behN L i c ∧ behN L i c ≤ 160 := by
  have := sum_bd (l := (rowN L i).drop c) fun x hx => rowK_mem h x (List.mem_of_mem_drop hx)
  have l := h.1
  unfold behN
  rw [List.length_drop] at this
  omega

set_option maxHeartbeats 4000000 in
theorem s18 {t : Trap} {o w : AV} (H : TrOk t o w) (hv : t.valid = true) {L : List Ls} {v : AV} (hL : IsSl 1 Ls.e L v) (hl : L.length ≤ 40) : ∃ b, (∀ st, Iso E 9 [trV t o w, v] st = some (Bo b)) ∧ (b = true ↔ TruN t L) := by
  have V := valid_trb hv
  have v1 := V.c0; have v2 := V.c1; have v3 := V.t0; have v4 := V.t1; have vo := V.o
  have eC := trC V; have eT := trT V
  have sw := H.sw
  suffices hR : ∃ r h', R E (.fn 9) [trV t o w, v] [] 0 = some (r, h') ∧ ∃ b, r = Bo b ∧ (b = true ↔ TruN t L) by
    obtain ⟨r, h', hr, b, rfl, hb⟩ := hR
    exact ⟨b, fun st => by simp only [Iso, hr]; exact view_bool, hb⟩
  have no : ∀ {P : Prop}, ¬ TruN t L → (∃ b, Bo false = Bo b ∧ (b = true ↔ TruN t L)) := fun h => ⟨false, rfl, ⟨fun e => (by cases e), fun e => absurd e h⟩⟩
  refine R_of (f := 9) (fun r h' => ∃ b, r = Bo b ∧ (b = true ↔ TruN t L)) (es _ _ _ _) e9 ?_
  simp only [f9, trV]
  by_cases h0 : (L.length : Int) = t.tm
  case neg =>
    have h0' : ((L.length : Int) != t.tm) = true := by simpa using h0
    simp (disch := first | assumption | omega | (simp only [az]; done)) only [ru, eq_self, if_true, if_false, BEq.rfl, binI, AO.row?, splice, fillL, mmAll, loadV, storeV, zeros, Am.rowAt, Am.part, addOff, Nat.reduceAdd, Nat.reduceMul, Nat.reduceLeDiff, Nat.reduceSub, Nat.reduceLT, Int.reduceEq, Int.reduceLT, Int.reduceLE, Int.reduceGT, Int.reduceGE, Int.reduceAdd, Int.reduceSub, Int.reduceMul, Int.reduceNeg, Int.reduceToNat, reduceCtorEq, reduceIte, lenV_sl H.o, lenV_sl H.w, elem_sl Ls.el H.o, elem_sl Wd.el H.w, view_sl H.o, view_sl H.w, scalar_sl H.o, scalar_sl H.w, cells_sl H.o, cells_sl H.w, pure_sl H.o, pure_sl H.w, Int.toNat_natCast, lenV_sl hL, elem_sl Ls.el hL, view_sl hL, scalar_sl hL, cells_sl hL, pure_sl hL, h0']
    exact no (P := True) fun T => h0 (by have := T.l; omega)
  have h0' : ((L.length : Int) != t.tm) = false := by simpa using h0
  have hLT : L.length = t.T := by omega
  simp (disch := first | assumption | omega | (simp only [az]; done)) only [ru, eq_self, if_true, if_false, BEq.rfl, binI, AO.row?, splice, fillL, mmAll, loadV, storeV, zeros, Am.rowAt, Am.part, addOff, Nat.reduceAdd, Nat.reduceMul, Nat.reduceLeDiff, Nat.reduceSub, Nat.reduceLT, Int.reduceEq, Int.reduceLT, Int.reduceLE, Int.reduceGT, Int.reduceGE, Int.reduceAdd, Int.reduceSub, Int.reduceMul, Int.reduceNeg, Int.reduceToNat, reduceCtorEq, reduceIte, lenV_sl H.o, lenV_sl H.w, elem_sl Ls.el H.o, elem_sl Wd.el H.w, view_sl H.o, view_sl H.w, scalar_sl H.o, scalar_sl H.w, cells_sl H.o, cells_sl H.w, pure_sl H.o, pure_sl H.w, Int.toNat_natCast, lenV_sl hL, elem_sl Ls.el hL, view_sl hL, scalar_sl hL, cells_sl hL, pure_sl hL, h0']
  refine G_loop_ind (fun m ts hk mk => ∃ (i : Nat), i ≤ t.T ∧ m = t.T - i ∧ ts.length = 122 ∧ ts.getD 1 .undef = v ∧ ts.getD 2 .undef = .ptr 0 0 ∧ ts.getD 5 .undef = I i ∧ hk = [.cells [I t.ch, I t.tm, o, w] false] ∧ mk = [] ∧
    (∀ j, j < i → RowK t.C L j) ∧ ∀ j, j + 1 < i → ∀ c, c < t.C → PasK t L j c) ?_ _ _ _ _
    ⟨0, Nat.zero_le _, rfl, rfl, rfl, rfl, rfl, rfl, rfl, fun j hj => absurd hj (by omega), fun j hj => absurd hj (by omega)⟩
  rintro m ts hk mk ih ⟨i, hi, rfl, hll, q1, q2, q5, rfl, rfl, RK, PK⟩
  rw [lit_all hll]
  simp only [lit0, litS, Nat.reduceAdd, q1, q2, q5]
  simp (disch := first | assumption | omega | (simp only [az]; done)) only [ru, eq_self, if_true, if_false, BEq.rfl, binI, AO.row?, splice, fillL, mmAll, loadV, storeV, zeros, Am.rowAt, Am.part, addOff, Nat.reduceAdd, Nat.reduceMul, Nat.reduceLeDiff, Nat.reduceSub, Nat.reduceLT, Int.reduceEq, Int.reduceLT, Int.reduceLE, Int.reduceGT, Int.reduceGE, Int.reduceAdd, Int.reduceSub, Int.reduceMul, Int.reduceNeg, Int.reduceToNat, reduceCtorEq, reduceIte, lenV_sl hL, elem_sl Ls.el hL, view_sl hL, scalar_sl hL, cells_sl hL, pure_sl hL]
  by_cases hlt : (i : Int) < L.length
  case neg =>
    have hi3 : i = t.T := by omega
    subst hi3
    simp (disch := first | assumption | omega | (simp only [az]; done)) only [ru, eq_self, if_true, if_false, BEq.rfl, binI, AO.row?, splice, fillL, mmAll, loadV, storeV, zeros, Am.rowAt, Am.part, addOff, Nat.reduceAdd, Nat.reduceMul, Nat.reduceLeDiff, Nat.reduceSub, Nat.reduceLT, Int.reduceEq, Int.reduceLT, Int.reduceLE, Int.reduceGT, Int.reduceGE, Int.reduceAdd, Int.reduceSub, Int.reduceMul, Int.reduceNeg, Int.reduceToNat, reduceCtorEq, reduceIte, hlt]
    clear hll q1 q2 q5 ih
    refine G_loop_ind (fun m ts hk mk => ∃ (k : Nat) (J : List AO), k ≤ t.ws.length ∧ m = t.ws.length - k ∧ ts.length = 122 ∧ ts.getD 1 .undef = v ∧ ts.getD 2 .undef = .ptr 0 0 ∧ ts.getD 9 .undef = I k ∧ hk = .cells [I t.ch, I t.tm, o, w] false :: J ∧ mk = [] ∧
      ∀ j, j < k → (t.ws.getD j default).lo ≤ numN L (t.ws.getD j default).time.toNat (t.ws.getD j default).ch.toNat ∧ numN L (t.ws.getD j default).time.toNat (t.ws.getD j default).ch.toNat ≤ (t.ws.getD j default).hi) ?_ _ _ _ _
      ⟨0, [], Nat.zero_le _, rfl, rfl, rfl, rfl, rfl, rfl, rfl, fun j hj => absurd hj (by omega)⟩
    rintro m ts hk mk ih ⟨k, J, hk', rfl, hll, q1, q2, q9, rfl, rfl, WK⟩
    rw [lit_all hll]
    simp only [lit0, litS, Nat.reduceAdd, q1, q2, q9]
    simp (disch := first | assumption | omega | (simp only [az]; done)) only [ru, eq_self, if_true, if_false, BEq.rfl, binI, AO.row?, splice, fillL, mmAll, loadV, storeV, zeros, Am.rowAt, Am.part, addOff, Nat.reduceAdd, Nat.reduceMul, Nat.reduceLeDiff, Nat.reduceSub, Nat.reduceLT, Int.reduceEq, Int.reduceLT, Int.reduceLE, Int.reduceGT, Int.reduceGE, Int.reduceAdd, Int.reduceSub, Int.reduceMul, Int.reduceNeg, Int.reduceToNat, reduceCtorEq, reduceIte, lenV_sl H.o, lenV_sl H.w, elem_sl Ls.el H.o, elem_sl Wd.el H.w, view_sl H.o, view_sl H.w, scalar_sl H.o, scalar_sl H.w, cells_sl H.o, cells_sl H.w, pure_sl H.o, pure_sl H.w, Int.toNat_natCast]
    by_cases hlk : (k : Int) < t.ws.length
    case neg =>
      have hk3 : k = t.ws.length := by omega
      subst hk3
      simp (disch := first | assumption | omega | (simp only [az]; done)) only [ru, eq_self, if_true, if_false, BEq.rfl, binI, AO.row?, splice, fillL, mmAll, loadV, storeV, zeros, Am.rowAt, Am.part, addOff, Nat.reduceAdd, Nat.reduceMul, Nat.reduceLeDiff, Nat.reduceSub, Nat.reduceLT, Int.reduceEq, Int.reduceLT, Int.reduceLE, Int.reduceGT, Int.reduceGE, Int.reduceAdd, Int.reduceSub, Int.reduceMul, Int.reduceNeg, Int.reduceToNat, reduceCtorEq, reduceIte, hlk]
      exact ⟨true, rfl, ⟨fun _ => ⟨hLT, RK, fun i hi c hc => PK i hi c hc, WK⟩, fun _ => rfl⟩⟩
    have hk2 : k < t.ws.length := by omega
    have k0 : (0 : Int) ≤ k := by omega
    obtain ⟨y, hy⟩ : ∃ y, y = t.ws.getD k default := ⟨_, rfl⟩
    have hyf : fitB t y = true := by rw [hy]; exact V.fw _ (mem_getD hk2)
    simp only [fitB, placeB, Bool.and_eq_true, decide_eq_true_eq] at hyf
    have y0 : (0 : Int) ≤ y.time := by omega
    have y1 : y.time < (L.length : Nat) := by omega
    have y2 : (0 : Int) ≤ y.ch := by omega
    obtain ⟨z, hz⟩ : ∃ z, z = L.getD y.time.toNat default := ⟨_, rfl⟩
    have rz : rowN L y.time.toNat = z.list := by rw [hz]; rfl
    have y3 : y.ch < (z.list.length : Nat) := by have := (RK y.time.toNat (by omega)).1; rw [rz] at this; omega
    obtain ⟨n, hn⟩ : ∃ n, n = z.list.getD y.ch.toNat default := ⟨_, rfl⟩
    have nn : numN L y.time.toNat y.ch.toNat = n := by unfold numN; rw [rz, hn]; rfl
    cases hin : inR n y.lo y.hi
    · simp (disch := first | assumption | omega | (simp only [az]; done)) only [ru, eq_self, if_true, if_false, BEq.rfl, binI, AO.row?, splice, fillL, mmAll, loadV, storeV, zeros, Am.rowAt, Am.part, addOff, Nat.reduceAdd, Nat.reduceMul, Nat.reduceLeDiff, Nat.reduceSub, Nat.reduceLT, Int.reduceEq, Int.reduceLT, Int.reduceLE, Int.reduceGT, Int.reduceGE, Int.reduceAdd, Int.reduceSub, Int.reduceMul, Int.reduceNeg, Int.reduceToNat, reduceCtorEq, reduceIte, lenV_sl H.o, lenV_sl H.w, elem_sl Ls.el H.o, elem_sl Wd.el H.w, view_sl H.o, view_sl H.w, scalar_sl H.o, scalar_sl H.w, cells_sl H.o, cells_sl H.w, pure_sl H.o, pure_sl H.w, Int.toNat_natCast, lenV_sl hL, elem_sl Ls.el hL, view_sl hL, scalar_sl hL, cells_sl hL, pure_sl hL, hlk, k0, Int.toNat_natCast, ← hy, Wd.e, List.cons_append, lenE, setT, setT0, atT, atT0, getT, getT0, Nat.add_assoc, y0, y1, y2, y3, ← hz, Ls.e, lenV_sl z.is, elem_sl intE z.is, view_sl z.is, scalar_sl z.is, cells_sl z.is, pure_sl z.is, ← hn, s30, hin]
      refine no (P := True) fun T => ?_
      have := T.w k hk2
      rw [← hy, nn] at this
      rw [inR_iff.2 this] at hin
      cases hin
    · simp (disch := first | assumption | omega | (simp only [az]; done)) only [ru, eq_self, if_true, if_false, BEq.rfl, binI, AO.row?, splice, fillL, mmAll, loadV, storeV, zeros, Am.rowAt, Am.part, addOff, Nat.reduceAdd, Nat.reduceMul, Nat.reduceLeDiff, Nat.reduceSub, Nat.reduceLT, Int.reduceEq, Int.reduceLT, Int.reduceLE, Int.reduceGT, Int.reduceGE, Int.reduceAdd, Int.reduceSub, Int.reduceMul, Int.reduceNeg, Int.reduceToNat, reduceCtorEq, reduceIte, lenV_sl H.o, lenV_sl H.w, elem_sl Ls.el H.o, elem_sl Wd.el H.w, view_sl H.o, view_sl H.w, scalar_sl H.o, scalar_sl H.w, cells_sl H.o, cells_sl H.w, pure_sl H.o, pure_sl H.w, Int.toNat_natCast, lenV_sl hL, elem_sl Ls.el hL, view_sl hL, scalar_sl hL, cells_sl hL, pure_sl hL, hlk, k0, Int.toNat_natCast, ← hy, Wd.e, List.cons_append, lenE, setT, setT0, atT, atT0, getT, getT0, Nat.add_assoc, y0, y1, y2, y3, ← hz, Ls.e, lenV_sl z.is, elem_sl intE z.is, view_sl z.is, scalar_sl z.is, cells_sl z.is, pure_sl z.is, ← hn, s30, hin]
      refine ih (t.ws.length - (k + 1)) _ _ _ (by omega) ⟨k + 1, J ++ [AO.cells [I y.time, I y.ch, I y.lo, I y.hi] false], by omega, rfl, rfl, rfl, rfl, rfl, rfl, rfl, fun j hj => ?_⟩
      by_cases e : j = k
      · subst e
        rw [← hy, nn]
        exact inR_iff.1 hin
      · exact WK j (by omega)
  have hi2 : i < L.length := by omega
  have i0 : (0 : Int) ≤ i := by omega
  obtain ⟨x, hx⟩ : ∃ x, x = L.getD i default := ⟨_, rfl⟩
  have rx : rowN L i = x.list := by rw [hx]; rfl
  by_cases hr : (x.list.length : Int) = t.ch
  case neg =>
    have hr' : ((x.list.length : Int) != t.ch) = true := by simpa using hr
    simp (disch := first | assumption | omega | (simp only [az]; done)) only [ru, eq_self, if_true, if_false, BEq.rfl, binI, AO.row?, splice, fillL, mmAll, loadV, storeV, zeros, Am.rowAt, Am.part, addOff, Nat.reduceAdd, Nat.reduceMul, Nat.reduceLeDiff, Nat.reduceSub, Nat.reduceLT, Int.reduceEq, Int.reduceLT, Int.reduceLE, Int.reduceGT, Int.reduceGE, Int.reduceAdd, Int.reduceSub, Int.reduceMul, Int.reduceNeg, Int.reduceToNat, reduceCtorEq, reduceIte, lenV_sl hL, elem_sl Ls.el hL, view_sl hL, scalar_sl hL, cells_sl hL, pure_sl hL, hlt, i0, Int.toNat_natCast, ← hx, Ls.e, lenV_sl x.is, elem_sl intE x.is, view_sl x.is, scalar_sl x.is, cells_sl x.is, pure_sl x.is, hr']
    exact no (P := True) fun T => hr (by have := (T.r i (by omega)).1; rw [rx] at this; omega)
  have hr' : ((x.list.length : Int) != t.ch) = false := by simpa using hr
  simp (disch := first | assumption | omega | (simp only [az]; done)) only [ru, eq_self, if_true, if_false, BEq.rfl, binI, AO.row?, splice, fillL, mmAll, loadV, storeV, zeros, Am.rowAt, Am.part, addOff, Nat.reduceAdd, Nat.reduceMul, Nat.reduceLeDiff, Nat.reduceSub, Nat.reduceLT, Int.reduceEq, Int.reduceLT, Int.reduceLE, Int.reduceGT, Int.reduceGE, Int.reduceAdd, Int.reduceSub, Int.reduceMul, Int.reduceNeg, Int.reduceToNat, reduceCtorEq, reduceIte, lenV_sl hL, elem_sl Ls.el hL, view_sl hL, scalar_sl hL, cells_sl hL, pure_sl hL, hlt, i0, Int.toNat_natCast, ← hx, Ls.e, lenV_sl x.is, elem_sl intE x.is, view_sl x.is, scalar_sl x.is, cells_sl x.is, pure_sl x.is, hr']
  have lx : x.list.length = t.C := by omega
  clear hll q1 q2 q5
  refine G_loop_ind (fun m ts hk mk => ∃ (c : Nat), c ≤ t.C ∧ m = t.C - c ∧ ts.length = 122 ∧ ts.getD 1 .undef = v ∧ ts.getD 2 .undef = .ptr 0 0 ∧ ts.getD 5 .undef = I i ∧ ts.getD 6 .undef = I c ∧ hk = [.cells [I t.ch, I t.tm, o, w] false] ∧ mk = [] ∧
    ∀ d, d < c → 0 ≤ numN L i d ∧ numN L i d ≤ 40) ?_ _ _ _ _
    ⟨0, Nat.zero_le _, rfl, rfl, rfl, rfl, rfl, rfl, rfl, rfl, fun j hj => absurd hj (by omega)⟩
  rintro m ts hk mk ihC ⟨c, hc, rfl, hll, q1, q2, q5, q6, rfl, rfl, CK⟩
  rw [lit_all hll]
  simp only [lit0, litS, Nat.reduceAdd, q1, q2, q5, q6]
  simp (disch := first | assumption | omega | (simp only [az]; done)) only [ru, eq_self, if_true, if_false, BEq.rfl, binI, AO.row?, splice, fillL, mmAll, loadV, storeV, zeros, Am.rowAt, Am.part, addOff, Nat.reduceAdd, Nat.reduceMul, Nat.reduceLeDiff, Nat.reduceSub, Nat.reduceLT, Int.reduceEq, Int.reduceLT, Int.reduceLE, Int.reduceGT, Int.reduceGE, Int.reduceAdd, Int.reduceSub, Int.reduceMul, Int.reduceNeg, Int.reduceToNat, reduceCtorEq, reduceIte, lenV_sl hL, elem_sl Ls.el hL, view_sl hL, scalar_sl hL, cells_sl hL, pure_sl hL, hlt, i0, Int.toNat_natCast, ← hx, Ls.e, lenV_sl x.is, elem_sl intE x.is, view_sl x.is, scalar_sl x.is, cells_sl x.is, pure_sl x.is]
  by_cases hlc : (c : Int) < x.list.length
  case pos =>
    have c0 : (0 : Int) ≤ c := by omega
    obtain ⟨n, hn⟩ : ∃ n, n = x.list.getD c default := ⟨_, rfl⟩
    have nn : numN L i c = n := by unfold numN; rw [rx, hn]; rfl
    cases hin : inR n 0 40
    · simp (disch := first | assumption | omega | (simp only [az]; done)) only [ru, eq_self, if_true, if_false, BEq.rfl, binI, AO.row?, splice, fillL, mmAll, loadV, storeV, zeros, Am.rowAt, Am.part, addOff, Nat.reduceAdd, Nat.reduceMul, Nat.reduceLeDiff, Nat.reduceSub, Nat.reduceLT, Int.reduceEq, Int.reduceLT, Int.reduceLE, Int.reduceGT, Int.reduceGE, Int.reduceAdd, Int.reduceSub, Int.reduceMul, Int.reduceNeg, Int.reduceToNat, reduceCtorEq, reduceIte, lenV_sl hL, elem_sl Ls.el hL, view_sl hL, scalar_sl hL, cells_sl hL, pure_sl hL, hlt, hlc, i0, c0, Int.toNat_natCast, ← hx, Ls.e, lenV_sl x.is, elem_sl intE x.is, view_sl x.is, scalar_sl x.is, cells_sl x.is, pure_sl x.is, ← hn, s30, hin]
      refine no (P := True) fun T => ?_
      have := (T.r i (by omega)).2.1 c (by omega)
      rw [nn] at this
      rw [inR_iff.2 this] at hin
      cases hin
    · simp (disch := first | assumption | omega | (simp only [az]; done)) only [ru, eq_self, if_true, if_false, BEq.rfl, binI, AO.row?, splice, fillL, mmAll, loadV, storeV, zeros, Am.rowAt, Am.part, addOff, Nat.reduceAdd, Nat.reduceMul, Nat.reduceLeDiff, Nat.reduceSub, Nat.reduceLT, Int.reduceEq, Int.reduceLT, Int.reduceLE, Int.reduceGT, Int.reduceGE, Int.reduceAdd, Int.reduceSub, Int.reduceMul, Int.reduceNeg, Int.reduceToNat, reduceCtorEq, reduceIte, lenV_sl hL, elem_sl Ls.el hL, view_sl hL, scalar_sl hL, cells_sl hL, pure_sl hL, hlt, hlc, i0, c0, Int.toNat_natCast, ← hx, Ls.e, lenV_sl x.is, elem_sl intE x.is, view_sl x.is, scalar_sl x.is, cells_sl x.is, pure_sl x.is, ← hn, s30, hin]
      refine ihC (t.C - (c + 1)) _ _ _ (by omega) ⟨c + 1, by omega, rfl, rfl, rfl, rfl, rfl, rfl, rfl, rfl, fun d hd => ?_⟩
      by_cases e : d = c
      · subst e; rw [nn]; exact inR_iff.1 hin
      · exact CK d (by omega)
  have hc3 : c = t.C := by omega
  subst hc3
  have mem : ∀ z ∈ x.list, 0 ≤ z ∧ z ≤ 40 := by
    intro z hz
    obtain ⟨d, hd, rfl⟩ := List.mem_iff_getElem.1 hz
    have := CK d (by omega)
    unfold numN at this
    rw [rx, List.getD_eq_getElem?_getD, List.getElem?_eq_getElem hd, Option.getD_some] at this
    exact this
  have c25 := fun c (hc : c ≤ x.list.length) st => s25 x.is (by omega) mem hc st
  have c25z : ∀ st, Iso E 20 [x.v, I 0] st = some (I (behN L i 0)) := fun st => by
    have := c25 0 (Nat.zero_le _) st
    rw [← rx] at this
    exact this
  by_cases hb : behN L i 0 > 40
  · simp (disch := first | assumption | omega | (simp only [az]; done)) only [ru, eq_self, if_true, if_false, BEq.rfl, binI, AO.row?, splice, fillL, mmAll, loadV, storeV, zeros, Am.rowAt, Am.part, addOff, Nat.reduceAdd, Nat.reduceMul, Nat.reduceLeDiff, Nat.reduceSub, Nat.reduceLT, Int.reduceEq, Int.reduceLT, Int.reduceLE, Int.reduceGT, Int.reduceGE, Int.reduceAdd, Int.reduceSub, Int.reduceMul, Int.reduceNeg, Int.reduceToNat, reduceCtorEq, reduceIte, lenV_sl hL, elem_sl Ls.el hL, view_sl hL, scalar_sl hL, cells_sl hL, pure_sl hL, hlt, hlc, i0, Int.toNat_natCast, ← hx, Ls.e, lenV_sl x.is, elem_sl intE x.is, view_sl x.is, scalar_sl x.is, cells_sl x.is, pure_sl x.is, c25z, hb]
    exact no (P := True) fun T => by have := (T.r i (by omega)).2.2; omega
  have RKi : RowK t.C L i := ⟨by rw [rx]; exact lx, CK, by omega⟩
  simp (disch := first | assumption | omega | (simp only [az]; done)) only [ru, eq_self, if_true, if_false, BEq.rfl, binI, AO.row?, splice, fillL, mmAll, loadV, storeV, zeros, Am.rowAt, Am.part, addOff, Nat.reduceAdd, Nat.reduceMul, Nat.reduceLeDiff, Nat.reduceSub, Nat.reduceLT, Int.reduceEq, Int.reduceLT, Int.reduceLE, Int.reduceGT, Int.reduceGE, Int.reduceAdd, Int.reduceSub, Int.reduceMul, Int.reduceNeg, Int.reduceToNat, reduceCtorEq, reduceIte, lenV_sl hL, elem_sl Ls.el hL, view_sl hL, scalar_sl hL, cells_sl hL, pure_sl hL, hlt, hlc, i0, Int.toNat_natCast, ← hx, Ls.e, lenV_sl x.is, elem_sl intE x.is, view_sl x.is, scalar_sl x.is, cells_sl x.is, pure_sl x.is, c25z, hb]
  clear hll q1 q2 q5 q6 ihC
  refine G_loop_ind (fun m ts hk mk => ∃ (c : Nat), c ≤ t.C ∧ m = t.C - c ∧ ts.length = 122 ∧ ts.getD 1 .undef = v ∧ ts.getD 2 .undef = .ptr 0 0 ∧ ts.getD 5 .undef = I i ∧ ts.getD 7 .undef = I c ∧ hk = [.cells [I t.ch, I t.tm, o, w] false] ∧ mk = [] ∧
    ∀ d, d < c → 0 < i → PasK t L (i - 1) d) ?_ _ _ _ _
    ⟨0, Nat.zero_le _, rfl, rfl, rfl, rfl, rfl, rfl, rfl, rfl, fun j hj => absurd hj (by omega)⟩
  rintro m ts hk mk ihC ⟨c, hc, rfl, hll, q1, q2, q5, q7, rfl, rfl, PKi⟩
  rw [lit_all hll]
  simp only [lit0, litS, Nat.reduceAdd, q1, q2, q5, q7]
  have next : (∀ d, d < t.C → 0 < i → PasK t L (i - 1) d) → (∀ j, j < i + 1 → RowK t.C L j) ∧ ∀ j, j + 1 < i + 1 → ∀ c, c < t.C → PasK t L j c := fun hP => by
    refine ⟨fun j hj => ?_, fun j hj c hc => ?_⟩
    · by_cases e : j = i
      · subst e; exact RKi
      · exact RK j (by omega)
    · by_cases e : j + 1 = i
      · have := hP c hc (by omega)
        rwa [show i - 1 = j by omega] at this
      · exact PK j (by omega) c hc
  by_cases hlc2 : (c : Int) < t.ch
  case neg =>
    have n := next fun d hd h0 => PKi d (by omega) h0
    simp (disch := first | assumption | omega | (simp only [az]; done)) only [ru, eq_self, if_true, if_false, BEq.rfl, binI, AO.row?, splice, fillL, mmAll, loadV, storeV, zeros, Am.rowAt, Am.part, addOff, Nat.reduceAdd, Nat.reduceMul, Nat.reduceLeDiff, Nat.reduceSub, Nat.reduceLT, Int.reduceEq, Int.reduceLT, Int.reduceLE, Int.reduceGT, Int.reduceGE, Int.reduceAdd, Int.reduceSub, Int.reduceMul, Int.reduceNeg, Int.reduceToNat, reduceCtorEq, reduceIte, lenV_sl H.o, lenV_sl H.w, elem_sl Ls.el H.o, elem_sl Wd.el H.w, view_sl H.o, view_sl H.w, scalar_sl H.o, scalar_sl H.w, cells_sl H.o, cells_sl H.w, pure_sl H.o, pure_sl H.w, Int.toNat_natCast, hlc2, gUn]
    exact ih (t.T - (i + 1)) _ _ _ (by omega) ⟨i + 1, by omega, rfl, rfl, rfl, rfl, rfl, rfl, rfl, n.1, n.2⟩
  by_cases hi0 : (i : Int) > 0
  case neg =>
    have n := next fun d hd h0 => by omega
    simp (disch := first | assumption | omega | (simp only [az]; done)) only [ru, eq_self, if_true, if_false, BEq.rfl, binI, AO.row?, splice, fillL, mmAll, loadV, storeV, zeros, Am.rowAt, Am.part, addOff, Nat.reduceAdd, Nat.reduceMul, Nat.reduceLeDiff, Nat.reduceSub, Nat.reduceLT, Int.reduceEq, Int.reduceLT, Int.reduceLE, Int.reduceGT, Int.reduceGE, Int.reduceAdd, Int.reduceSub, Int.reduceMul, Int.reduceNeg, Int.reduceToNat, reduceCtorEq, reduceIte, lenV_sl H.o, lenV_sl H.w, elem_sl Ls.el H.o, elem_sl Wd.el H.w, view_sl H.o, view_sl H.w, scalar_sl H.o, scalar_sl H.w, cells_sl H.o, cells_sl H.w, pure_sl H.o, pure_sl H.w, Int.toNat_natCast, hlc2, hi0, gUn]
    exact ih (t.T - (i + 1)) _ _ _ (by omega) ⟨i + 1, by omega, rfl, rfl, rfl, rfl, rfl, rfl, rfl, n.1, n.2⟩
  obtain ⟨j, rfl⟩ : ∃ j, i = j + 1 := ⟨i - 1, by omega⟩
  have ej : ((j + 1 : Nat) : Int) - 1 = j := by omega
  have wj : wr .i64 (j : Int) = j := wr64 (by omega) (by omega)
  have j0 : (0 : Int) ≤ j := by omega
  have j1 : (j : Int) < (L.length : Nat) := by omega
  have j2 : (j : Int) < (t.op.length : Nat) := by omega
  obtain ⟨x', hx'⟩ : ∃ x', x' = L.getD j default := ⟨_, rfl⟩
  have rx' : rowN L j = x'.list := by rw [hx']; rfl
  have RKj := RK j (by omega)
  have lx' : x'.list.length = t.C := by rw [← rx']; exact RKj.1
  have c25' := fun st => s25 x'.is (by omega) (by rw [← rx']; exact rowK_mem RKj) (c := c) (by omega) st
  have c25x := c25 c (by omega)
  have e1 : (x.list.drop c).sum = behN L (j + 1) c := by unfold behN; rw [rx]
  have e2 : (x'.list.drop c).sum = behN L j c := by unfold behN; rw [rx']
  rw [e1] at c25x
  rw [e2] at c25'
  obtain ⟨d, hd⟩ : ∃ d, d = behN L (j + 1) c - behN L j c := ⟨_, rfl⟩
  have bd1 := beh_bd RKi (by omega : t.C ≤ 4) (c := c)
  have bd2 := beh_bd RKj (by omega : t.C ≤ 4) (c := c)
  have wd : wr .i64 (behN L (j + 1) c - behN L j c) = d := by rw [hd]; exact wr64 (by omega) (by omega)
  have nextP : (0 ≤ d ∧ (0 < d → hasI (t.op.getD j default).list c = true)) → ∀ d', d' < c + 1 → 0 < j + 1 → PasK t L (j + 1 - 1) d' := fun h d' hd' h0 => by
    by_cases e : d' = c
    · subst e
      rw [Nat.add_sub_cancel]
      unfold PasK
      rw [← hd]; exact h
    · exact PKi d' (by omega) h0
  have bad : ¬ (0 ≤ d ∧ (0 < d → hasI (t.op.getD j default).list c = true)) → ¬ TruN t L := fun h T => h (by
    have := T.p j (by omega) c (by omega)
    unfold PasK at this
    rw [← hd] at this; exact this)
  obtain ⟨u, hu⟩ : ∃ u, u = t.op.getD j default := ⟨_, rfl⟩
  have uun := Ls.under H.sl (show j < t.op.length by omega)
  rw [← hu] at uun nextP bad
  have c40 := fun st => s40 u.is (by omega) c st
  have ex : x = L.getD (j + 1) default := hx
  by_cases g1 : d < 0
  · simp (disch := first | assumption | omega | (simp only [az]; done)) only [ru, eq_self, if_true, if_false, BEq.rfl, binI, AO.row?, splice, fillL, mmAll, loadV, storeV, zeros, Am.rowAt, Am.part, addOff, Nat.reduceAdd, Nat.reduceMul, Nat.reduceLeDiff, Nat.reduceSub, Nat.reduceLT, Int.reduceEq, Int.reduceLT, Int.reduceLE, Int.reduceGT, Int.reduceGE, Int.reduceAdd, Int.reduceSub, Int.reduceMul, Int.reduceNeg, Int.reduceToNat, reduceCtorEq, reduceIte, lenV_sl H.o, lenV_sl H.w, elem_sl Ls.el H.o, elem_sl Wd.el H.w, view_sl H.o, view_sl H.w, scalar_sl H.o, scalar_sl H.w, cells_sl H.o, cells_sl H.w, pure_sl H.o, pure_sl H.w, Int.toNat_natCast, lenV_sl hL, elem_sl Ls.el hL, view_sl hL, scalar_sl hL, cells_sl hL, pure_sl hL, hlc2, hi0, i0, hlt, Int.toNat_natCast, ← hx, Ls.e, lenV_sl x.is, elem_sl intE x.is, view_sl x.is, scalar_sl x.is, cells_sl x.is, pure_sl x.is, c25x, ej, j0, j1, ← hx', lenV_sl x'.is, elem_sl intE x'.is, view_sl x'.is, scalar_sl x'.is, cells_sl x'.is, pure_sl x'.is, c25', wd, g1, gUn]
    exact no (P := True) (bad fun h => by omega)
  by_cases g2 : d > 0
  · cases hh : hasI u.list c
    · simp (disch := first | assumption | omega | (simp only [az]; done)) only [ru, eq_self, if_true, if_false, BEq.rfl, binI, AO.row?, splice, fillL, mmAll, loadV, storeV, zeros, Am.rowAt, Am.part, addOff, Nat.reduceAdd, Nat.reduceMul, Nat.reduceLeDiff, Nat.reduceSub, Nat.reduceLT, Int.reduceEq, Int.reduceLT, Int.reduceLE, Int.reduceGT, Int.reduceGE, Int.reduceAdd, Int.reduceSub, Int.reduceMul, Int.reduceNeg, Int.reduceToNat, reduceCtorEq, reduceIte, lenV_sl H.o, lenV_sl H.w, elem_sl Ls.el H.o, elem_sl Wd.el H.w, view_sl H.o, view_sl H.w, scalar_sl H.o, scalar_sl H.w, cells_sl H.o, cells_sl H.w, pure_sl H.o, pure_sl H.w, Int.toNat_natCast, lenV_sl hL, elem_sl Ls.el hL, view_sl hL, scalar_sl hL, cells_sl hL, pure_sl hL, hlc2, hi0, i0, hlt, Int.toNat_natCast, ← hx, Ls.e, lenV_sl x.is, elem_sl intE x.is, view_sl x.is, scalar_sl x.is, cells_sl x.is, pure_sl x.is, c25x, ej, j0, j1, j2, ← hx', lenV_sl x'.is, elem_sl intE x'.is, view_sl x'.is, scalar_sl x'.is, cells_sl x'.is, pure_sl x'.is, c25', wd, g1, g2, ← hu, lenV_sl u.is, elem_sl intE u.is, view_sl u.is, scalar_sl u.is, cells_sl u.is, pure_sl u.is, c40, hh, gUn]
      exact no (P := True) (bad fun h => by have := h.2 g2; rw [hh] at this; cases this)
    · have nP := nextP ⟨by omega, fun _ => hh⟩
      simp (disch := first | assumption | omega | (simp only [az]; done)) only [ru, eq_self, if_true, if_false, BEq.rfl, binI, AO.row?, splice, fillL, mmAll, loadV, storeV, zeros, Am.rowAt, Am.part, addOff, Nat.reduceAdd, Nat.reduceMul, Nat.reduceLeDiff, Nat.reduceSub, Nat.reduceLT, Int.reduceEq, Int.reduceLT, Int.reduceLE, Int.reduceGT, Int.reduceGE, Int.reduceAdd, Int.reduceSub, Int.reduceMul, Int.reduceNeg, Int.reduceToNat, reduceCtorEq, reduceIte, lenV_sl H.o, lenV_sl H.w, elem_sl Ls.el H.o, elem_sl Wd.el H.w, view_sl H.o, view_sl H.w, scalar_sl H.o, scalar_sl H.w, cells_sl H.o, cells_sl H.w, pure_sl H.o, pure_sl H.w, Int.toNat_natCast, lenV_sl hL, elem_sl Ls.el hL, view_sl hL, scalar_sl hL, cells_sl hL, pure_sl hL, hlc2, hi0, i0, hlt, Int.toNat_natCast, ← hx, Ls.e, lenV_sl x.is, elem_sl intE x.is, view_sl x.is, scalar_sl x.is, cells_sl x.is, pure_sl x.is, c25x, ej, j0, j1, j2, ← hx', lenV_sl x'.is, elem_sl intE x'.is, view_sl x'.is, scalar_sl x'.is, cells_sl x'.is, pure_sl x'.is, c25', wd, g1, g2, ← hu, lenV_sl u.is, elem_sl intE u.is, view_sl u.is, scalar_sl u.is, cells_sl u.is, pure_sl u.is, c40, hh, gUn]
      exact ihC (t.C - (c + 1)) _ _ _ (by omega) ⟨c + 1, by omega, rfl, rfl, rfl, rfl, rfl, rfl, rfl, rfl, nP⟩
  · have nP := nextP ⟨by omega, fun h => by omega⟩
    simp (disch := first | assumption | omega | (simp only [az]; done)) only [ru, eq_self, if_true, if_false, BEq.rfl, binI, AO.row?, splice, fillL, mmAll, loadV, storeV, zeros, Am.rowAt, Am.part, addOff, Nat.reduceAdd, Nat.reduceMul, Nat.reduceLeDiff, Nat.reduceSub, Nat.reduceLT, Int.reduceEq, Int.reduceLT, Int.reduceLE, Int.reduceGT, Int.reduceGE, Int.reduceAdd, Int.reduceSub, Int.reduceMul, Int.reduceNeg, Int.reduceToNat, reduceCtorEq, reduceIte, lenV_sl H.o, lenV_sl H.w, elem_sl Ls.el H.o, elem_sl Wd.el H.w, view_sl H.o, view_sl H.w, scalar_sl H.o, scalar_sl H.w, cells_sl H.o, cells_sl H.w, pure_sl H.o, pure_sl H.w, Int.toNat_natCast, lenV_sl hL, elem_sl Ls.el hL, view_sl hL, scalar_sl hL, cells_sl hL, pure_sl hL, hlc2, hi0, i0, hlt, Int.toNat_natCast, ← hx, Ls.e, lenV_sl x.is, elem_sl intE x.is, view_sl x.is, scalar_sl x.is, cells_sl x.is, pure_sl x.is, c25x, ej, j0, j1, j2, ← hx', lenV_sl x'.is, elem_sl intE x'.is, view_sl x'.is, scalar_sl x'.is, cells_sl x'.is, pure_sl x'.is, c25', wd, g1, g2, gUn]
    exact ihC (t.C - (c + 1)) _ _ _ (by omega) ⟨c + 1, by omega, rfl, rfl, rfl, rfl, rfl, rfl, rfl, rfl, nP⟩
end Go.Proofs.Ytjmelmmhnpgneaa.S

/-
Numbers and truths; the law of both ends.
-/
namespace Go.Proofs.Ytjmelmmhnpgneaa.S
open Go Go.Am Go.Proofs.Ytjmelmmhnpgneaa.T
set_option maxRecDepth 100000
set_option linter.unusedSimpArgs false
set_option linter.unusedVariables false

theorem numL_row {C T i : Nat} {x : Nat → Int} (hi : i < T) : rowN (numL C T x) i = rowG C x i := by
  unfold rowN
  rw [numL_at hi]; rfl
theorem rowG_drop {C i : Nat} {x : Nat → Int} : ∀ n c, c + n = C → ((rowG C x i).drop c).sum = x (sumN C i c) - x (sumN C i C)
  | 0, c, h => by
    have : c = C := by omega
    subst this
    rw [List.drop_eq_nil_of_le (by rw [rowG_len]; exact Nat.le_refl _)]
    simp
  | n + 1, c, h => by
    rw [drop_sum (by rw [rowG_len]; omega), rowG_at (by omega), rowG_drop n (c + 1) (by omega)]
    unfold gap; omega
theorem numL_beh {C T i c : Nat} {x : Nat → Int} (hi : i < T) (hc : c ≤ C) : behN (numL C T x) i c = x (sumN C i c) - x 0 := by
  unfold behN
  rw [numL_row hi, rowG_drop (C - c) c (by omega), sumN_last]
theorem numL_num {C T i c : Nat} {x : Nat → Int} (hi : i < T) (hc : c < C) : numN (numL C T x) i c = gap C x i c := by
  unfold numN
  rw [numL_row hi, rowG_at hc]
section
variable {t : Trap}
theorem may_has {i c : Nat} : 0 < mayP t.op i c ↔ hasI (t.op.getD i default).list c = true := by
  unfold mayP
  split <;> simp_all
theorem word_in (V : TrB t) {k : Nat} (hk : k < t.ws.length) : (t.ws.getD k default).time.toNat < t.T ∧ (t.ws.getD k default).ch.toNat < t.C :=
  word_at V (trC V) (trT V) (mem_getD hk)
/-- a truth's numbers are a truth -/
theorem tr_num (V : TrB t) {x : Nat → Int} (hx : Tr t x) : TruN t (numL t.C t.T x) := by
  have v1 := V.c0; have v2 := V.c1; have v4 := V.t1; have vo := V.o
  have eC := trC V; have eT := trT V
  refine ⟨numL_len, fun i hi => ⟨by rw [numL_row hi, rowG_len], fun c hc => ?_, ?_⟩, fun i hi c hc => ?_, fun k hk => ?_⟩
  · rw [numL_num hi hc]; exact hx.2.f i c hi hc
  · rw [numL_beh hi (Nat.zero_le _)]
    exact (sat_wid.1 hx.1).1 _ 0 (sumN_lt (by omega) (by omega) (by omega)) (by omega) (by rw [sumN_in (by omega)]; omega)
  · have m := hx.2.m i c (by omega) hc
    unfold flow at m
    unfold PasK
    rw [numL_beh hi (by omega), numL_beh (by omega) (by omega)]
    refine ⟨by omega, fun h => ?_⟩
    rw [← may_has]
    omega
  · have w := hx.2.w k hk
    have wi := word_in V hk
    rw [numL_num wi.1 wi.2]
    exact w
/-- the sums of numbers -/
def xN (C T : Nat) (L : List Ls) : Nat → Int := fun k => if k = 0 then 0 else if (k - 1) / 4 < T ∧ (k - 1) % 4 < C then behN L ((k - 1) / 4) ((k - 1) % 4) else 0
theorem xN_at {C T i c : Nat} {L : List Ls} (hC : C ≤ 4) (hi : i < T) (hc : c < C) : xN C T L (sumN C i c) = behN L i c := by
  rw [sumN_in hc]
  unfold xN
  have e1 : (1 + i * 4 + c - 1) / 4 = i := by omega
  have e2 : (1 + i * 4 + c - 1) % 4 = c := by omega
  rw [if_neg (by omega), e1, e2, if_pos ⟨hi, hc⟩]
theorem xN_le {C T i c : Nat} {L : List Ls} (hC : C ≤ 4) (hi : i < T) (hc : c ≤ C) (h : RowK C L i) : xN C T L (sumN C i c) = behN L i c := by
  by_cases e : c = C
  · subst e
    rw [sumN_last]
    unfold behN
    rw [List.drop_eq_nil_of_le (by rw [h.1]; exact Nat.le_refl _)]
    rfl
  · exact xN_at hC hi (by omega)
theorem beh_le {C : Nat} {L : List Ls} {i : Nat} (h : RowK C L i) : ∀ c, c ≤ C → behN L i c ≤ behN L i 0
  | 0, _ => Int.le_refl _
  | c + 1, hc => by
    have h1 := beh_le h c (by omega)
    have h2 := (h.2.1 c (by omega)).1
    have h3 := drop_sum (l := rowN L i) (i := c) (by rw [h.1]; omega)
    unfold numN at h2
    unfold behN at *
    omega
theorem num_tr (V : TrB t) {L : List Ls} (h : TruN t L) : ∃ x, Tr t x ∧ (∀ i c, i < t.T → c < t.C → numN L i c = gap t.C x i c) ∧ ∀ i c, i < t.T → c ≤ t.C → behN L i c = x (sumN t.C i c) - x 0 := by
  have v1 := V.c0; have v2 := V.c1; have v4 := V.t1; have vo := V.o
  have eC := trC V; have eT := trT V
  have hC : t.C ≤ 4 := by omega
  obtain ⟨x, hx⟩ : ∃ x, x = xN t.C t.T L := ⟨_, rfl⟩
  have x0 : x 0 = 0 := by rw [hx]; rfl
  have at' : ∀ i c, i < t.T → c ≤ t.C → x (sumN t.C i c) = behN L i c := fun i c hi hc => by rw [hx]; exact xN_le hC hi hc (h.r i hi)
  have g : ∀ i c, i < t.T → c < t.C → numN L i c = gap t.C x i c := fun i c hi hc => by
    unfold gap
    rw [at' i c hi (by omega), at' i (c + 1) hi (by omega)]
    have h3 := drop_sum (l := rowN L i) (i := c) (by rw [(h.r i hi).1]; omega)
    unfold behN numN
    omega
  have bd : ∀ k, 0 ≤ x k ∧ x k ≤ 40 := by
    intro k
    rw [hx]
    unfold xN
    split
    · omega
    · split
      · rename_i hk
        have r := h.r _ hk.1
        have a := beh_le r _ (Nat.le_of_lt hk.2)
        have b := (beh_bd r hC (c := (k - 1) % 4)).1
        have c := r.2.2
        omega
      · omega
  refine ⟨x, ⟨sat_wid.2 ⟨fun k l _ _ _ => by have := bd k; have := bd l; omega, fun l _ => by have := bd l; omega⟩, ⟨fun i c hi hc => ?_, fun i c hi hc => ?_, fun k hk => ?_⟩⟩, g, fun i c hi hc => by rw [at' i c hi hc, x0]; omega⟩
  · rw [← g i c hi hc]; exact (h.r i hi).2.1 c hc
  · have p := h.p i (by omega) c hc
    unfold flow
    rw [at' (i + 1) c (by omega) (by omega), at' i c (by omega) (by omega)]
    refine ⟨p.1, ?_⟩
    have ml := @mayP_le t.op i c
    by_cases hd : 0 < behN L (i + 1) c - behN L i c
    · have : mayP t.op i c = 40 := by unfold mayP; rw [if_pos (p.2 hd)]
      rw [this]
      have r := h.r (i + 1) (by omega)
      have a := beh_le r c (by omega)
      have b := (beh_bd (h.r i (by omega)) hC (c := c)).1
      have d := r.2.2
      omega
    · omega
  · have w := h.w k hk
    have wi := word_in V hk
    rw [g _ _ wi.1 wi.2] at w
    exact w
end
theorem num_huge {C T : Nat} {x : Nat → Int} (hC : C ≤ 4) (hT : T ≤ 5) : hugeL (numL C T x) = false := by
  unfold hugeL
  rw [numL_len, decide_eq_false (by omega), Bool.false_or]
  refine any_not ?_
  rw [List.all_eq_true]
  intro i hi
  rw [List.mem_range] at hi
  rw [numL_at hi, Ls.of_list, rowG_len]
  simp; omega

end Go.Proofs.Ytjmelmmhnpgneaa.S

/-
Whether numbers are a truth, by the program: roomy, gone, isTruth; Holds on both sides; lists in new memory.
-/
namespace Go.Proofs.Ytjmelmmhnpgneaa.S
open Go Go.Am Go.Proofs.Ytjmelmmhnpgneaa.T
set_option maxRecDepth 100000
set_option linter.unusedSimpArgs false
set_option linter.unusedVariables false

end Go.Proofs.Ytjmelmmhnpgneaa.S

/-
Whether numbers are a truth, by the program: isTruth; Holds on both sides; lists in new memory.
-/
namespace Go.Proofs.Ytjmelmmhnpgneaa.S
open Go Go.Am Go.Proofs.Ytjmelmmhnpgneaa.T
set_option maxRecDepth 100000
set_option linter.unusedSimpArgs false
set_option linter.unusedVariables false

end Go.Proofs.Ytjmelmmhnpgneaa.S

/-
Lists in new memory: copied.
-/
namespace Go.Proofs.Ytjmelmmhnpgneaa.S
open Go Go.Am Go.Proofs.Ytjmelmmhnpgneaa.T
set_option maxRecDepth 100000
set_option linter.unusedSimpArgs false
set_option linter.unusedVariables false

end Go.Proofs.Ytjmelmmhnpgneaa.S

/-
The law of each truth.
-/
namespace Go.Proofs.Ytjmelmmhnpgneaa.S
open Go Go.Am Go.Proofs.Ytjmelmmhnpgneaa.T
set_option maxRecDepth 100000
set_option linter.unusedSimpArgs false
set_option linter.unusedVariables false

theorem cp_row {L : List Ls} {i : Nat} : rowN (cpL L) i = rowN L i := by
  unfold rowN
  by_cases h : i < L.length
  · rw [cpL_list h]
  · have h1 : (cpL L).getD i default = default := by rw [List.getD_eq_getElem?_getD, List.getElem?_eq_none (by rw [cpL_len]; omega)]; rfl
    have h2 : L.getD i default = default := by rw [List.getD_eq_getElem?_getD, List.getElem?_eq_none (by omega)]; rfl
    rw [h1, h2]
theorem tru_cp {t : Trap} {L : List Ls} : TruN t (cpL L) ↔ TruN t L := by
  have e1 : ∀ i c, numN (cpL L) i c = numN L i c := fun i c => by unfold numN; rw [cp_row]
  have e2 : ∀ i c, behN (cpL L) i c = behN L i c := fun i c => by unfold behN; rw [cp_row]
  have e3 : ∀ i, RowK t.C (cpL L) i ↔ RowK t.C L i := fun i => by unfold RowK; rw [cp_row, e2]; simp only [e1]
  have e4 : ∀ i c, PasK t (cpL L) i c ↔ PasK t L i c := fun i c => by unfold PasK; rw [e2, e2]
  constructor
  · intro h
    exact ⟨cpL_len.symm.trans h.l, fun i hi => (e3 i).1 (h.r i hi), fun i hi c hc => (e4 i c).1 (h.p i hi c hc), fun k hk => by have := h.w k hk; rw [e1] at this; exact this⟩
  · intro h
    exact ⟨cpL_len.trans h.l, fun i hi => (e3 i).2 (h.r i hi), fun i hi c hc => (e4 i c).2 (h.p i hi c hc), fun k hk => by rw [e1]; exact h.w k hk⟩
end Go.Proofs.Ytjmelmmhnpgneaa.S

