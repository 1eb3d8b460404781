/-
The functions of both sides of stage 1, one after another (S4).
-/
import Derived.Test.YtjaaefdhdggnkaaS3

/-
The laws of stage 1 on Fish and Whole, and on Came and Passed.
-/
namespace Go.Proofs.Ytjaaefdhdggnkaa.S
open Go Go.Am Go.Proofs.Ytjaaefdhdggnkaa.T
set_option maxRecDepth 100000
set_option linter.unusedSimpArgs false
set_option linter.unusedVariables false

end Go.Proofs.Ytjaaefdhdggnkaa.S

/-
What the reference answers: Judge and Enough; the law on them.
-/
namespace Go.Proofs.Ytjaaefdhdggnkaa.S
open Go Go.Am Go.Proofs.Ytjaaefdhdggnkaa.T
set_option maxRecDepth 100000
set_option linter.unusedSimpArgs false
set_option linter.unusedVariables false

/-! what is asked of a copy -/
theorem KnR.map {t : Trap} {fit fit' : Bool} {e : Int} (K : KnR t fit e) (h : t.valid = true → fit' = fit) : KnR t fit' e := by
  cases K with
  | bad hv => exact .bad hv
  | arg hv hf => exact .arg hv ((h hv).trans hf)
  | none hv hf hn => exact .none hv ((h hv).trans hf) hn
  | ok hv hf hs => exact .ok hv ((h hv).trans hf) hs
end Go.Proofs.Ytjaaefdhdggnkaa.S

/-
Whether a trap is ready; the law of time.
-/
namespace Go.Proofs.Ytjaaefdhdggnkaa.S
open Go Go.Am Go.Proofs.Ytjaaefdhdggnkaa.T
set_option maxRecDepth 100000
set_option linter.unusedSimpArgs false
set_option linter.unusedVariables false

def rdy (t : Trap) : Bool := !t.huge && t.valid
theorem s16 {t : Trap} {o w : AV} (H0 : TrIn t o w) (st : Bool) : Iso E 16 [trV t o w] st = some (Bo (rdy t)) := by
  have ho := H0.o
  have hw := H0.w
  have c53 := fun st => s53 H0 st
  unfold rdy
  cases hg : t.huge
  case true =>
    refine Iso_of (es _ _ _ _) e16 ?_
    simp only [f16, trV, hg] at c53 ⊢
    simp (disch := first | assumption | omega | (simp only [az]; done)) only [ru, eq_self, if_true, if_false, BEq.rfl, binI, AO.row?, splice, fillL, mmAll, loadV, storeV, zeros, Am.rowAt, Am.part, addOff, Nat.reduceAdd, Nat.reduceMul, Nat.reduceLeDiff, Nat.reduceSub, Nat.reduceLT, Int.reduceEq, Int.reduceLT, Int.reduceLE, Int.reduceGT, Int.reduceGE, Int.reduceAdd, Int.reduceSub, Int.reduceMul, Int.reduceNeg, Int.reduceToNat, reduceCtorEq, reduceIte, lenV_sl ho, elem_sl Ls.el ho, view_sl ho, scalar_sl ho, cells_sl ho, pure_sl ho, lenV_sl hw, elem_sl Wd.el hw, view_sl hw, scalar_sl hw, cells_sl hw, pure_sl hw, c53, gUn, Bool.not_true, Bool.false_and]
  have c55 := fun st => s55 (H0.ok hg) st
  refine Iso_of (es _ _ _ _) e16 ?_
  simp only [f16, trV, hg, chkE] at c53 c55 ⊢
  cases hv : t.valid
  · simp only [hv, Bool.false_eq_true, if_false] at c55
    simp (disch := first | assumption | omega | (simp only [az]; done)) only [ru, eq_self, if_true, if_false, BEq.rfl, binI, AO.row?, splice, fillL, mmAll, loadV, storeV, zeros, Am.rowAt, Am.part, addOff, Nat.reduceAdd, Nat.reduceMul, Nat.reduceLeDiff, Nat.reduceSub, Nat.reduceLT, Int.reduceEq, Int.reduceLT, Int.reduceLE, Int.reduceGT, Int.reduceGE, Int.reduceAdd, Int.reduceSub, Int.reduceMul, Int.reduceNeg, Int.reduceToNat, reduceCtorEq, reduceIte, lenV_sl ho, elem_sl Ls.el ho, view_sl ho, scalar_sl ho, cells_sl ho, pure_sl ho, lenV_sl hw, elem_sl Wd.el hw, view_sl hw, scalar_sl hw, cells_sl hw, pure_sl hw, c53, c55, Bool.not_false, Bool.true_and]
  · simp only [hv, if_true] at c55
    simp (disch := first | assumption | omega | (simp only [az]; done)) only [ru, eq_self, if_true, if_false, BEq.rfl, binI, AO.row?, splice, fillL, mmAll, loadV, storeV, zeros, Am.rowAt, Am.part, addOff, Nat.reduceAdd, Nat.reduceMul, Nat.reduceLeDiff, Nat.reduceSub, Nat.reduceLT, Int.reduceEq, Int.reduceLT, Int.reduceLE, Int.reduceGT, Int.reduceGE, Int.reduceAdd, Int.reduceSub, Int.reduceMul, Int.reduceNeg, Int.reduceToNat, reduceCtorEq, reduceIte, lenV_sl ho, elem_sl Ls.el ho, view_sl ho, scalar_sl ho, cells_sl ho, pure_sl ho, lenV_sl hw, elem_sl Wd.el hw, view_sl hw, scalar_sl hw, cells_sl hw, pure_sl hw, c53, c55, Bool.not_false, Bool.true_and]
theorem rdy_h {t : Trap} (h : rdy t = true) : t.huge = false ∧ t.valid = true := by
  unfold rdy at h
  simpa using h
section
variable {t : Trap} {fit : Bool} {f : (Nat → Int) → Int} {lo hi e : Int}
theorem Ans.val (A : Ans t fit f lo hi e) (hv : t.valid = true) (hf : fit = true) (hs : Solv t.C t.T t) : e = 0 ∧ Xt t f lo hi := by
  cases A with
  | bad h => rw [hv] at h; cases h
  | arg _ h => rw [hf] at h; cases h
  | none _ _ h => exact absurd hs h
  | ok _ _ _ h => exact ⟨rfl, h⟩
end

end Go.Proofs.Ytjaaefdhdggnkaa.S

/-
Fish of all chambers at all times.
-/
namespace Go.Proofs.Ytjaaefdhdggnkaa.S
open Go Go.Am Go.Proofs.Ytjaaefdhdggnkaa.T
set_option maxRecDepth 100000
set_option linter.unusedSimpArgs false
set_option linter.unusedVariables false

/-- spans, row by row -/
def spRow (C : Nat) (S : Nat → Nat → Spn) (i : Nat) : List Spn := (List.range C).map fun c => S i c
def encR (r : List Spn) : List AV := [slV 2 Spn.e r]
def spR (C T : Nat) (S : Nat → Nat → Spn) : List (List Spn) := (List.range T).map fun i => spRow C S i
def spV (C T : Nat) (S : Nat → Nat → Spn) : AV := slV 1 encR (spR C T S)
theorem spRow_len {C i : Nat} {S : Nat → Nat → Spn} : (spRow C S i).length = C := by simp [spRow]
theorem spR_len {C T : Nat} {S : Nat → Nat → Spn} : (spR C T S).length = T := by simp [spR]
theorem encR_len (r : List Spn) : (encR r).length = 1 := rfl
theorem spR_at {C T i : Nat} {S : Nat → Nat → Spn} (hi : i < T) : (spR C T S).getD i default = spRow C S i := by
  simp [spR, List.getD_eq_getElem?_getD, hi]
theorem sps_view {st : Bool} {h : List AO} {n : Nat} (l : List Spn) : (l.flatMap Spn.e).mapM (view st h n) = some (l.flatMap Spn.e) := by
  induction l with
  | nil => rfl
  | cons a l ih =>
    show (I a.lo :: I a.hi :: l.flatMap Spn.e).mapM (view st h n) = _
    simp only [List.mapM_cons, view_int, ih]; rfl
/-- as they lie in the heap -/
def SpsH (h : List AO) (v : AV) (C i : Nat) (S : Nat → Nat → Spn) : Prop :=
  (i = 0 ∧ v = .nils) ∨ (0 < i ∧ ∃ o vs, v = .ms 1 o 0 i ∧ h[o]? = some (.cells vs false) ∧ vs.length = i ∧ ∀ j, j < i → ∃ p, p ≠ o ∧ vs.getD j .undef = .ms 2 p 0 C ∧ h[p]? = some (.cells ((spRow C S j).flatMap Spn.e) false))
theorem SpsH.sc {h : List AO} {v : AV} {C i : Nat} {S : Nat → Nat → Spn} (H : SpsH h v C i S) : v.scalar = true ∧ v.cells = [v] := by
  rcases H with ⟨_, rfl⟩ | ⟨_, o, vs, rfl, _⟩ <;> exact ⟨rfl, rfl⟩
theorem SpsH.fr {h h' : List AO} {v : AV} {C i : Nat} {S : Nat → Nat → Spn} (H : SpsH h v C i S) (hf : ∀ k, k < h.length → h'[k]? = h[k]?) : SpsH h' v C i S := by
  rcases H with H | ⟨h0, o, vs, h1, ho, hl, hr⟩
  · exact .inl H
  · refine .inr ⟨h0, o, vs, h1, by rw [hf o (List.getElem?_eq_some_iff.1 ho).1]; exact ho, hl, fun j hj => ?_⟩
    obtain ⟨p, p1, e, hp⟩ := hr j hj
    exact ⟨p, p1, e, by rw [hf p (List.getElem?_eq_some_iff.1 hp).1]; exact hp⟩
theorem SpsH.view {h : List AO} {v : AV} {C T : Nat} {S : Nat → Nat → Spn} (H : SpsH h v C T S) (hT : 0 < T) (n : Nat) (st : Bool) : view st h (n + 2) v = some (spV C T S) := by
  rcases H with ⟨h0, _⟩ | ⟨h0, o, vs, rfl, ho, hl, hr⟩
  · omega
  rw [view_ms, rowOf_ms]
  simp only [Am.rowAt, ho, Option.bind_some, AO.row?, List.drop_zero]
  rw [List.take_of_length_le (by omega), if_pos (by omega)]
  have hf : ((spR C T S).flatMap encR).length = T := by rw [flat_len encR_len, spR_len, Nat.mul_one]
  have hm : vs.mapM (Am.view st h (n + 1)) = some ((spR C T S).flatMap encR) := by
    refine mapM_get (by omega) fun i hi => ?_
    have hi' : i < T := by omega
    obtain ⟨p, _, e, hp⟩ := hr i hi'
    rw [e, view_ms, rowOf_ms]
    simp only [Am.rowAt, hp, Option.bind_some, AO.row?, List.drop_zero]
    have fl : ((spRow C S i).flatMap Spn.e).length = C * 2 := by rw [flat_len Spn.el, spRow_len]
    rw [List.take_of_length_le (by omega), if_pos fl]
    simp only [sps_view, Option.map_some]
    have hc : i < (spR C T S).length := by rw [spR_len]; exact hi'
    have := flat_at encR_len (spR C T S) i hc
    have e2 : (spR C T S)[i] = spRow C S i := by
      have := spR_at (S := S) (C := C) hi'
      rwa [List.getD_eq_getElem?_getD, List.getElem?_eq_getElem hc, Option.getD_some] at this
    rw [e2, Nat.mul_one] at this
    have e3 : ((spR C T S).flatMap encR).getD i .undef = slV 2 Spn.e (spRow C S i) := by
      have h4 : (((spR C T S).flatMap encR).drop i).head? = some (slV 2 Spn.e (spRow C S i)) := by
        have := congrArg List.head? this
        rw [List.head?_take] at this
        simpa [encR] using this
      rw [List.head?_drop] at h4
      rw [List.getD_eq_getElem?_getD, h4]; rfl
    rw [e3]
    simp only [slV, spRow_len]
  simp only [hm, Option.map_some, spV, slV, spR_len]

end Go.Proofs.Ytjaaefdhdggnkaa.S

/-
No span of a trap is wider than that of another one: narrower.
-/
namespace Go.Proofs.Ytjaaefdhdggnkaa.S
open Go Go.Am Go.Proofs.Ytjaaefdhdggnkaa.T
set_option maxRecDepth 100000
set_option linter.unusedSimpArgs false
set_option linter.unusedVariables false

end Go.Proofs.Ytjaaefdhdggnkaa.S

/-
The law of enough fish.
-/
namespace Go.Proofs.Ytjaaefdhdggnkaa.S
open Go Go.Am Go.Proofs.Ytjaaefdhdggnkaa.T
set_option maxRecDepth 100000
set_option linter.unusedSimpArgs false
set_option linter.unusedVariables false

theorem AnsG.val {α : Type} {t : Trap} {fit : Bool} {D : Int → α} {P : α → Prop} {v : α} (A : AnsG t fit D P v) (hv : t.valid = true) (hf : fit = true) (hs : Solv t.C t.T t) : P v := by
  cases A with
  | bad h => rw [hv] at h; cases h
  | arg _ h => rw [hf] at h; cases h
  | none _ _ h => exact absurd hs h
  | ok _ _ _ h => exact h
/-- whether there is a truth, as a bool -/
theorem one_val {t : Trap} {o w : AV} (H : TrOk t o w) (hv : t.valid = true) : ∃ b, (∀ st, Iso E 36 [trV t o w] st = some (Bo b)) ∧ (b = true ↔ Solv t.C t.T t) := s36 H (valid_trb hv) (eqC hv) (eqT hv)
end Go.Proofs.Ytjaaefdhdggnkaa.S

/-
A trap with one word less: Without; words without one: slices.Concat.
-/
namespace Go.Proofs.Ytjaaefdhdggnkaa.S
open Go Go.Am Go.Proofs.Ytjaaefdhdggnkaa.T
set_option maxRecDepth 100000
set_option linter.unusedSimpArgs false
set_option linter.unusedVariables false

/-! words one after another -/
def GrH (h : List AO) (v : AV) (L : List Wd) : Prop := (v = .nils ∧ L = []) ∨ ∃ o c, v = .ms 4 o 0 L.length ∧ h[o]? = some (.cells c false) ∧ c.take (L.length * 4) = L.flatMap Wd.e ∧ L.length * 4 ≤ c.length
theorem GrH.view {h : List AO} {v : AV} {L : List Wd} (H : GrH h v L) (n : Nat) : ∃ u, (∀ st, Am.view st h (n + 1) v = some u) ∧ IsSl 4 Wd.e L u := by
  rcases H with ⟨rfl, rfl⟩ | ⟨o, c, rfl, ho, ht, hc⟩
  · exact ⟨.nils, fun st => view_nils, .inr ⟨rfl, rfl⟩⟩
  · refine ⟨_, fun st => ?_, .inl rfl⟩
    rw [view_ms, rowOf_ms]
    simp only [Am.rowAt, ho, Option.bind_some, AO.row?, List.drop_zero, ht]
    rw [if_pos (by rw [flat_len Wd.el])]
    simp only [wds_view, Option.map_some]
end Go.Proofs.Ytjaaefdhdggnkaa.S

/-
What the program answers: Idle.
-/
namespace Go.Proofs.Ytjaaefdhdggnkaa.S
open Go Go.Am Go.Proofs.Ytjaaefdhdggnkaa.T
set_option maxRecDepth 100000
set_option linter.unusedSimpArgs false
set_option linter.unusedVariables false

/-- a list of numbers that is made by appends -/
def LiN (h : List AO) (v : AV) (L : List Int) : Prop := (L = [] ∧ v = .nils) ∨ (L ≠ [] ∧ ∃ p, v = .ms 1 p 0 L.length ∧ h[p]? = some (.cells (L.flatMap intL) false))
theorem LiN.fr {h h' : List AO} {v : AV} {L : List Int} (H : LiN h v L) (hf : ∀ k, k < h.length → h'[k]? = h[k]?) : LiN h' v L := by
  rcases H with H | ⟨h0, p, e, hp⟩
  · exact .inl H
  · exact .inr ⟨h0, p, e, by rw [hf p (List.getElem?_eq_some_iff.1 hp).1]; exact hp⟩
theorem LiN.view {h : List AO} {v : AV} {L : List Int} (H : LiN h v L) (n : Nat) : ∃ u, (∀ st, Am.view st h (n + 1) v = some u) ∧ IsSl 1 intL L u := by
  rcases H with ⟨rfl, rfl⟩ | ⟨h0, p, rfl, hp⟩
  · exact ⟨.nils, fun st => view_nils, .inr ⟨rfl, rfl⟩⟩
  · refine ⟨_, fun st => ?_, .inl rfl⟩
    rw [view_ms, rowOf_ms]
    simp only [Am.rowAt, hp, Option.bind_some, AO.row?, List.drop_zero]
    rw [List.take_of_length_le (by rw [flat1]; omega), if_pos (by rw [flat1]; omega)]
    simp only [ints_view, Option.map_some]
end Go.Proofs.Ytjaaefdhdggnkaa.S

/-
The law of the idle words.
-/
namespace Go.Proofs.Ytjaaefdhdggnkaa.S
open Go Go.Am Go.Proofs.Ytjaaefdhdggnkaa.T
set_option maxRecDepth 100000
set_option linter.unusedSimpArgs false
set_option linter.unusedVariables false

end Go.Proofs.Ytjaaefdhdggnkaa.S

/-
Whether numbers are a truth, by the reference: Sum, Behind, IsTruth.
-/
namespace Go.Proofs.Ytjaaefdhdggnkaa.S
open Go Go.Am Go.Proofs.Ytjaaefdhdggnkaa.T
set_option maxRecDepth 100000
set_option linter.unusedSimpArgs false
set_option linter.unusedVariables false

/-! numbers that are a truth -/
end Go.Proofs.Ytjaaefdhdggnkaa.S

/-
Numbers and truths; the law of both ends.
-/
namespace Go.Proofs.Ytjaaefdhdggnkaa.S
open Go Go.Am Go.Proofs.Ytjaaefdhdggnkaa.T
set_option maxRecDepth 100000
set_option linter.unusedSimpArgs false
set_option linter.unusedVariables false

section
variable {t : Trap}
end
theorem s26 (a b n : Int) (st : Bool) : Iso E 26 [.agg [I a, I b], I n] st = some (Bo (decide (a ≤ n) && decide (n ≤ b))) := by
  refine Iso_of (es _ _ _ _) e26 ?_
  simp only [f26]
  by_cases h1 : a ≤ n <;> by_cases h2 : n ≤ b <;> simp (disch := first | assumption | omega | (simp only [az]; done)) only [ru, eq_self, if_true, if_false, BEq.rfl, binI, AO.row?, splice, fillL, mmAll, loadV, storeV, zeros, Am.rowAt, Am.part, addOff, Nat.reduceAdd, Nat.reduceMul, Nat.reduceLeDiff, Nat.reduceSub, Nat.reduceLT, Int.reduceEq, Int.reduceLT, Int.reduceLE, Int.reduceGT, Int.reduceGE, Int.reduceAdd, Int.reduceSub, Int.reduceMul, Int.reduceNeg, Int.reduceToNat, reduceCtorEq, reduceIte, h1, h2, gUn, decide_true, decide_false, Bool.and_self, Bool.and_false, Bool.and_true, Bool.false_and]
end Go.Proofs.Ytjaaefdhdggnkaa.S

/-
The reference's doubt, tell, Tell; the place that should be counted: AskP; the reference's Ask.
-/
namespace Go.Proofs.Ytjaaefdhdggnkaa.S
open Go Go.Am Go.Proofs.Ytjaaefdhdggnkaa.T
set_option maxRecDepth 100000
set_option linter.unusedSimpArgs false
set_option linter.unusedVariables false

theorem cp_dbt {t : Trap} {d : Int} (D : DbtP t.cp d) : DbtP t d := by
  obtain ⟨lo, hi, X, e⟩ := D
  exact ⟨lo, hi, cp_xt X, e⟩
theorem DbtP.nn {t : Trap} {d : Int} (D : DbtP t d) : 0 ≤ d := by
  obtain ⟨lo, hi, X, rfl⟩ := D
  obtain ⟨x0, ⟨u1, u2, u3⟩, v1, v2, v3⟩ := xt_tr X
  have := x0 u1 u2
  omega
/-- a place but for the last one -/
def oth (t : Trap) (i c : Nat) : Prop := i < t.T ∧ c < t.C ∧ ¬ (i = t.T - 1 ∧ c = t.C - 1)
/-- (a, b) is before (i, c) -/
def befp (i c a b : Nat) : Prop := a < i ∨ (a = i ∧ b < c)
/-- the first of the best places before (i, c) -/
structure AskB (t : Trap) (i c a b : Nat) (m : Int) : Prop where
  fo : oth t a b
  fb : befp i c a b
  fp : TellP t a b m
  fl : ∀ a' b' m', oth t a' b' → befp i c a' b' → TellP t a' b' m' → m ≤ m' ∧ (befp a b a' b' → m < m')
theorem TellP.nn {t : Trap} {i c : Nat} {m : Int} (A : TellP t i c m) : 0 ≤ m := by
  obtain ⟨a, x, y, h1, h2, h3, h4⟩ := A
  have := a x x h1 h1 rfl
  omega
theorem AskB.uniq {t : Trap} {i c a b a' b' : Nat} {m m' : Int} (A : AskB t i c a b m) (B : AskB t i c a' b' m') : a = a' ∧ b = b' := by
  have h1 := A.fl a' b' m' B.fo B.fb B.fp
  have h2 := B.fl a b m A.fo A.fb A.fp
  have e : m = m' := by omega
  subst e
  by_cases e : a = a' ∧ b = b'
  · exact e
  · exfalso
    by_cases h : befp a b a' b'
    · have := h1.2 h; omega
    · have : befp a' b' a b := by unfold befp at *; omega
      have := h2.2 this; omega
theorem AskB.first {t : Trap} {i c : Nat} {d : Int} (h : ∀ a b, oth t a b → ¬ befp i c a b) (ho : oth t i c) (hp : TellP t i c d) : AskB t i (c + 1) i c d := by
  refine ⟨ho, by unfold befp; omega, hp, fun a' b' m' o' hb p' => ?_⟩
  have hn := h _ _ o'
  have e : a' = i ∧ b' = c := by unfold befp at *; omega
  obtain ⟨rfl, rfl⟩ := e
  have := p'.uniq hp
  exact ⟨by omega, fun h => by unfold befp at h; omega⟩
theorem AskB.less {t : Trap} {i c a b : Nat} {m d : Int} (A : AskB t i c a b m) (ho : oth t i c) (hp : TellP t i c d) (hd : d < m) : AskB t i (c + 1) i c d := by
  refine ⟨ho, by unfold befp; omega, hp, fun a' b' m' o' hb p' => ?_⟩
  by_cases e : a' = i ∧ b' = c
  · obtain ⟨rfl, rfl⟩ := e
    have := p'.uniq hp
    exact ⟨by omega, fun h => by unfold befp at h; omega⟩
  · have := A.fl a' b' m' o' (by unfold befp at *; omega) p'
    exact ⟨by omega, fun _ => by omega⟩
theorem AskB.more {t : Trap} {i c a b : Nat} {m d : Int} (A : AskB t i c a b m) (hp : TellP t i c d) (hd : ¬ d < m) : AskB t i (c + 1) a b m := by
  have Ab := A.fb
  refine ⟨A.fo, by unfold befp at *; omega, A.fp, fun a' b' m' o' hb p' => ?_⟩
  by_cases e : a' = i ∧ b' = c
  · obtain ⟨rfl, rfl⟩ := e
    have := p'.uniq hp
    exact ⟨by omega, fun h => by unfold befp at *; omega⟩
  · exact A.fl a' b' m' o' (by unfold befp at *; omega) p'
theorem AskB.skip {t : Trap} {i c a b : Nat} {m : Int} (A : AskB t i c a b m) (ho : ¬ oth t i c) : AskB t i (c + 1) a b m := by
  have Ab := A.fb
  refine ⟨A.fo, by unfold befp at *; omega, A.fp, fun a' b' m' o' hb p' => ?_⟩
  by_cases e : a' = i ∧ b' = c
  · obtain ⟨rfl, rfl⟩ := e; exact absurd o' ho
  · exact A.fl a' b' m' o' (by unfold befp at *; omega) p'
theorem AskB.row {t : Trap} {i a b : Nat} {m : Int} (A : AskB t i t.C a b m) : AskB t (i + 1) 0 a b m := by
  have Ab := A.fb
  refine ⟨A.fo, by unfold befp at *; omega, A.fp, fun a' b' m' o' hb p' => ?_⟩
  exact A.fl a' b' m' o' (by have := o'.2.1; unfold befp at *; omega) p'
/-- the place that should be counted, or none -/
def AskP (t : Trap) (r : Int × Int × Int) : Prop :=
  (r = (0, 0, 3) ∧ (DbtP t 0 ∨ ∀ i c, ¬ oth t i c)) ∨ ((∃ d, DbtP t d ∧ 0 < d) ∧ ∃ (i c : Nat) (m : Int), r = ((i : Int), (c : Int), (0 : Int)) ∧ AskB t t.T 0 i c m)
theorem AskP.uniq {t : Trap} {r s : Int × Int × Int} (A : AskP t r) (B : AskP t s) : r = s := by
  rcases A with ⟨rfl, A⟩ | ⟨⟨d, D, d0⟩, i, c, m, rfl, A⟩
  · rcases B with ⟨rfl, B⟩ | ⟨⟨d, D, d0⟩, i, c, m, rfl, B⟩
    · rfl
    · rcases A with A | A
      · have := A.uniq D; omega
      · exact absurd B.fo (A _ _)
  · rcases B with ⟨rfl, B⟩ | ⟨⟨d', D', d0'⟩, i', c', m', rfl, B⟩
    · rcases B with B | B
      · have := B.uniq D; omega
      · exact absurd A.fo (B _ _)
    · obtain ⟨rfl, rfl⟩ := A.uniq B
      rfl
end Go.Proofs.Ytjaaefdhdggnkaa.S

/-
The reference's Ask.
-/
namespace Go.Proofs.Ytjaaefdhdggnkaa.S
open Go Go.Am Go.Proofs.Ytjaaefdhdggnkaa.T
set_option maxRecDepth 100000
set_option linter.unusedSimpArgs false
set_option linter.unusedVariables false

/-- the state of a search for the best place -/
def AskS (t : Trap) (i c : Nat) (ba bb ls : Int) : Prop := (ls = -1 ∧ ∀ a b, oth t a b → ¬ befp i c a b) ∨ ∃ a b : Nat, ba = a ∧ bb = b ∧ 0 ≤ ls ∧ AskB t i c a b ls
theorem AskS.start {t : Trap} {ba bb : Int} : AskS t 0 0 ba bb (-1) := .inl ⟨rfl, fun a b _ h => by unfold befp at h; omega⟩
theorem AskS.row {t : Trap} {i : Nat} {ba bb ls : Int} (S : AskS t i t.C ba bb ls) : AskS t (i + 1) 0 ba bb ls := by
  rcases S with ⟨e, h⟩ | ⟨a, b, e1, e2, e3, A⟩
  · refine .inl ⟨e, fun a b o hb => h a b o ?_⟩
    have := o.2.1
    unfold befp at *; omega
  · exact .inr ⟨a, b, e1, e2, e3, A.row⟩
theorem AskS.skip {t : Trap} {i c : Nat} {ba bb ls : Int} (S : AskS t i c ba bb ls) (ho : ¬ oth t i c) : AskS t i (c + 1) ba bb ls := by
  rcases S with ⟨e, h⟩ | ⟨a, b, e1, e2, e3, A⟩
  · refine .inl ⟨e, fun a b o hb => ?_⟩
    by_cases e : a = i ∧ b = c
    · obtain ⟨rfl, rfl⟩ := e; exact ho o
    · exact h a b o (by unfold befp at *; omega)
  · exact .inr ⟨a, b, e1, e2, e3, A.skip ho⟩
theorem AskS.take {t : Trap} {i c : Nat} {ba bb ls d : Int} (S : AskS t i c ba bb ls) (ho : oth t i c) (hp : TellP t i c d) (h : ls < 0 ∨ d < ls) : AskS t i (c + 1) i c d := by
  refine .inr ⟨i, c, rfl, rfl, hp.nn, ?_⟩
  rcases S with ⟨e, hn⟩ | ⟨a, b, e1, e2, e3, A⟩
  · exact AskB.first hn ho hp
  · exact A.less ho hp (by omega)
theorem AskS.keep {t : Trap} {i c : Nat} {ba bb ls d : Int} (S : AskS t i c ba bb ls) (hp : TellP t i c d) (h : ¬ ls < 0) (h2 : ¬ d < ls) : AskS t i (c + 1) ba bb ls := by
  rcases S with ⟨e, hn⟩ | ⟨a, b, e1, e2, e3, A⟩
  · omega
  · exact .inr ⟨a, b, e1, e2, e3, A.more hp h2⟩
theorem AskS.none {t : Trap} {ba bb ls : Int} (S : AskS t t.T 0 ba bb ls) (h : ls < 0) : AskP t (0, 0, 3) := by
  rcases S with ⟨e, hn⟩ | ⟨a, b, e1, e2, e3, A⟩
  · refine .inl ⟨rfl, .inr fun i c o => hn i c o ?_⟩
    have := o.1
    unfold befp; omega
  · omega
theorem AskS.done {t : Trap} {ba bb ls d : Int} (S : AskS t t.T 0 ba bb ls) (h : ¬ ls < 0) (D : DbtP t d) (hd : 0 < d) : AskP t (ba, bb, 0) := by
  rcases S with ⟨e, hn⟩ | ⟨a, b, e1, e2, e3, A⟩
  · omega
  · exact .inr ⟨⟨d, D, hd⟩, a, b, ls, by rw [e1, e2], A⟩

end Go.Proofs.Ytjaaefdhdggnkaa.S

/-
What the program answers: ask and Ask.
-/
namespace Go.Proofs.Ytjaaefdhdggnkaa.S
open Go Go.Am Go.Proofs.Ytjaaefdhdggnkaa.T
set_option maxRecDepth 100000
set_option linter.unusedSimpArgs false
set_option linter.unusedVariables false

/-- the state of the program's search for the best place: first it is the last one -/
def AskQ (t : Trap) (i c : Nat) (ba bb ls : Int) : Prop := ((ba = (t.T - 1 : Nat) ∧ bb = (t.C - 1 : Nat)) ∧ ∀ a b, oth t a b → ¬ befp i c a b) ∨ ∃ a b : Nat, ba = a ∧ bb = b ∧ AskB t i c a b ls
theorem AskQ.start {t : Trap} {ls : Int} : AskQ t 0 0 (t.T - 1 : Nat) (t.C - 1 : Nat) ls := .inl ⟨⟨rfl, rfl⟩, fun a b _ h => by unfold befp at h; omega⟩
theorem AskQ.row {t : Trap} {i : Nat} {ba bb ls : Int} (S : AskQ t i t.C ba bb ls) : AskQ t (i + 1) 0 ba bb ls := by
  rcases S with ⟨e, h⟩ | ⟨a, b, e1, e2, A⟩
  · refine .inl ⟨e, fun a b o hb => h a b o ?_⟩
    have := o.2.1
    unfold befp at *; omega
  · exact .inr ⟨a, b, e1, e2, A.row⟩
theorem AskQ.skip {t : Trap} {i c : Nat} {ba bb ls : Int} (S : AskQ t i c ba bb ls) (ho : ¬ oth t i c) : AskQ t i (c + 1) ba bb ls := by
  rcases S with ⟨e, h⟩ | ⟨a, b, e1, e2, A⟩
  · refine .inl ⟨e, fun a b o hb => ?_⟩
    by_cases e : a = i ∧ b = c
    · obtain ⟨rfl, rfl⟩ := e; exact ho o
    · exact h a b o (by unfold befp at *; omega)
  · exact .inr ⟨a, b, e1, e2, A.skip ho⟩
theorem AskQ.take {t : Trap} {i c : Nat} {ba bb ls d : Int} (S : AskQ t i c ba bb ls) (ho : oth t i c) (hp : TellP t i c d) (h : (ba = (t.T - 1 : Nat) ∧ bb = (t.C - 1 : Nat)) ∨ d < ls) : AskQ t i (c + 1) i c d := by
  refine .inr ⟨i, c, rfl, rfl, ?_⟩
  rcases S with ⟨e, hn⟩ | ⟨a, b, e1, e2, A⟩
  · exact AskB.first hn ho hp
  · refine A.less ho hp ?_
    rcases h with h | h
    · have := A.fo.2.2; omega
    · exact h
theorem AskQ.keep {t : Trap} {i c : Nat} {ba bb ls d : Int} (S : AskQ t i c ba bb ls) (hp : TellP t i c d) (h : ¬ (ba = (t.T - 1 : Nat) ∧ bb = (t.C - 1 : Nat))) (h2 : ¬ d < ls) : AskQ t i (c + 1) ba bb ls := by
  rcases S with ⟨e, hn⟩ | ⟨a, b, e1, e2, A⟩
  · exact absurd e h
  · exact .inr ⟨a, b, e1, e2, A.more hp h2⟩
theorem AskQ.none {t : Trap} {ba bb ls : Int} (S : AskQ t t.T 0 ba bb ls) (h : ba = (t.T - 1 : Nat) ∧ bb = (t.C - 1 : Nat)) : AskP t (0, 0, 3) := by
  rcases S with ⟨e, hn⟩ | ⟨a, b, e1, e2, A⟩
  · refine .inl ⟨rfl, .inr fun i c o => hn i c o ?_⟩
    have := o.1
    unfold befp; omega
  · have := A.fo.2.2; omega
theorem AskQ.done {t : Trap} {ba bb ls d : Int} (S : AskQ t t.T 0 ba bb ls) (h : ¬ (ba = (t.T - 1 : Nat) ∧ bb = (t.C - 1 : Nat))) (D : DbtP t d) (hd : 0 < d) : AskP t (ba, bb, 0) := by
  rcases S with ⟨e, hn⟩ | ⟨a, b, e1, e2, A⟩
  · exact absurd e h
  · exact .inr ⟨⟨d, D, hd⟩, a, b, ls, by rw [e1, e2], A⟩

def As88 : ACode := .region 0 [⟨(some 6), .alloc [.int .i64 0, .int .i64 0], none, none, []⟩,
      ⟨none, .store 2 (.t 6) (.t 17), none, none, []⟩]
def Bd88 : ACode := .block 1 (.seq (.seq (.region 0 [⟨(some 18), .load true 2 (.t 6), none, none, []⟩,
         ⟨(some 19), .load false 1 (.t 1), none, none, []⟩,
         ⟨(some 20), .call 3 103 [(.t 19)], none, none, []⟩,
         ⟨(some 21), .p (.eqS false [true, true] (.t 18) (.t 20)), none, none, []⟩])
      (.cond (.t 21) (.exit 1)
       (.skip)))
     (.seq (.region 0 [⟨(some 22), .load false 1 (.t 1), none, none, []⟩,
        ⟨(some 23), .load true 2 (.t 6), none, none, []⟩,
        ⟨(some 24), .call 3 87 [(.t 22), (.t 23)], none, none, []⟩,
        ⟨(some 7), .p (.move (.t 24)), none, none, []⟩])
     (.seq (.region 0 [⟨(some 25), .load true 2 (.t 4), none, none, []⟩,
        ⟨(some 26), .load false 1 (.t 1), none, none, []⟩,
        ⟨(some 27), .call 3 103 [(.t 26)], none, none, []⟩,
        ⟨(some 28), .p (.eqS false [true, true] (.t 25) (.t 27)), none, none, []⟩,
        ⟨(some 29), .p (.move (.t 28)), none, none, []⟩,
        ⟨(some 30), .p (.move (.t 7)), (some (29, false)), none, []⟩,
        ⟨(some 31), .load false 1 (.t 5), (some (29, false)), none, []⟩,
        ⟨(some 32), .p (.bin .lss (.t 30) (.t 31)), (some (29, false)), none, []⟩,
        ⟨(some 33), .p (.pick (.t 29) (.c (.bool true)) (.t 32)), none, none, []⟩])
     (.cond (.t 33) (.region 0 [⟨(some 34), .load true 2 (.t 6), none, none, []⟩,
        ⟨(some 35), .p (.move (.t 7)), none, none, []⟩,
        ⟨none, .store 2 (.t 4) (.t 34), none, none, []⟩,
        ⟨none, .store 1 (.t 5) (.t 35), none, none, []⟩])
      (.skip)))))

/-- the heap of a search: what is old, the trap, the result, the best place, its doubt, the mark -/
structure AskH (h : List AO) (k : Nat) (hk : List AO) (ba bb ls : Int) : Prop where
  l : h.length + 6 ≤ hk.length
  f : ∀ o, o < h.length → hk[o]? = h[o]?
  a : hk[h.length]? = some (.cells [.ptr k 0] false)
  b : hk[h.length + 1]? = some (.cells [I 0, I 0] false)
  c : hk[h.length + 2]? = some (.cells [I ba, I bb] false)
  d : hk[h.length + 3]? = some (.cells [I ls] false)
  e : hk[h.length + 4]? = some .dfr
theorem AskH.fr {h hk hh : List AO} {k : Nat} {ba bb ls : Int} (A : AskH h k hk ba bb ls) (hl : hk.length ≤ hh.length) (hf : ∀ o, o < hk.length → o ≠ h.length + 5 → hh[o]? = hk[o]?) : AskH h k hh ba bb ls := by
  have l := A.l
  exact ⟨by omega, fun o ho => (hf o (by omega) (by omega)).trans (A.f o ho), (hf _ (by omega) (by omega)).trans A.a, (hf _ (by omega) (by omega)).trans A.b, (hf _ (by omega) (by omega)).trans A.c, (hf _ (by omega) (by omega)).trans A.d, (hf _ (by omega) (by omega)).trans A.e⟩

set_option maxHeartbeats 4000000 in
theorem s88 {t : Trap} {o w : AV} {h : List AO} {k : Nat} {B : List Int} (H : TrOk t o w) (V : TrB t) (h8 : t.ws.length ≤ 8) (hk : h[k]? = some (.cells (wc t.C t.T o w B) false)) (hB : Ok B) (hs : Says t.C t.T t B) :
    ∃ a b e, Ro E 88 [.ptr k 0] h = some (.tup [.agg [I a, I b], I e]) ∧ AskP t (a, b, e) := by
  have v1 := V.c0; have v2 := V.c1; have v3 := V.t0; have v4 := V.t1
  have eC := trC V; have eT := trT V
  have kl := (List.getElem?_eq_some_iff.1 hk).1
  have hk' := hk
  obtain ⟨d, c102, D⟩ := s102 V hk hB hs
  have d0 := D.nn
  have c103 := fun (g : List AO) (hg : ∀ o, o < h.length → g[o]? = h[o]?) (J : List AO) => s103 (h := g) (k := k) (B := B) (o := o) (w := w) (C := t.C) (T := t.T) (by rw [hg k kl]; exact hk) (by omega) (by omega) J
  suffices hR : ∃ r h', R E (.fn 88) [.ptr k 0] h h.length = some (r, h') ∧ ∃ a b e, r = .tup [.agg [I a, I b], I e] ∧ AskP t (a, b, e) by
    obtain ⟨r, h', hr, a, b, e, rfl, hp⟩ := hR
    exact ⟨a, b, e, by simp only [Ro, hr]; rfl, hp⟩
  have c103h := c103 h fun _ _ => rfl
  refine R_of (f := 88) (fun r h' => ∃ a b e, r = .tup [.agg [I a, I b], I e] ∧ AskP t (a, b, e)) (es _ _ _ _) e88 ?_
  simp only [f88]
  by_cases hd : d = 0
  · have hd' : (d == 0) = true := by simpa using hd
    simp (disch := first | assumption | omega | (simp only [az]; done)) only [ru, eq_self, if_true, if_false, BEq.rfl, binI, AO.row?, splice, fillL, mmAll, loadV, storeV, zeros, Am.rowAt, Am.part, addOff, Nat.reduceAdd, Nat.reduceMul, Nat.reduceLeDiff, Nat.reduceSub, Nat.reduceLT, Int.reduceEq, Int.reduceLT, Int.reduceLE, Int.reduceGT, Int.reduceGE, Int.reduceAdd, Int.reduceSub, Int.reduceMul, Int.reduceNeg, Int.reduceToNat, reduceCtorEq, reduceIte, List.append_assoc, List.cons_append, List.nil_append, lenE, setT, setT0, atT, atT0, getT, getT0, Nat.add_assoc, unhN, unhC, hide, List.foldl_cons, List.foldl_nil, c103h, c102, hd', Nat.le_refl, Nat.le_add_right]
    rw [finCT]
    exact ⟨.agg [I 0, I 0], by simp (disch := first | assumption | omega | (simp only [az]; done)) only [ru, eq_self, if_true, if_false, BEq.rfl, binI, AO.row?, splice, fillL, mmAll, loadV, storeV, zeros, Am.rowAt, Am.part, addOff, Nat.reduceAdd, Nat.reduceMul, Nat.reduceLeDiff, Nat.reduceSub, Nat.reduceLT, Int.reduceEq, Int.reduceLT, Int.reduceLE, Int.reduceGT, Int.reduceGE, Int.reduceAdd, Int.reduceSub, Int.reduceMul, Int.reduceNeg, Int.reduceToNat, reduceCtorEq, reduceIte, getRes, atT], _, _, _, rfl, .inl ⟨rfl, .inl (hd ▸ D)⟩⟩
  have hd' : (d == 0) = false := by simpa using hd
  simp (disch := first | assumption | omega | (simp only [az]; done)) only [ru, eq_self, if_true, if_false, BEq.rfl, binI, AO.row?, splice, fillL, mmAll, loadV, storeV, zeros, Am.rowAt, Am.part, addOff, Nat.reduceAdd, Nat.reduceMul, Nat.reduceLeDiff, Nat.reduceSub, Nat.reduceLT, Int.reduceEq, Int.reduceLT, Int.reduceLE, Int.reduceGT, Int.reduceGE, Int.reduceAdd, Int.reduceSub, Int.reduceMul, Int.reduceNeg, Int.reduceToNat, reduceCtorEq, reduceIte, List.append_assoc, List.cons_append, List.nil_append, lenE, setT, setT0, atT, atT0, getT, getT0, Nat.add_assoc, unhN, unhC, hide, List.foldl_cons, List.foldl_nil, c103h, c102, hd', Nat.le_refl, Nat.le_add_right]
  have w103 : ∀ hk ba bb ls, AskH h k hk ba bb ls → Ro E 103 [.ptr k 0] hk = some (.agg [I (t.T - 1 : Nat), I (t.C - 1 : Nat)]) := fun hk ba bb ls A => by
    have := c103 hk A.f []
    rwa [List.append_nil] at this
  have wk : ∀ hk ba bb ls, AskH h k hk ba bb ls → hk[k]? = some (.cells (wc t.C t.T o w B) false) := fun hk ba bb ls A => (A.f k kl).trans hk'
  obtain ⟨TS, hTS⟩ : ∃ TS : List AV, TS = [.ptr k 0, .ptr h.length 0, .ptr (h.length + 1) 0, I 0, .ptr (h.length + 2) 0, .ptr (h.length + 3) 0, .undef, .undef, .ptr k 0, .agg [I (t.T - 1 : Nat), I (t.C - 1 : Nat)], .ptr k 0, I d, I d, Bo false, .undef, .ptr k 0, .fn 104 [.ptr k 0] [], .undef, .undef, .undef, .undef, .undef, .undef, .undef, .undef, .undef, .undef, .undef, .undef, .undef, .undef, .undef, .undef, .undef, .undef, .undef, .undef, .undef, .undef, .undef, .undef, .undef] := ⟨_, rfl⟩
  obtain ⟨H0, hH0⟩ : ∃ H0 : List AO, H0 = h ++ [.cells [.ptr k 0] false, .cells [I 0, I 0] false, .cells [I (t.T - 1 : Nat), I (t.C - 1 : Nat)] false, .cells [I d] false] := ⟨_, rfl⟩
  have lH0 : H0.length = h.length + 4 := by rw [hH0]; simp
  obtain ⟨H1, hH1⟩ : ∃ H1 : List AO, H1 = H0 ++ [.dfr, .loop .ready none 88 TS [17] As88 Bd88 (h.length + 4)] := ⟨_, rfl⟩
  have lH1 : H1.length = h.length + 6 := by rw [hH1]; simp [lH0]
  have f5 : H1[h.length + 5]? = some (.loop .ready none 88 TS [17] As88 Bd88 (h.length + 4)) := by rw [hH1, show h.length + 5 = H0.length + 1 by omega, atT]; rfl
  have A1 : AskH h k H1 (t.T - 1 : Nat) (t.C - 1 : Nat) d := by
    refine ⟨by omega, fun o ho => by rw [hH1, at_ap (by omega), hH0, at_ap ho], ?_, ?_, ?_, ?_, ?_⟩
    · rw [hH1, at_ap (by omega), hH0, atT0]; rfl
    · rw [hH1, at_ap (by omega), hH0, atT]; rfl
    · rw [hH1, at_ap (by omega), hH0, atT]; rfl
    · rw [hH1, at_ap (by omega), hH0, atT]; rfl
    · rw [hH1, ← lH0, atT0]; rfl
  have key := r104 (T := t.T) (C := t.C) (w := k) (o := h.length + 5) (lim := h.length) (by omega) (by omega)
    (P := fun i j hk => ∃ ba bb ls, AskH h k hk ba bb ls ∧ hk[h.length + 5]? = some (.loop .ready none 88 TS [17] As88 Bd88 (h.length + 4)) ∧ AskQ t i j ba bb ls)
    (D := fun _ => False) (h := H1) ?_ ?_ ?_ ?_
  · refine G_range_of rfl rfl ?_
    rw [← hTS]
    simp only [← hH0, lH0]
    obtain ⟨r, h3, hr, hpd⟩ := key
    rw [hH1] at hr
    rcases hpd with ⟨ba, bb, ls, A, g5, Q⟩ | hf
    · refine ⟨r, h3, .ready, none, 88, TS, [17], As88, Bd88, h.length + 4, hr, g5, .inl rfl, ?_⟩
      simp only [Option.getD_none, GE_nrm]
      obtain ⟨h4, hh4⟩ : ∃ h4, h4 = h3.set (h.length + 4 + 1) (AO.loop .exhausted none 88 TS [17] As88 Bd88 (h.length + 4)) := ⟨_, rfl⟩
      rw [← hh4]
      have l3 := A.l
      have A4 : AskH h k h4 ba bb ls := A.fr (by rw [hh4]; simp) fun o ho hn => by rw [hh4, List.getElem?_set_ne (by omega)]
      have k103 := w103 h4 _ _ _ A4
      have l4 := A4.l
      have ka := A4.a; have kb := A4.b; have kc := A4.c; have ke := A4.e
      have ll : h.length ≤ h.length + 1 := by omega
      obtain ⟨q, hq⟩ : ∃ q, q = (decide (ba = (t.T - 1 : Nat)) && decide (bb = (t.C - 1 : Nat))) := ⟨_, rfl⟩
      have fin : ∀ (a b e : Int) (ts : List AV), ts.getD 2 .undef = .ptr (h.length + 1) 0 → ts.getD 3 .undef = I e → AskP t (a, b, e) →
          Done h.length [.cell true 2 2, .tmp 3] (fun r h' => ∃ a b e, r = .tup [.agg [I a, I b], I e] ∧ AskP t (a, b, e)) .ret ⟨ts, h4.set (h.length + 1) (.cells [I a, I b] false), [h.length + 4]⟩ := by
        intro a b e ts t2 t3 hp
        have k2 : (h4.set (h.length + 1) (.cells [I a, I b] false))[h.length + 4]? = some .dfr := by rw [List.getElem?_set_ne (by omega)]; exact ke
        have k3 : ((h4.set (h.length + 1) (.cells [I a, I b] false)).set (h.length + 4) .tomb)[h.length + 1]? = some (.cells [I a, I b] false) := by rw [List.getElem?_set_ne (by omega), List.getElem?_set_self (by omega)]
        refine finM (h' := (h4.set (h.length + 1) (.cells [I a, I b] false)).set (h.length + 4) .tomb) (vs := [.agg [I a, I b], I e]) (.inr rfl) (by simp) ?_ ?_ ?_
        · simp only [takeMarks, k2]
        · simp (disch := first | assumption | omega | (simp only [az]; done)) only [ru, eq_self, if_true, if_false, BEq.rfl, binI, AO.row?, splice, fillL, mmAll, loadV, storeV, zeros, Am.rowAt, Am.part, addOff, Nat.reduceAdd, Nat.reduceMul, Nat.reduceLeDiff, Nat.reduceSub, Nat.reduceLT, Int.reduceEq, Int.reduceLT, Int.reduceLE, Int.reduceGT, Int.reduceGE, Int.reduceAdd, Int.reduceSub, Int.reduceMul, Int.reduceNeg, Int.reduceToNat, reduceCtorEq, reduceIte, List.mapM_cons, List.mapM_nil, getRes, t2, t3, k3, Option.bind_eq_bind, Option.pure_def, Option.bind_some]
        · exact ⟨a, b, e, rfl, hp⟩
      rw [hTS]
      cases q
      · simp (disch := first | assumption | omega | (simp only [az]; done)) only [ru, eq_self, if_true, if_false, BEq.rfl, binI, AO.row?, splice, fillL, mmAll, loadV, storeV, zeros, Am.rowAt, Am.part, addOff, Nat.reduceAdd, Nat.reduceMul, Nat.reduceLeDiff, Nat.reduceSub, Nat.reduceLT, Int.reduceEq, Int.reduceLT, Int.reduceLE, Int.reduceGT, Int.reduceGE, Int.reduceAdd, Int.reduceSub, Int.reduceMul, Int.reduceNeg, Int.reduceToNat, reduceCtorEq, reduceIte, ka, kb, kc, k103, pex_eqS, eqI2, ← hq, ll, List.drop_one, List.tail_cons]
        refine fin _ _ _ _ rfl rfl (Q.done ?_ D (by omega))
        intro h; rw [decide_eq_true h.1, decide_eq_true h.2] at hq; cases hq
      · simp (disch := first | assumption | omega | (simp only [az]; done)) only [ru, eq_self, if_true, if_false, BEq.rfl, binI, AO.row?, splice, fillL, mmAll, loadV, storeV, zeros, Am.rowAt, Am.part, addOff, Nat.reduceAdd, Nat.reduceMul, Nat.reduceLeDiff, Nat.reduceSub, Nat.reduceLT, Int.reduceEq, Int.reduceLT, Int.reduceLE, Int.reduceGT, Int.reduceGE, Int.reduceAdd, Int.reduceSub, Int.reduceMul, Int.reduceNeg, Int.reduceToNat, reduceCtorEq, reduceIte, ka, kb, kc, k103, pex_eqS, eqI2, ← hq, ll, List.drop_one, List.tail_cons]
        refine fin _ _ _ _ rfl rfl (Q.none ?_)
        have := hq.symm
        simpa using this
    · exact hf.elim
  · rintro i j hk ⟨ba, bb, ls, A, g5, Q⟩
    exact ⟨_, wk _ _ _ _ A, rfl, rfl⟩
  · rintro i j hk hi hj ⟨ba, bb, ls, A, g5, Q⟩
    have lk := A.l
    have llk : h.length ≤ hk.length := by omega
    have := R_rnd_of (E := E) (lim := h.length) (args := [.agg [I i, I j]]) (P := fun r h' => ∃ b : Bool, r = Bo b ∧ (if b then (∃ ba bb ls, AskH h k h' ba bb ls ∧ h'[h.length + 5]? = some (.loop .ready none 88 TS [17] As88 Bd88 (h.length + 4)) ∧ AskQ t i (j + 1) ba bb ls) else False)) g5 rfl (by omega) ?_
    · obtain ⟨r, h', hr, b, rfl, hb⟩ := this
      exact ⟨b, h', hr, hb⟩
    rw [hTS]
    simp only [setAll, List.set_cons_succ, List.set_cons_zero]
    rw [← hTS]
    unfold As88
    simp (disch := first | assumption | omega | (simp only [az]; done)) only [ru, eq_self, if_true, if_false, BEq.rfl, binI, AO.row?, splice, fillL, mmAll, loadV, storeV, zeros, Am.rowAt, Am.part, addOff, Nat.reduceAdd, Nat.reduceMul, Nat.reduceLeDiff, Nat.reduceSub, Nat.reduceLT, Int.reduceEq, Int.reduceLT, Int.reduceLE, Int.reduceGT, Int.reduceGE, Int.reduceAdd, Int.reduceSub, Int.reduceMul, Int.reduceNeg, Int.reduceToNat, reduceCtorEq, reduceIte, List.append_assoc, lenE, setT, setT0, atT, atT0, getT, getT0, Nat.add_assoc, llk]
    refine ⟨none, 88, TS, [17], As88, Bd88, h.length + 4, by rw [at_ap (by omega)]; exact g5, ?_⟩
    obtain ⟨h6, hh6⟩ : ∃ h6, h6 = (hk ++ [AO.cells [I i, I j] false]).set (h.length + 5) (AO.loop .busy none 88 TS [17] As88 Bd88 (h.length + 4)) := ⟨_, rfl⟩
    rw [← hh6]
    have l6 : h6.length = hk.length + 1 := by rw [hh6]; simp
    have A6 : AskH h k h6 ba bb ls := A.fr (by omega) fun o ho hn => by rw [hh6, List.getElem?_set_ne (by omega), at_ap ho]
    have n5 : h6[h.length + 5]? = some (AO.loop .busy none 88 TS [17] As88 Bd88 (h.length + 4)) := by rw [hh6, List.getElem?_set_self (by simp; omega)]
    have n6 : h6[hk.length]? = some (.cells [I i, I j] false) := by rw [hh6, List.getElem?_set_ne (by omega), atT0]; rfl
    have na := A6.a; have nc := A6.c; have nd := A6.d
    have k103 := w103 h6 _ _ _ A6
    obtain ⟨m, c87, hp⟩ := s87 H V h8 (wk _ _ _ _ A6) hB hs hi hj
    obtain ⟨q1, hq1⟩ : ∃ q, q = (decide ((i : Int) = (t.T - 1 : Nat)) && decide ((j : Int) = (t.C - 1 : Nat))) := ⟨_, rfl⟩
    obtain ⟨q2, hq2⟩ : ∃ q, q = (decide (ba = (t.T - 1 : Nat)) && decide (bb = (t.C - 1 : Nat))) := ⟨_, rfl⟩
    have ll2 : h.length ≤ h.length + 2 := by omega
    have ll3 : h.length ≤ h.length + 3 := by omega
    have er : (Ex.nrm == Ex.nrm) = true := rfl
    have keep : ∀ Q : AskQ t i (j + 1) ba bb ls, ∃ st pend2 fid2 ts2 ps2 as2 bd2 d2, h6[h.length + 5]? = some (.loop st pend2 fid2 ts2 ps2 as2 bd2 d2) ∧ ∃ b : Bool, Bo (Ex.nrm == Ex.nrm) = Bo b ∧ (if b then (∃ ba bb ls, AskH h k (h6.set (h.length + 5) (.loop (if Ex.nrm == Ex.nrm then .ready else .done) (if Ex.nrm == Ex.nrm then none else some Ex.nrm) fid2 ts2 ps2 as2 bd2 d2)) ba bb ls ∧ (h6.set (h.length + 5) (.loop (if Ex.nrm == Ex.nrm then .ready else .done) (if Ex.nrm == Ex.nrm then none else some Ex.nrm) fid2 ts2 ps2 as2 bd2 d2))[h.length + 5]? = some (.loop .ready none 88 TS [17] As88 Bd88 (h.length + 4)) ∧ AskQ t i (j + 1) ba bb ls) else False) := by
      intro Q
      refine ⟨.busy, none, 88, TS, [17], As88, Bd88, h.length + 4, n5, true, rfl, ?_⟩
      simp only [er, if_true]
      exact ⟨ba, bb, ls, A6.fr (by simp) fun o ho hn => by rw [List.getElem?_set_ne (by omega)], by rw [List.getElem?_set_self (by omega)], Q⟩
    unfold Bd88
    rw [hTS]
    cases q1
    case true =>
      have e1 := hq1.symm
      simp only [Bool.and_eq_true, decide_eq_true_eq] at e1
      simp (disch := first | assumption | omega | (simp only [az]; done)) only [ru, eq_self, if_true, if_false, BEq.rfl, binI, AO.row?, splice, fillL, mmAll, loadV, storeV, zeros, Am.rowAt, Am.part, addOff, Nat.reduceAdd, Nat.reduceMul, Nat.reduceLeDiff, Nat.reduceSub, Nat.reduceLT, Int.reduceEq, Int.reduceLT, Int.reduceLE, Int.reduceGT, Int.reduceGE, Int.reduceAdd, Int.reduceSub, Int.reduceMul, Int.reduceNeg, Int.reduceToNat, reduceCtorEq, reduceIte, na, nc, nd, n6, k103, pex_eqS, eqI2, ← hq1, List.drop_one, List.tail_cons]
      rw [← hTS]
      exact keep (Q.skip fun o => o.2.2 (by omega))
    have ho : oth t i j := ⟨hi, hj, fun h => by
      rw [decide_eq_true (by omega), decide_eq_true (by omega)] at hq1; cases hq1⟩
    have take : ∀ Q : AskQ t i (j + 1) i j m, ∃ st pend2 fid2 ts2 ps2 as2 bd2 d2, ((h6.set (h.length + 2) (.cells [I i, I j] false)).set (h.length + 3) (.cells [I m] false))[h.length + 5]? = some (.loop st pend2 fid2 ts2 ps2 as2 bd2 d2) ∧ ∃ b : Bool, Bo (Ex.nrm == Ex.nrm) = Bo b ∧ (if b then (∃ ba bb ls, AskH h k (((h6.set (h.length + 2) (.cells [I i, I j] false)).set (h.length + 3) (.cells [I m] false)).set (h.length + 5) (.loop (if Ex.nrm == Ex.nrm then .ready else .done) (if Ex.nrm == Ex.nrm then none else some Ex.nrm) fid2 ts2 ps2 as2 bd2 d2)) ba bb ls ∧ (((h6.set (h.length + 2) (.cells [I i, I j] false)).set (h.length + 3) (.cells [I m] false)).set (h.length + 5) (.loop (if Ex.nrm == Ex.nrm then .ready else .done) (if Ex.nrm == Ex.nrm then none else some Ex.nrm) fid2 ts2 ps2 as2 bd2 d2))[h.length + 5]? = some (.loop .ready none 88 TS [17] As88 Bd88 (h.length + 4)) ∧ AskQ t i (j + 1) ba bb ls) else False) := by
      intro Q
      refine ⟨.busy, none, 88, TS, [17], As88, Bd88, h.length + 4, by rw [List.getElem?_set_ne (by omega), List.getElem?_set_ne (by omega)]; exact n5, true, rfl, ?_⟩
      simp only [er, if_true]
      refine ⟨i, j, m, ⟨by simp; omega, fun o ho => ?_, ?_, ?_, ?_, ?_, ?_⟩, by rw [List.getElem?_set_self (by simp; omega)], Q⟩
      · rw [List.getElem?_set_ne (by omega), List.getElem?_set_ne (by omega), List.getElem?_set_ne (by omega)]; exact A6.f o ho
      · rw [List.getElem?_set_ne (by omega), List.getElem?_set_ne (by omega), List.getElem?_set_ne (by omega)]; exact A6.a
      · rw [List.getElem?_set_ne (by omega), List.getElem?_set_ne (by omega), List.getElem?_set_ne (by omega)]; exact A6.b
      · rw [List.getElem?_set_ne (by omega), List.getElem?_set_ne (by omega), List.getElem?_set_self (by omega)]
      · rw [List.getElem?_set_ne (by omega), List.getElem?_set_self (by simp; omega)]
      · rw [List.getElem?_set_ne (by omega), List.getElem?_set_ne (by omega), List.getElem?_set_ne (by omega)]; exact A6.e
    have nd2 : (h6.set (h.length + 2) (.cells [I i, I j] false))[h.length + 3]? = some (.cells [I ls] false) := by rw [List.getElem?_set_ne (by omega)]; exact nd
    cases q2
    case true =>
      have e2 := hq2.symm
      simp only [Bool.and_eq_true, decide_eq_true_eq] at e2
      simp (disch := first | assumption | omega | (simp only [az]; done)) only [ru, eq_self, if_true, if_false, BEq.rfl, binI, AO.row?, splice, fillL, mmAll, loadV, storeV, zeros, Am.rowAt, Am.part, addOff, Nat.reduceAdd, Nat.reduceMul, Nat.reduceLeDiff, Nat.reduceSub, Nat.reduceLT, Int.reduceEq, Int.reduceLT, Int.reduceLE, Int.reduceGT, Int.reduceGE, Int.reduceAdd, Int.reduceSub, Int.reduceMul, Int.reduceNeg, Int.reduceToNat, reduceCtorEq, reduceIte, na, nc, nd, nd2, n6, k103, c87, pex_eqS, eqI2, ← hq1, ← hq2, gUn, ll2, ll3, List.drop_one, List.tail_cons]
      rw [← hTS]
      exact take (Q.take ho hp (.inl e2))
    have ne2 : ¬ (ba = (t.T - 1 : Nat) ∧ bb = (t.C - 1 : Nat)) := fun h => by
      rw [decide_eq_true h.1, decide_eq_true h.2] at hq2; cases hq2
    by_cases g : m < ls
    · simp (disch := first | assumption | omega | (simp only [az]; done)) only [ru, eq_self, if_true, if_false, BEq.rfl, binI, AO.row?, splice, fillL, mmAll, loadV, storeV, zeros, Am.rowAt, Am.part, addOff, Nat.reduceAdd, Nat.reduceMul, Nat.reduceLeDiff, Nat.reduceSub, Nat.reduceLT, Int.reduceEq, Int.reduceLT, Int.reduceLE, Int.reduceGT, Int.reduceGE, Int.reduceAdd, Int.reduceSub, Int.reduceMul, Int.reduceNeg, Int.reduceToNat, reduceCtorEq, reduceIte, na, nc, nd, nd2, n6, k103, c87, pex_eqS, eqI2, ← hq1, ← hq2, g, gUn, ll2, ll3, List.drop_one, List.tail_cons]
      rw [← hTS]
      exact take (Q.take ho hp (.inr g))
    · simp (disch := first | assumption | omega | (simp only [az]; done)) only [ru, eq_self, if_true, if_false, BEq.rfl, binI, AO.row?, splice, fillL, mmAll, loadV, storeV, zeros, Am.rowAt, Am.part, addOff, Nat.reduceAdd, Nat.reduceMul, Nat.reduceLeDiff, Nat.reduceSub, Nat.reduceLT, Int.reduceEq, Int.reduceLT, Int.reduceLE, Int.reduceGT, Int.reduceGE, Int.reduceAdd, Int.reduceSub, Int.reduceMul, Int.reduceNeg, Int.reduceToNat, reduceCtorEq, reduceIte, na, nc, nd, nd2, n6, k103, c87, pex_eqS, eqI2, ← hq1, ← hq2, g, gUn, ll2, ll3, List.drop_one, List.tail_cons]
      rw [← hTS]
      exact keep (Q.keep hp ne2 g)
  · rintro i hk hi ⟨ba, bb, ls, A, g5, Q⟩
    exact ⟨ba, bb, ls, A, g5, Q.row⟩
  · exact ⟨_, _, _, A1, f5, AskQ.start⟩

theorem s49 {t : Trap} {o w : AV} (H : TrOk t o w) : ∃ a b e, (∀ st, Iso E 49 [trV t o w] st = some (.tup [.agg [I a, I b], I e])) ∧ AnsG t true (fun e => (0, 0, e)) (AskP t) (a, b, e) := by
  obtain ⟨p, e, K, q, hs⟩ := call73 H true [.cells [I t.ch, I t.tm, o, w] false, .cells [I 0, I 0] false]
  simp only [trV] at q ⊢
  cases hs with
  | bad hv =>
    refine ⟨0, 0, 10, fun st => ?_, .bad hv⟩
    refine Iso_of (es _ _ _ _) e49 ?_
    simp only [f49]
    simp (disch := first | assumption | omega | (simp only [az]; done)) only [ru, eq_self, if_true, if_false, BEq.rfl, binI, AO.row?, splice, fillL, mmAll, loadV, storeV, zeros, Am.rowAt, Am.part, addOff, Nat.reduceAdd, Nat.reduceMul, Nat.reduceLeDiff, Nat.reduceSub, Nat.reduceLT, Int.reduceEq, Int.reduceLT, Int.reduceLE, Int.reduceGT, Int.reduceGE, Int.reduceAdd, Int.reduceSub, Int.reduceMul, Int.reduceNeg, Int.reduceToNat, reduceCtorEq, reduceIte, lenV_sl H.o, lenV_sl H.w, elem_sl Ls.el H.o, elem_sl Wd.el H.w, view_sl H.o, view_sl H.w, scalar_sl H.o, scalar_sl H.w, cells_sl H.o, cells_sl H.w, pure_sl H.o, pure_sl H.w, Int.toNat_natCast]
    rw [q rfl rfl]
    simp (disch := first | assumption | omega | (simp only [az]; done)) only [ru, eq_self, if_true, if_false, BEq.rfl, binI, AO.row?, splice, fillL, mmAll, loadV, storeV, zeros, Am.rowAt, Am.part, addOff, Nat.reduceAdd, Nat.reduceMul, Nat.reduceLeDiff, Nat.reduceSub, Nat.reduceLT, Int.reduceEq, Int.reduceLT, Int.reduceLE, Int.reduceGT, Int.reduceGE, Int.reduceAdd, Int.reduceSub, Int.reduceMul, Int.reduceNeg, Int.reduceToNat, reduceCtorEq, reduceIte, lenV_sl H.o, lenV_sl H.w, elem_sl Ls.el H.o, elem_sl Wd.el H.w, view_sl H.o, view_sl H.w, scalar_sl H.o, scalar_sl H.w, cells_sl H.o, cells_sl H.w, pure_sl H.o, pure_sl H.w, Int.toNat_natCast, List.cons_append, List.nil_append]
    exact finS rfl rfl
  | arg hv hf => cases hf
  | none hv hf hn =>
    refine ⟨0, 0, 3, fun st => ?_, .none hv hf hn⟩
    refine Iso_of (es _ _ _ _) e49 ?_
    simp only [f49]
    simp (disch := first | assumption | omega | (simp only [az]; done)) only [ru, eq_self, if_true, if_false, BEq.rfl, binI, AO.row?, splice, fillL, mmAll, loadV, storeV, zeros, Am.rowAt, Am.part, addOff, Nat.reduceAdd, Nat.reduceMul, Nat.reduceLeDiff, Nat.reduceSub, Nat.reduceLT, Int.reduceEq, Int.reduceLT, Int.reduceLE, Int.reduceGT, Int.reduceGE, Int.reduceAdd, Int.reduceSub, Int.reduceMul, Int.reduceNeg, Int.reduceToNat, reduceCtorEq, reduceIte, lenV_sl H.o, lenV_sl H.w, elem_sl Ls.el H.o, elem_sl Wd.el H.w, view_sl H.o, view_sl H.w, scalar_sl H.o, scalar_sl H.w, cells_sl H.o, cells_sl H.w, pure_sl H.o, pure_sl H.w, Int.toNat_natCast]
    rw [q rfl rfl]
    simp (disch := first | assumption | omega | (simp only [az]; done)) only [ru, eq_self, if_true, if_false, BEq.rfl, binI, AO.row?, splice, fillL, mmAll, loadV, storeV, zeros, Am.rowAt, Am.part, addOff, Nat.reduceAdd, Nat.reduceMul, Nat.reduceLeDiff, Nat.reduceSub, Nat.reduceLT, Int.reduceEq, Int.reduceLT, Int.reduceLE, Int.reduceGT, Int.reduceGE, Int.reduceAdd, Int.reduceSub, Int.reduceMul, Int.reduceNeg, Int.reduceToNat, reduceCtorEq, reduceIte, lenV_sl H.o, lenV_sl H.w, elem_sl Ls.el H.o, elem_sl Wd.el H.w, view_sl H.o, view_sl H.w, scalar_sl H.o, scalar_sl H.w, cells_sl H.o, cells_sl H.w, pure_sl H.o, pure_sl H.w, Int.toNat_natCast, List.cons_append, List.nil_append]
    exact finS rfl rfl
  | @ok B hv hf hk hB hs =>
    have V := valid_trb hv
    have eC := eqC hv; have eT := eqT hv
    obtain ⟨a, b, e, c88, A⟩ := s88 H V (valid_w8 hv) hk hB hs
    simp only [List.cons_append, List.nil_append, List.length_cons, List.length_nil, Nat.zero_add, Nat.reduceAdd] at c88
    refine ⟨a, b, e, fun st => ?_, .ok hv hf (hs.solv hB) A⟩
    refine Iso_of (es _ _ _ _) e49 ?_
    simp only [f49]
    simp (disch := first | assumption | omega | (simp only [az]; done)) only [ru, eq_self, if_true, if_false, BEq.rfl, binI, AO.row?, splice, fillL, mmAll, loadV, storeV, zeros, Am.rowAt, Am.part, addOff, Nat.reduceAdd, Nat.reduceMul, Nat.reduceLeDiff, Nat.reduceSub, Nat.reduceLT, Int.reduceEq, Int.reduceLT, Int.reduceLE, Int.reduceGT, Int.reduceGE, Int.reduceAdd, Int.reduceSub, Int.reduceMul, Int.reduceNeg, Int.reduceToNat, reduceCtorEq, reduceIte, lenV_sl H.o, lenV_sl H.w, elem_sl Ls.el H.o, elem_sl Wd.el H.w, view_sl H.o, view_sl H.w, scalar_sl H.o, scalar_sl H.w, cells_sl H.o, cells_sl H.w, pure_sl H.o, pure_sl H.w, Int.toNat_natCast]
    rw [q rfl rfl]
    simp (disch := first | assumption | omega | (simp only [az]; done)) only [ru, eq_self, if_true, if_false, BEq.rfl, binI, AO.row?, splice, fillL, mmAll, loadV, storeV, zeros, Am.rowAt, Am.part, addOff, Nat.reduceAdd, Nat.reduceMul, Nat.reduceLeDiff, Nat.reduceSub, Nat.reduceLT, Int.reduceEq, Int.reduceLT, Int.reduceLE, Int.reduceGT, Int.reduceGE, Int.reduceAdd, Int.reduceSub, Int.reduceMul, Int.reduceNeg, Int.reduceToNat, reduceCtorEq, reduceIte, lenV_sl H.o, lenV_sl H.w, elem_sl Ls.el H.o, elem_sl Wd.el H.w, view_sl H.o, view_sl H.w, scalar_sl H.o, scalar_sl H.w, cells_sl H.o, cells_sl H.w, pure_sl H.o, pure_sl H.w, Int.toNat_natCast, List.cons_append, List.nil_append, c88]
    exact finS rfl rfl
end Go.Proofs.Ytjaaefdhdggnkaa.S

/-
The reference's Idle.
-/
namespace Go.Proofs.Ytjaaefdhdggnkaa.S
open Go Go.Am Go.Proofs.Ytjaaefdhdggnkaa.T
set_option maxRecDepth 100000
set_option linter.unusedSimpArgs false
set_option linter.unusedVariables false

end Go.Proofs.Ytjaaefdhdggnkaa.S

/-
The laws of Tell, Ask and Idle, and of what to count.
-/
namespace Go.Proofs.Ytjaaefdhdggnkaa.S
open Go Go.Am Go.Proofs.Ytjaaefdhdggnkaa.T
set_option maxRecDepth 100000
set_option linter.unusedSimpArgs false
set_option linter.unusedVariables false

theorem s46 {t : Trap} {o w : AV} (H0 : TrIn t o w) : ∃ b, (∀ st, Iso E 46 [trV t o w] st = some (Bo b)) ∧ (b = false → t.huge = false) := by
  have ho := H0.o
  have hw := H0.w
  have c53 := fun st => s53 H0 st
  simp only [trV] at c53 ⊢
  cases hg : t.huge
  case true =>
    rw [hg] at c53
    refine ⟨true, fun st => ?_, fun h => (by cases h)⟩
    refine Iso_of (es _ _ _ _) e46 ?_
    simp only [f46]
    simp (disch := first | assumption | omega | (simp only [az]; done)) only [ru, eq_self, if_true, if_false, BEq.rfl, binI, AO.row?, splice, fillL, mmAll, loadV, storeV, zeros, Am.rowAt, Am.part, addOff, Nat.reduceAdd, Nat.reduceMul, Nat.reduceLeDiff, Nat.reduceSub, Nat.reduceLT, Int.reduceEq, Int.reduceLT, Int.reduceLE, Int.reduceGT, Int.reduceGE, Int.reduceAdd, Int.reduceSub, Int.reduceMul, Int.reduceNeg, Int.reduceToNat, reduceCtorEq, reduceIte, lenV_sl ho, elem_sl Ls.el ho, view_sl ho, scalar_sl ho, cells_sl ho, pure_sl ho, lenV_sl hw, elem_sl Wd.el hw, view_sl hw, scalar_sl hw, cells_sl hw, pure_sl hw, c53, gUn]
  rw [hg] at c53
  have H := H0.ok hg
  have c55 := fun st => s55 H st
  simp only [trV] at c55
  obtain ⟨ce, hce⟩ : ∃ ce, ce = chkE t := ⟨_, rfl⟩
  rw [← hce] at c55
  by_cases g1 : t.ch > 3
  · refine ⟨ce == 0, fun st => ?_, fun _ => rfl⟩
    refine Iso_of (es _ _ _ _) e46 ?_
    simp only [f46]
    simp (disch := first | assumption | omega | (simp only [az]; done)) only [ru, eq_self, if_true, if_false, BEq.rfl, binI, AO.row?, splice, fillL, mmAll, loadV, storeV, zeros, Am.rowAt, Am.part, addOff, Nat.reduceAdd, Nat.reduceMul, Nat.reduceLeDiff, Nat.reduceSub, Nat.reduceLT, Int.reduceEq, Int.reduceLT, Int.reduceLE, Int.reduceGT, Int.reduceGE, Int.reduceAdd, Int.reduceSub, Int.reduceMul, Int.reduceNeg, Int.reduceToNat, reduceCtorEq, reduceIte, lenV_sl ho, elem_sl Ls.el ho, view_sl ho, scalar_sl ho, cells_sl ho, pure_sl ho, lenV_sl hw, elem_sl Wd.el hw, view_sl hw, scalar_sl hw, cells_sl hw, pure_sl hw, c53, c55, g1, gUn]
  · by_cases g2 : t.tm > 3
    · refine ⟨ce == 0, fun st => ?_, fun _ => rfl⟩
      refine Iso_of (es _ _ _ _) e46 ?_
      simp only [f46]
      simp (disch := first | assumption | omega | (simp only [az]; done)) only [ru, eq_self, if_true, if_false, BEq.rfl, binI, AO.row?, splice, fillL, mmAll, loadV, storeV, zeros, Am.rowAt, Am.part, addOff, Nat.reduceAdd, Nat.reduceMul, Nat.reduceLeDiff, Nat.reduceSub, Nat.reduceLT, Int.reduceEq, Int.reduceLT, Int.reduceLE, Int.reduceGT, Int.reduceGE, Int.reduceAdd, Int.reduceSub, Int.reduceMul, Int.reduceNeg, Int.reduceToNat, reduceCtorEq, reduceIte, lenV_sl ho, elem_sl Ls.el ho, view_sl ho, scalar_sl ho, cells_sl ho, pure_sl ho, lenV_sl hw, elem_sl Wd.el hw, view_sl hw, scalar_sl hw, cells_sl hw, pure_sl hw, c53, c55, g1, g2, gUn]
    · refine ⟨false, fun st => ?_, fun _ => rfl⟩
      refine Iso_of (es _ _ _ _) e46 ?_
      simp only [f46]
      simp (disch := first | assumption | omega | (simp only [az]; done)) only [ru, eq_self, if_true, if_false, BEq.rfl, binI, AO.row?, splice, fillL, mmAll, loadV, storeV, zeros, Am.rowAt, Am.part, addOff, Nat.reduceAdd, Nat.reduceMul, Nat.reduceLeDiff, Nat.reduceSub, Nat.reduceLT, Int.reduceEq, Int.reduceLT, Int.reduceLE, Int.reduceGT, Int.reduceGE, Int.reduceAdd, Int.reduceSub, Int.reduceMul, Int.reduceNeg, Int.reduceToNat, reduceCtorEq, reduceIte, lenV_sl ho, elem_sl Ls.el ho, view_sl ho, scalar_sl ho, cells_sl ho, pure_sl ho, lenV_sl hw, elem_sl Wd.el hw, view_sl hw, scalar_sl hw, cells_sl hw, pure_sl hw, c53, c55, g1, g2, gUn]

end Go.Proofs.Ytjaaefdhdggnkaa.S

/-
The law of what to count.
-/
namespace Go.Proofs.Ytjaaefdhdggnkaa.S
open Go Go.Am Go.Proofs.Ytjaaefdhdggnkaa.T
set_option maxRecDepth 100000
set_option linter.unusedSimpArgs false
set_option linter.unusedVariables false

theorem tell_le {t : Trap} {i c : Nat} {m d : Int} (A : TellP t i c m) (D : DbtP t d) : m ≤ d := by
  obtain ⟨_, x, y, h1, h2, h3, h4⟩ := A
  obtain ⟨lo, hi, X, rfl⟩ := D
  obtain ⟨x0, _⟩ := xt_tr X
  have := x0 x h1
  have := x0 y h2
  try simp only at *
  omega
theorem add_says {t : Trap} {i c : Nat} {n : Int} {x : Nat → Int} : Tr (t.add ⟨i, c, n, n⟩) x ↔ Tr t x ∧ gap t.C x i c = n := by
  rw [tr_add]
  unfold saysW
  simp only [Int.toNat_natCast]
  constructor
  · rintro ⟨h1, h2, h3⟩; exact ⟨h1, by omega⟩
  · rintro ⟨h1, h2⟩; exact ⟨h1, by omega, by omega⟩
theorem add_dbt {t : Trap} {i c : Nat} {n m d : Int} (A : TellP t i c m) (D : DbtP (t.add ⟨i, c, n, n⟩) d) : d ≤ m := by
  obtain ⟨lo, hi, X, rfl⟩ := D
  obtain ⟨x0, ⟨u, u1, u2⟩, v, v1, v2⟩ := xt_tr X
  simp only [add_C, add_T, add_says] at u1 u2 v1 v2
  have := A.1 v u v1.1 u1.1 (v1.2.trans u1.2.symm)
  omega
theorem mul_big {a b : Int} (ha : 1 ≤ a ∧ a ≤ 5) (hb : 1 ≤ b ∧ b ≤ 4) (h : 1 < a ∨ 1 < b) : wr .i64 (a * b) > 1 := by
  have e1 : a = 1 ∨ a = 2 ∨ a = 3 ∨ a = 4 ∨ a = 5 := by omega
  have e2 : b = 1 ∨ b = 2 ∨ b = 3 ∨ b = 4 := by omega
  rcases e1 with rfl | rfl | rfl | rfl | rfl <;> rcases e2 with rfl | rfl | rfl | rfl <;> first | (exfalso; omega) | (rw [wr64 (by omega) (by omega)]; omega)

theorem s47 {t : Trap} {o w : AV} (H : TrOk t o w) (hv : t.valid = true) (hs : Solv t.C t.T t) : ∃ d, (∀ st, Iso E 47 [trV t o w] st = some (I d)) ∧ DbtP t d := by
  have V := valid_trb hv
  have v0 := V.c0; have v1 := V.c1; have v2 := V.t0; have v3 := V.t1
  have eC := eqC hv; have eT := eqT hv
  obtain ⟨lo, hi, e, c32, A⟩ := s32 H ((t.T - 1 : Nat) : Int) ((t.C - 1 : Nat) : Int)
  obtain ⟨rfl, X⟩ := A.val hv (by simp only [placeB, Bool.and_eq_true, decide_eq_true_eq]; omega) hs
  simp only [Int.toNat_natCast] at X
  have w1 : wr .i64 (t.tm - 1) = ((t.T - 1 : Nat) : Int) := by rw [wr64 (by omega) (by omega)]; omega
  have w2 : wr .i64 (t.ch - 1) = ((t.C - 1 : Nat) : Int) := by rw [wr64 (by omega) (by omega)]; omega
  have bd := xt_bd (by omega) (by omega) X
  obtain ⟨x0, ⟨u1, u2, u3⟩, y1, y2, y3⟩ := xt_tr X
  try simp only at u3 y3 x0
  have w3 : wr .i64 (hi - lo) = hi - lo := wr64 (by omega) (by omega)
  have n1 : ¬ lo < 0 := by omega
  have n2 : ¬ hi > 40 := by omega
  refine ⟨hi - lo, fun st => ?_, lo, hi, X, rfl⟩
  refine Iso_of (es _ _ _ _) e47 ?_
  simp only [f47, trV] at c32 ⊢
  simp (disch := first | assumption | omega | (simp only [az]; done)) only [ru, eq_self, if_true, if_false, BEq.rfl, binI, AO.row?, splice, fillL, mmAll, loadV, storeV, zeros, Am.rowAt, Am.part, addOff, Nat.reduceAdd, Nat.reduceMul, Nat.reduceLeDiff, Nat.reduceSub, Nat.reduceLT, Int.reduceEq, Int.reduceLT, Int.reduceLE, Int.reduceGT, Int.reduceGE, Int.reduceAdd, Int.reduceSub, Int.reduceMul, Int.reduceNeg, Int.reduceToNat, reduceCtorEq, reduceIte, lenV_sl H.o, lenV_sl H.w, elem_sl Ls.el H.o, elem_sl Wd.el H.w, view_sl H.o, view_sl H.w, scalar_sl H.o, scalar_sl H.w, cells_sl H.o, cells_sl H.w, pure_sl H.o, pure_sl H.w, Int.toNat_natCast, w1, w2, c32, n1, n2, w3, gUn]

set_option maxHeartbeats 4000000 in
theorem s9 {t : Trap} {o w : AV} (H0 : TrIn t o w) (a b n : Int) : Iso E 9 [trV t o w, .agg [I a, I b], I n] false = some (Bo true) := by
  have ho := H0.o
  have hw := H0.w
  have d19 := s19
  obtain ⟨far, c46, hf⟩ := s46 H0
  have c16 := fun st => s16 H0 st
  simp only [trV] at c46 c16
  cases far
  case true =>
    refine Iso_of (es _ _ _ _) e9 ?_
    simp only [f9, trV]
    simp (disch := first | assumption | omega | (simp only [az]; done)) only [ru, eq_self, if_true, if_false, BEq.rfl, binI, AO.row?, splice, fillL, mmAll, loadV, storeV, zeros, Am.rowAt, Am.part, addOff, Nat.reduceAdd, Nat.reduceMul, Nat.reduceLeDiff, Nat.reduceSub, Nat.reduceLT, Int.reduceEq, Int.reduceLT, Int.reduceLE, Int.reduceGT, Int.reduceGE, Int.reduceAdd, Int.reduceSub, Int.reduceMul, Int.reduceNeg, Int.reduceToNat, reduceCtorEq, reduceIte, lenV_sl ho, elem_sl Ls.el ho, view_sl ho, scalar_sl ho, cells_sl ho, pure_sl ho, lenV_sl hw, elem_sl Wd.el hw, view_sl hw, scalar_sl hw, cells_sl hw, pure_sl hw, c46, d19, gUn]
  cases hr : rdy t
  case false =>
    rw [hr] at c16
    refine Iso_of (es _ _ _ _) e9 ?_
    simp only [f9, trV]
    simp (disch := first | assumption | omega | (simp only [az]; done)) only [ru, eq_self, if_true, if_false, BEq.rfl, binI, AO.row?, splice, fillL, mmAll, loadV, storeV, zeros, Am.rowAt, Am.part, addOff, Nat.reduceAdd, Nat.reduceMul, Nat.reduceLeDiff, Nat.reduceSub, Nat.reduceLT, Int.reduceEq, Int.reduceLT, Int.reduceLE, Int.reduceGT, Int.reduceGE, Int.reduceAdd, Int.reduceSub, Int.reduceMul, Int.reduceNeg, Int.reduceToNat, reduceCtorEq, reduceIte, lenV_sl ho, elem_sl Ls.el ho, view_sl ho, scalar_sl ho, cells_sl ho, pure_sl ho, lenV_sl hw, elem_sl Wd.el hw, view_sl hw, scalar_sl hw, cells_sl hw, pure_sl hw, c46, c16, d19, gUn]
  rw [hr] at c16
  obtain ⟨hg, hv⟩ := rdy_h hr
  have H := H0.ok hg
  have V := valid_trb hv
  have h8 := valid_w8 hv
  have v1 := V.c0; have v2 := V.c1; have v3 := V.t0; have v4 := V.t1
  have eC := trC V; have eT := trT V
  by_cases l8 : t.ws.length = 8
  · have l8' : ((t.ws.length : Int) == 8) = true := by rw [l8]; rfl
    refine Iso_of (es _ _ _ _) e9 ?_
    simp only [f9, trV]
    simp (disch := first | assumption | omega | (simp only [az]; done)) only [ru, eq_self, if_true, if_false, BEq.rfl, binI, AO.row?, splice, fillL, mmAll, loadV, storeV, zeros, Am.rowAt, Am.part, addOff, Nat.reduceAdd, Nat.reduceMul, Nat.reduceLeDiff, Nat.reduceSub, Nat.reduceLT, Int.reduceEq, Int.reduceLT, Int.reduceLE, Int.reduceGT, Int.reduceGE, Int.reduceAdd, Int.reduceSub, Int.reduceMul, Int.reduceNeg, Int.reduceToNat, reduceCtorEq, reduceIte, lenV_sl ho, elem_sl Ls.el ho, view_sl ho, scalar_sl ho, cells_sl ho, pure_sl ho, lenV_sl hw, elem_sl Wd.el hw, view_sl hw, scalar_sl hw, cells_sl hw, pure_sl hw, c46, c16, l8', d19, gUn]
  have l8' : ((t.ws.length : Int) == 8) = false := by simp; omega
  obtain ⟨b1, c36, hb1⟩ := one_val H hv
  have c31 := fun st => s31 H a b st
  simp only [wrT hv, wrC hv, trV] at c31 c36
  cases b1
  · refine Iso_of (es _ _ _ _) e9 ?_
    simp only [f9, trV]
    simp (disch := first | assumption | omega | (simp only [az]; done)) only [ru, eq_self, if_true, if_false, BEq.rfl, binI, AO.row?, splice, fillL, mmAll, loadV, storeV, zeros, Am.rowAt, Am.part, addOff, Nat.reduceAdd, Nat.reduceMul, Nat.reduceLeDiff, Nat.reduceSub, Nat.reduceLT, Int.reduceEq, Int.reduceLT, Int.reduceLE, Int.reduceGT, Int.reduceGE, Int.reduceAdd, Int.reduceSub, Int.reduceMul, Int.reduceNeg, Int.reduceToNat, reduceCtorEq, reduceIte, lenV_sl ho, elem_sl Ls.el ho, view_sl ho, scalar_sl ho, cells_sl ho, pure_sl ho, lenV_sl hw, elem_sl Wd.el hw, view_sl hw, scalar_sl hw, cells_sl hw, pure_sl hw, c46, c16, l8', c36, d19, gUn]
  have hs := hb1.1 rfl
  cases hp : inR a 0 (t.tm - 1) && inR b 0 (t.ch - 1)
  · rw [hp] at c31
    refine Iso_of (es _ _ _ _) e9 ?_
    simp only [f9, trV]
    simp (disch := first | assumption | omega | (simp only [az]; done)) only [ru, eq_self, if_true, if_false, BEq.rfl, binI, AO.row?, splice, fillL, mmAll, loadV, storeV, zeros, Am.rowAt, Am.part, addOff, Nat.reduceAdd, Nat.reduceMul, Nat.reduceLeDiff, Nat.reduceSub, Nat.reduceLT, Int.reduceEq, Int.reduceLT, Int.reduceLE, Int.reduceGT, Int.reduceGE, Int.reduceAdd, Int.reduceSub, Int.reduceMul, Int.reduceNeg, Int.reduceToNat, reduceCtorEq, reduceIte, lenV_sl ho, elem_sl Ls.el ho, view_sl ho, scalar_sl ho, cells_sl ho, pure_sl ho, lenV_sl hw, elem_sl Wd.el hw, view_sl hw, scalar_sl hw, cells_sl hw, pure_sl hw, c46, c16, l8', c36, c31, d19, gUn]
  rw [hp] at c31
  simp only [Bool.and_eq_true, inR_iff] at hp
  have pb : placeB t a b = true := by simp only [placeB, Bool.and_eq_true, decide_eq_true_eq]; omega
  obtain ⟨i0, rfl⟩ : ∃ i : Nat, a = i := ⟨a.toNat, by omega⟩
  obtain ⟨c0, rfl⟩ : ∃ c : Nat, b = c := ⟨b.toNat, by omega⟩
  have hi0 : i0 < t.T := by omega
  have hc0 : c0 < t.C := by omega
  obtain ⟨d, c47, D⟩ := s47 H hv hs
  obtain ⟨m, e, c48, A⟩ := s48 H i0 c0
  obtain ⟨P, rfl⟩ : TellP t i0 c0 m ∧ e = 0 := A.val hv pb hs
  obtain ⟨qa, qb, f, c49, A2⟩ := s49 H
  have Q : AskP t (qa, qb, f) := A2.val hv rfl hs
  have d0 := D.nn
  have m0 := P.nn
  have md := tell_le P D
  have nd : ¬ d < 0 := by omega
  have nm : ¬ m < 0 := by omega
  have nmd : ¬ m > d := by omega
  have w1 : wr .i64 (t.tm - 1) = ((t.T - 1 : Nat) : Int) := by rw [wr64 (by omega) (by omega)]; omega
  have w2 : wr .i64 (t.ch - 1) = ((t.C - 1 : Nat) : Int) := by rw [wr64 (by omega) (by omega)]; omega
  simp only [trV] at c47 c48 c49
  rcases Q with ⟨e, Q⟩ | ⟨⟨d', D', d1⟩, i, c, k, e, Q⟩
  · simp only [Prod.mk.injEq] at e
    obtain ⟨rfl, rfl, rfl⟩ := e
    by_cases hd : d > 0
    · have Q' : ∀ i c, ¬ oth t i c := by
        rcases Q with Q | Q
        · have := Q.uniq D; omega
        · exact Q
      have hT : t.T = 1 := by
        by_cases h : t.T = 1
        · exact h
        · exact absurd (show oth t 0 0 from ⟨by omega, by omega, by omega⟩) (Q' 0 0)
      have hC : t.C = 1 := by
        by_cases h : t.C = 1
        · exact h
        · exact absurd (show oth t 0 0 from ⟨by omega, by omega, by omega⟩) (Q' 0 0)
      have e1 : t.tm = 1 := by omega
      have e2 : t.ch = 1 := by omega
      have em : ¬ wr .i64 (t.tm * t.ch) > 1 := by rw [e1, e2, wr64 (by omega) (by omega)]; omega
      refine Iso_of (es _ _ _ _) e9 ?_
      simp only [f9, trV]
      simp (disch := first | assumption | omega | (simp only [az]; done)) only [ru, eq_self, if_true, if_false, BEq.rfl, binI, AO.row?, splice, fillL, mmAll, loadV, storeV, zeros, Am.rowAt, Am.part, addOff, Nat.reduceAdd, Nat.reduceMul, Nat.reduceLeDiff, Nat.reduceSub, Nat.reduceLT, Int.reduceEq, Int.reduceLT, Int.reduceLE, Int.reduceGT, Int.reduceGE, Int.reduceAdd, Int.reduceSub, Int.reduceMul, Int.reduceNeg, Int.reduceToNat, reduceCtorEq, reduceIte, lenV_sl ho, elem_sl Ls.el ho, view_sl ho, scalar_sl ho, cells_sl ho, pure_sl ho, lenV_sl hw, elem_sl Wd.el hw, view_sl hw, scalar_sl hw, cells_sl hw, pure_sl hw, c46, c16, l8', c36, c31, c47, c48, c49, nd, nm, nmd, hd, em, d19, gUn]
      done
    · refine Iso_of (es _ _ _ _) e9 ?_
      simp only [f9, trV]
      simp (disch := first | assumption | omega | (simp only [az]; done)) only [ru, eq_self, if_true, if_false, BEq.rfl, binI, AO.row?, splice, fillL, mmAll, loadV, storeV, zeros, Am.rowAt, Am.part, addOff, Nat.reduceAdd, Nat.reduceMul, Nat.reduceLeDiff, Nat.reduceSub, Nat.reduceLT, Int.reduceEq, Int.reduceLT, Int.reduceLE, Int.reduceGT, Int.reduceGE, Int.reduceAdd, Int.reduceSub, Int.reduceMul, Int.reduceNeg, Int.reduceToNat, reduceCtorEq, reduceIte, lenV_sl ho, elem_sl Ls.el ho, view_sl ho, scalar_sl ho, cells_sl ho, pure_sl ho, lenV_sl hw, elem_sl Wd.el hw, view_sl hw, scalar_sl hw, cells_sl hw, pure_sl hw, c46, c16, l8', c36, c31, c47, c48, c49, nd, nm, nmd, hd, d19, gUn]
      done
  simp only [Prod.mk.injEq] at e
  obtain ⟨rfl, rfl, rfl⟩ := e
  obtain rfl := D.uniq D'
  have hd : d > 0 := d1
  obtain ⟨hi, hc, hn⟩ := Q.fo
  have em : wr .i64 (t.tm * t.ch) > 1 := mul_big (by omega) (by omega) (by omega)
  obtain ⟨k', e', c48q, Aq⟩ := s48 H i c
  have pbq : placeB t i c = true := by simp only [placeB, Bool.and_eq_true, decide_eq_true_eq]; omega
  obtain ⟨Pq, rfl⟩ : TellP t i c k' ∧ e' = 0 := Aq.val hv pbq hs
  obtain rfl : k' = k := Pq.uniq Q.fp
  have k0 := Pq.nn
  have nk : ¬ k' < 0 := by omega
  have c31q := fun st => s31 H i c st
  have hpq : (inR (i : Int) 0 (t.tm - 1) && inR (c : Int) 0 (t.ch - 1)) = true := by
    rw [Bool.and_eq_true, inR_iff, inR_iff]; omega
  simp only [wrT hv, wrC hv, trV, hpq] at c31q
  obtain ⟨lo, hi', e', c32, A3⟩ := s32 H i c
  obtain ⟨rfl, X⟩ := A3.val hv pbq hs
  simp only [Int.toNat_natCast] at X
  simp only [trV] at c48q c32
  obtain ⟨z1, hz1⟩ : ∃ q, q = (decide ((i : Int) = (t.T - 1 : Nat)) && decide ((c : Int) = (t.C - 1 : Nat))) := ⟨_, rfl⟩
  obtain rfl : z1 = false := by
    rw [hz1, Bool.and_eq_false_iff, decide_eq_false_iff_not, decide_eq_false_iff_not]; omega
  obtain ⟨z2, hz2⟩ : ∃ q, q = (decide ((i0 : Int) = (t.T - 1 : Nat)) && decide ((c0 : Int) = (t.C - 1 : Nat))) := ⟨_, rfl⟩
  have nkm : z2 = false → ¬ k' > m := fun h => by
    rw [hz2, Bool.and_eq_false_iff, decide_eq_false_iff_not, decide_eq_false_iff_not] at h
    have := Q.fl i0 c0 m ⟨hi0, hc0, by omega⟩ (by unfold befp; omega) P
    omega
  have hr40 := s30 n 0 40
  obtain ⟨hh, hhh⟩ : ∃ q, q = (decide (lo ≤ n) && decide (n ≤ hi')) := ⟨_, rfl⟩
  cases h40 : inR n 0 40
  · cases z2
    · have nk2 := nkm rfl
      refine Iso_of (es _ _ _ _) e9 ?_
      simp only [f9, trV]
      simp (disch := first | assumption | omega | (simp only [az]; done)) only [ru, eq_self, if_true, if_false, BEq.rfl, binI, AO.row?, splice, fillL, mmAll, loadV, storeV, zeros, Am.rowAt, Am.part, addOff, Nat.reduceAdd, Nat.reduceMul, Nat.reduceLeDiff, Nat.reduceSub, Nat.reduceLT, Int.reduceEq, Int.reduceLT, Int.reduceLE, Int.reduceGT, Int.reduceGE, Int.reduceAdd, Int.reduceSub, Int.reduceMul, Int.reduceNeg, Int.reduceToNat, reduceCtorEq, reduceIte, lenV_sl ho, elem_sl Ls.el ho, view_sl ho, scalar_sl ho, cells_sl ho, pure_sl ho, lenV_sl hw, elem_sl Wd.el hw, view_sl hw, scalar_sl hw, cells_sl hw, pure_sl hw, c46, c16, l8', c36, c31, c47, c48, c49, nd, nm, nmd, hd, em, w1, w2, c48q, c31q, c32, pex_eqS, eqI2, ← hz1, ← hz2, nk, nk2, s30, h40, d19, gUn]
      done
    · refine Iso_of (es _ _ _ _) e9 ?_
      simp only [f9, trV]
      simp (disch := first | assumption | omega | (simp only [az]; done)) only [ru, eq_self, if_true, if_false, BEq.rfl, binI, AO.row?, splice, fillL, mmAll, loadV, storeV, zeros, Am.rowAt, Am.part, addOff, Nat.reduceAdd, Nat.reduceMul, Nat.reduceLeDiff, Nat.reduceSub, Nat.reduceLT, Int.reduceEq, Int.reduceLT, Int.reduceLE, Int.reduceGT, Int.reduceGE, Int.reduceAdd, Int.reduceSub, Int.reduceMul, Int.reduceNeg, Int.reduceToNat, reduceCtorEq, reduceIte, lenV_sl ho, elem_sl Ls.el ho, view_sl ho, scalar_sl ho, cells_sl ho, pure_sl ho, lenV_sl hw, elem_sl Wd.el hw, view_sl hw, scalar_sl hw, cells_sl hw, pure_sl hw, c46, c16, l8', c36, c31, c47, c48, c49, nd, nm, nmd, hd, em, w1, w2, c48q, c31q, c32, pex_eqS, eqI2, ← hz1, ← hz2, nk, s30, h40, d19, gUn]
      done
  cases hh
  · cases z2
    · have nk2 := nkm rfl
      refine Iso_of (es _ _ _ _) e9 ?_
      simp only [f9, trV]
      simp (disch := first | assumption | omega | (simp only [az]; done)) only [ru, eq_self, if_true, if_false, BEq.rfl, binI, AO.row?, splice, fillL, mmAll, loadV, storeV, zeros, Am.rowAt, Am.part, addOff, Nat.reduceAdd, Nat.reduceMul, Nat.reduceLeDiff, Nat.reduceSub, Nat.reduceLT, Int.reduceEq, Int.reduceLT, Int.reduceLE, Int.reduceGT, Int.reduceGE, Int.reduceAdd, Int.reduceSub, Int.reduceMul, Int.reduceNeg, Int.reduceToNat, reduceCtorEq, reduceIte, lenV_sl ho, elem_sl Ls.el ho, view_sl ho, scalar_sl ho, cells_sl ho, pure_sl ho, lenV_sl hw, elem_sl Wd.el hw, view_sl hw, scalar_sl hw, cells_sl hw, pure_sl hw, c46, c16, l8', c36, c31, c47, c48, c49, nd, nm, nmd, hd, em, w1, w2, c48q, c31q, c32, pex_eqS, eqI2, ← hz1, ← hz2, nk, nk2, s30, h40, s26, ← hhh, d19, gUn]
      done
    · refine Iso_of (es _ _ _ _) e9 ?_
      simp only [f9, trV]
      simp (disch := first | assumption | omega | (simp only [az]; done)) only [ru, eq_self, if_true, if_false, BEq.rfl, binI, AO.row?, splice, fillL, mmAll, loadV, storeV, zeros, Am.rowAt, Am.part, addOff, Nat.reduceAdd, Nat.reduceMul, Nat.reduceLeDiff, Nat.reduceSub, Nat.reduceLT, Int.reduceEq, Int.reduceLT, Int.reduceLE, Int.reduceGT, Int.reduceGE, Int.reduceAdd, Int.reduceSub, Int.reduceMul, Int.reduceNeg, Int.reduceToNat, reduceCtorEq, reduceIte, lenV_sl ho, elem_sl Ls.el ho, view_sl ho, scalar_sl ho, cells_sl ho, pure_sl ho, lenV_sl hw, elem_sl Wd.el hw, view_sl hw, scalar_sl hw, cells_sl hw, pure_sl hw, c46, c16, l8', c36, c31, c47, c48, c49, nd, nm, nmd, hd, em, w1, w2, c48q, c31q, c32, pex_eqS, eqI2, ← hz1, ← hz2, nk, s30, h40, s26, ← hhh, d19, gUn]
      done
  have h40' := inR_iff.1 h40
  have hin := hhh.symm
  simp only [Bool.and_eq_true, decide_eq_true_eq] at hin
  obtain ⟨y, hy⟩ : ∃ y : Wd, y = ⟨i, c, n, n⟩ := ⟨_, rfl⟩
  have hyf : fitB t y = true := by
    rw [hy]
    simp only [fitB, placeB, Bool.and_eq_true, decide_eq_true_eq]; omega
  have c34 := s34 H (by omega) i c n
  rw [← hy] at c34
  have HA := add_ok H (by omega) y
  have VA : (t.add y).valid = true := trb_valid (add_trb V h8 hyf) (by simp [Trap.add]; omega)
  have VAc : (t.add y).cp.valid = true := cp_valid.trans VA
  have sA : Solv (t.add y).cp.C (t.add y).cp.T (t.add y).cp := by
    obtain ⟨x, hx, e⟩ := midG H V hi hc X hin.1 hin.2
    have ha : Tr (t.add y) x := by rw [hy, add_says]; exact ⟨hx, e⟩
    exact solv_tr.2 ⟨x, tr_cp.2 ha⟩
  obtain ⟨d2, c47a, D2⟩ := s47 HA VAc sA
  have D2' : DbtP (t.add ⟨i, c, n, n⟩) d2 := by rw [← hy]; exact cp_dbt D2
  have d20 := D2'.nn
  have d2k := add_dbt Pq D2'
  have g1 : d2 ≥ 0 := d20
  have hq := HA.o
  have hq' := HA.w
  have c34' : ∀ u1 u2 : AV, u1 = cpO (t.add y).op → u2 = slV 4 Wd.e (t.add y).ws → Iso E 34 [.agg [I t.ch, I t.tm, o, w], .agg [I i, I c], I n] false = some (.agg [I t.ch, I t.tm, u1, u2]) := by rintro _ _ rfl rfl; exact c34
  have c47c : ∀ u1 u2 : AV, u1 = cpO (t.add y).op → u2 = slV 4 Wd.e (t.add y).ws → ∀ st, Iso E 47 [.agg [I t.ch, I t.tm, u1, u2]] st = some (I d2) := by rintro _ _ rfl rfl; exact c47a
  generalize eo : cpO (t.add y).op = o' at hq c34' c47c
  generalize ew : slV 4 Wd.e (t.add y).ws = w' at hq' c34' c47c
  have d34 := c34' _ _ rfl rfl
  have d47 := c47c _ _ rfl rfl
  clear c34' c47c c47a c34 HA
  cases z2
  · have nk2 := nkm rfl
    refine Iso_of (es _ _ _ _) e9 ?_
    simp only [f9, trV]
    simp (disch := first | assumption | omega | (simp only [az]; done)) only [ru, eq_self, if_true, if_false, BEq.rfl, binI, AO.row?, splice, fillL, mmAll, loadV, storeV, zeros, Am.rowAt, Am.part, addOff, Nat.reduceAdd, Nat.reduceMul, Nat.reduceLeDiff, Nat.reduceSub, Nat.reduceLT, Int.reduceEq, Int.reduceLT, Int.reduceLE, Int.reduceGT, Int.reduceGE, Int.reduceAdd, Int.reduceSub, Int.reduceMul, Int.reduceNeg, Int.reduceToNat, reduceCtorEq, reduceIte, lenV_sl ho, elem_sl Ls.el ho, view_sl ho, scalar_sl ho, cells_sl ho, pure_sl ho, lenV_sl hw, elem_sl Wd.el hw, view_sl hw, scalar_sl hw, cells_sl hw, pure_sl hw, c46, c16, l8', c36, c31, c47, c48, c49, nd, nm, nmd, hd, em, w1, w2, c48q, c31q, c32, pex_eqS, eqI2, ← hz1, ← hz2, nk, nk2, s30, h40, s26, ← hhh, gUn]
    simp (disch := first | assumption | omega | (simp only [az]; done)) only [ru, eq_self, if_true, if_false, BEq.rfl, binI, AO.row?, splice, fillL, mmAll, loadV, storeV, zeros, Am.rowAt, Am.part, addOff, Nat.reduceAdd, Nat.reduceMul, Nat.reduceLeDiff, Nat.reduceSub, Nat.reduceLT, Int.reduceEq, Int.reduceLT, Int.reduceLE, Int.reduceGT, Int.reduceGE, Int.reduceAdd, Int.reduceSub, Int.reduceMul, Int.reduceNeg, Int.reduceToNat, reduceCtorEq, reduceIte, lenV_sl ho, elem_sl Ls.el ho, view_sl ho, scalar_sl ho, cells_sl ho, pure_sl ho, lenV_sl hw, elem_sl Wd.el hw, view_sl hw, scalar_sl hw, cells_sl hw, pure_sl hw, lenV_sl hq, elem_sl Ls.el hq, view_sl hq, scalar_sl hq, cells_sl hq, pure_sl hq, lenV_sl hq', elem_sl Wd.el hq', view_sl hq', scalar_sl hq', cells_sl hq', pure_sl hq', d34, d47, g1, d2k, d19, gUn]
    done
  · refine Iso_of (es _ _ _ _) e9 ?_
    simp only [f9, trV]
    simp (disch := first | assumption | omega | (simp only [az]; done)) only [ru, eq_self, if_true, if_false, BEq.rfl, binI, AO.row?, splice, fillL, mmAll, loadV, storeV, zeros, Am.rowAt, Am.part, addOff, Nat.reduceAdd, Nat.reduceMul, Nat.reduceLeDiff, Nat.reduceSub, Nat.reduceLT, Int.reduceEq, Int.reduceLT, Int.reduceLE, Int.reduceGT, Int.reduceGE, Int.reduceAdd, Int.reduceSub, Int.reduceMul, Int.reduceNeg, Int.reduceToNat, reduceCtorEq, reduceIte, lenV_sl ho, elem_sl Ls.el ho, view_sl ho, scalar_sl ho, cells_sl ho, pure_sl ho, lenV_sl hw, elem_sl Wd.el hw, view_sl hw, scalar_sl hw, cells_sl hw, pure_sl hw, c46, c16, l8', c36, c31, c47, c48, c49, nd, nm, nmd, hd, em, w1, w2, c48q, c31q, c32, pex_eqS, eqI2, ← hz1, ← hz2, nk, s30, h40, s26, ← hhh, gUn]
    simp (disch := first | assumption | omega | (simp only [az]; done)) only [ru, eq_self, if_true, if_false, BEq.rfl, binI, AO.row?, splice, fillL, mmAll, loadV, storeV, zeros, Am.rowAt, Am.part, addOff, Nat.reduceAdd, Nat.reduceMul, Nat.reduceLeDiff, Nat.reduceSub, Nat.reduceLT, Int.reduceEq, Int.reduceLT, Int.reduceLE, Int.reduceGT, Int.reduceGE, Int.reduceAdd, Int.reduceSub, Int.reduceMul, Int.reduceNeg, Int.reduceToNat, reduceCtorEq, reduceIte, lenV_sl ho, elem_sl Ls.el ho, view_sl ho, scalar_sl ho, cells_sl ho, pure_sl ho, lenV_sl hw, elem_sl Wd.el hw, view_sl hw, scalar_sl hw, cells_sl hw, pure_sl hw, lenV_sl hq, elem_sl Ls.el hq, view_sl hq, scalar_sl hq, cells_sl hq, pure_sl hq, lenV_sl hq', elem_sl Wd.el hq', view_sl hq', scalar_sl hq', cells_sl hq', pure_sl hq', d34, d47, g1, d2k, d19, gUn]
    done
end Go.Proofs.Ytjaaefdhdggnkaa.S

