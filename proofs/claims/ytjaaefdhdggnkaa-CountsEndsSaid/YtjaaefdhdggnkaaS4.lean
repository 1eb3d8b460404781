/-
The functions of both sides of stage 1, one after another (S4).
-/
import Derived.Test.YtjaaefdhdggnkaaS3

/-
The laws of stage 1 on Fish and Whole, and on Came and Passed.
-/
namespace Go.Proofs.Ytjaaefdhdggnkaa.S
open Go Go.Am Go.Proofs.Ytjaaefdhdggnkaa.T
set_option maxRecDepth 100000
set_option linter.unusedSimpArgs false
set_option linter.unusedVariables false

end Go.Proofs.Ytjaaefdhdggnkaa.S

/-
What the reference answers: Judge and Enough; the law on them.
-/
namespace Go.Proofs.Ytjaaefdhdggnkaa.S
open Go Go.Am Go.Proofs.Ytjaaefdhdggnkaa.T
set_option maxRecDepth 100000
set_option linter.unusedSimpArgs false
set_option linter.unusedVariables false

/-! what is asked of a copy -/
theorem KnR.map {t : Trap} {fit fit' : Bool} {e : Int} (K : KnR t fit e) (h : t.valid = true → fit' = fit) : KnR t fit' e := by
  cases K with
  | bad hv => exact .bad hv
  | arg hv hf => exact .arg hv ((h hv).trans hf)
  | none hv hf hn => exact .none hv ((h hv).trans hf) hn
  | ok hv hf hs => exact .ok hv ((h hv).trans hf) hs
end Go.Proofs.Ytjaaefdhdggnkaa.S

/-
Whether a trap is ready; the law of time.
-/
namespace Go.Proofs.Ytjaaefdhdggnkaa.S
open Go Go.Am Go.Proofs.Ytjaaefdhdggnkaa.T
set_option maxRecDepth 100000
set_option linter.unusedSimpArgs false
set_option linter.unusedVariables false

def rdy (t : Trap) : Bool := !t.huge && t.valid
theorem s16 {t : Trap} {o w : AV} (H0 : TrIn t o w) (st : Bool) : Iso E 16 [trV t o w] st = some (Bo (rdy t)) := by
  have ho := H0.o
  have hw := H0.w
  have c53 := fun st => s53 H0 st
  unfold rdy
  cases hg : t.huge
  case true =>
    refine Iso_of (es _ _ _ _) e16 ?_
    simp only [f16, trV, hg] at c53 ⊢
    simp (disch := first | assumption | omega | (simp only [az]; done)) only [ru, eq_self, if_true, if_false, BEq.rfl, binI, AO.row?, splice, fillL, mmAll, loadV, storeV, zeros, Am.rowAt, Am.part, addOff, Nat.reduceAdd, Nat.reduceMul, Nat.reduceLeDiff, Nat.reduceSub, Nat.reduceLT, Int.reduceEq, Int.reduceLT, Int.reduceLE, Int.reduceGT, Int.reduceGE, Int.reduceAdd, Int.reduceSub, Int.reduceMul, Int.reduceNeg, Int.reduceToNat, reduceCtorEq, reduceIte, lenV_sl ho, elem_sl Ls.el ho, view_sl ho, scalar_sl ho, cells_sl ho, pure_sl ho, lenV_sl hw, elem_sl Wd.el hw, view_sl hw, scalar_sl hw, cells_sl hw, pure_sl hw, c53, gUn, Bool.not_true, Bool.false_and]
  have c55 := fun st => s55 (H0.ok hg) st
  refine Iso_of (es _ _ _ _) e16 ?_
  simp only [f16, trV, hg, chkE] at c53 c55 ⊢
  cases hv : t.valid
  · simp only [hv, Bool.false_eq_true, if_false] at c55
    simp (disch := first | assumption | omega | (simp only [az]; done)) only [ru, eq_self, if_true, if_false, BEq.rfl, binI, AO.row?, splice, fillL, mmAll, loadV, storeV, zeros, Am.rowAt, Am.part, addOff, Nat.reduceAdd, Nat.reduceMul, Nat.reduceLeDiff, Nat.reduceSub, Nat.reduceLT, Int.reduceEq, Int.reduceLT, Int.reduceLE, Int.reduceGT, Int.reduceGE, Int.reduceAdd, Int.reduceSub, Int.reduceMul, Int.reduceNeg, Int.reduceToNat, reduceCtorEq, reduceIte, lenV_sl ho, elem_sl Ls.el ho, view_sl ho, scalar_sl ho, cells_sl ho, pure_sl ho, lenV_sl hw, elem_sl Wd.el hw, view_sl hw, scalar_sl hw, cells_sl hw, pure_sl hw, c53, c55, Bool.not_false, Bool.true_and]
  · simp only [hv, if_true] at c55
    simp (disch := first | assumption | omega | (simp only [az]; done)) only [ru, eq_self, if_true, if_false, BEq.rfl, binI, AO.row?, splice, fillL, mmAll, loadV, storeV, zeros, Am.rowAt, Am.part, addOff, Nat.reduceAdd, Nat.reduceMul, Nat.reduceLeDiff, Nat.reduceSub, Nat.reduceLT, Int.reduceEq, Int.reduceLT, Int.reduceLE, Int.reduceGT, Int.reduceGE, Int.reduceAdd, Int.reduceSub, Int.reduceMul, Int.reduceNeg, Int.reduceToNat, reduceCtorEq, reduceIte, lenV_sl ho, elem_sl Ls.el ho, view_sl ho, scalar_sl ho, cells_sl ho, pure_sl ho, lenV_sl hw, elem_sl Wd.el hw, view_sl hw, scalar_sl hw, cells_sl hw, pure_sl hw, c53, c55, Bool.not_false, Bool.true_and]
theorem rdy_h {t : Trap} (h : rdy t = true) : t.huge = false ∧ t.valid = true := by
  unfold rdy at h
  simpa using h
section
variable {t : Trap} {fit : Bool} {f : (Nat → Int) → Int} {lo hi e : Int}
theorem Ans.val (A : Ans t fit f lo hi e) (hv : t.valid = true) (hf : fit = true) (hs : Solv t.C t.T t) : e = 0 ∧ Xt t f lo hi := by
  cases A with
  | bad h => rw [hv] at h; cases h
  | arg _ h => rw [hf] at h; cases h
  | none _ _ h => exact absurd hs h
  | ok _ _ _ h => exact ⟨rfl, h⟩
theorem Ans.non (A : Ans t fit f lo hi e) (hv : t.valid = true) (hf : fit = true) (hs : ¬ Solv t.C t.T t) : lo = 0 ∧ hi = 0 ∧ e = 3 := by
  cases A with
  | bad h => rw [hv] at h; cases h
  | arg _ h => rw [hf] at h; cases h
  | none _ _ h => exact ⟨rfl, rfl, rfl⟩
  | ok _ _ h _ => exact absurd h hs
end

end Go.Proofs.Ytjaaefdhdggnkaa.S

/-
Fish of all chambers at all times.
-/
namespace Go.Proofs.Ytjaaefdhdggnkaa.S
open Go Go.Am Go.Proofs.Ytjaaefdhdggnkaa.T
set_option maxRecDepth 100000
set_option linter.unusedSimpArgs false
set_option linter.unusedVariables false

/-- spans, row by row -/
def spRow (C : Nat) (S : Nat → Nat → Spn) (i : Nat) : List Spn := (List.range C).map fun c => S i c
def encR (r : List Spn) : List AV := [slV 2 Spn.e r]
def spR (C T : Nat) (S : Nat → Nat → Spn) : List (List Spn) := (List.range T).map fun i => spRow C S i
def spV (C T : Nat) (S : Nat → Nat → Spn) : AV := slV 1 encR (spR C T S)
theorem spRow_len {C i : Nat} {S : Nat → Nat → Spn} : (spRow C S i).length = C := by simp [spRow]
theorem spR_len {C T : Nat} {S : Nat → Nat → Spn} : (spR C T S).length = T := by simp [spR]
theorem encR_len (r : List Spn) : (encR r).length = 1 := rfl
theorem spR_at {C T i : Nat} {S : Nat → Nat → Spn} (hi : i < T) : (spR C T S).getD i default = spRow C S i := by
  simp [spR, List.getD_eq_getElem?_getD, hi]
theorem sps_view {st : Bool} {h : List AO} {n : Nat} (l : List Spn) : (l.flatMap Spn.e).mapM (view st h n) = some (l.flatMap Spn.e) := by
  induction l with
  | nil => rfl
  | cons a l ih =>
    show (I a.lo :: I a.hi :: l.flatMap Spn.e).mapM (view st h n) = _
    simp only [List.mapM_cons, view_int, ih]; rfl
/-- as they lie in the heap -/
def SpsH (h : List AO) (v : AV) (C i : Nat) (S : Nat → Nat → Spn) : Prop :=
  (i = 0 ∧ v = .nils) ∨ (0 < i ∧ ∃ o vs, v = .ms 1 o 0 i ∧ h[o]? = some (.cells vs false) ∧ vs.length = i ∧ ∀ j, j < i → ∃ p, p ≠ o ∧ vs.getD j .undef = .ms 2 p 0 C ∧ h[p]? = some (.cells ((spRow C S j).flatMap Spn.e) false))
theorem SpsH.sc {h : List AO} {v : AV} {C i : Nat} {S : Nat → Nat → Spn} (H : SpsH h v C i S) : v.scalar = true ∧ v.cells = [v] := by
  rcases H with ⟨_, rfl⟩ | ⟨_, o, vs, rfl, _⟩ <;> exact ⟨rfl, rfl⟩
theorem SpsH.fr {h h' : List AO} {v : AV} {C i : Nat} {S : Nat → Nat → Spn} (H : SpsH h v C i S) (hf : ∀ k, k < h.length → h'[k]? = h[k]?) : SpsH h' v C i S := by
  rcases H with H | ⟨h0, o, vs, h1, ho, hl, hr⟩
  · exact .inl H
  · refine .inr ⟨h0, o, vs, h1, by rw [hf o (List.getElem?_eq_some_iff.1 ho).1]; exact ho, hl, fun j hj => ?_⟩
    obtain ⟨p, p1, e, hp⟩ := hr j hj
    exact ⟨p, p1, e, by rw [hf p (List.getElem?_eq_some_iff.1 hp).1]; exact hp⟩
theorem SpsH.view {h : List AO} {v : AV} {C T : Nat} {S : Nat → Nat → Spn} (H : SpsH h v C T S) (hT : 0 < T) (n : Nat) (st : Bool) : view st h (n + 2) v = some (spV C T S) := by
  rcases H with ⟨h0, _⟩ | ⟨h0, o, vs, rfl, ho, hl, hr⟩
  · omega
  rw [view_ms, rowOf_ms]
  simp only [Am.rowAt, ho, Option.bind_some, AO.row?, List.drop_zero]
  rw [List.take_of_length_le (by omega), if_pos (by omega)]
  have hf : ((spR C T S).flatMap encR).length = T := by rw [flat_len encR_len, spR_len, Nat.mul_one]
  have hm : vs.mapM (Am.view st h (n + 1)) = some ((spR C T S).flatMap encR) := by
    refine mapM_get (by omega) fun i hi => ?_
    have hi' : i < T := by omega
    obtain ⟨p, _, e, hp⟩ := hr i hi'
    rw [e, view_ms, rowOf_ms]
    simp only [Am.rowAt, hp, Option.bind_some, AO.row?, List.drop_zero]
    have fl : ((spRow C S i).flatMap Spn.e).length = C * 2 := by rw [flat_len Spn.el, spRow_len]
    rw [List.take_of_length_le (by omega), if_pos fl]
    simp only [sps_view, Option.map_some]
    have hc : i < (spR C T S).length := by rw [spR_len]; exact hi'
    have := flat_at encR_len (spR C T S) i hc
    have e2 : (spR C T S)[i] = spRow C S i := by
      have := spR_at (S := S) (C := C) hi'
      rwa [List.getD_eq_getElem?_getD, List.getElem?_eq_getElem hc, Option.getD_some] at this
    rw [e2, Nat.mul_one] at this
    have e3 : ((spR C T S).flatMap encR).getD i .undef = slV 2 Spn.e (spRow C S i) := by
      have h4 : (((spR C T S).flatMap encR).drop i).head? = some (slV 2 Spn.e (spRow C S i)) := by
        have := congrArg List.head? this
        rw [List.head?_take] at this
        simpa [encR] using this
      rw [List.head?_drop] at h4
      rw [List.getD_eq_getElem?_getD, h4]; rfl
    rw [e3]
    simp only [slV, spRow_len]
  simp only [hm, Option.map_some, spV, slV, spR_len]

end Go.Proofs.Ytjaaefdhdggnkaa.S

/-
No span of a trap is wider than that of another one: narrower.
-/
namespace Go.Proofs.Ytjaaefdhdggnkaa.S
open Go Go.Am Go.Proofs.Ytjaaefdhdggnkaa.T
set_option maxRecDepth 100000
set_option linter.unusedSimpArgs false
set_option linter.unusedVariables false

end Go.Proofs.Ytjaaefdhdggnkaa.S

/-
The law of enough fish.
-/
namespace Go.Proofs.Ytjaaefdhdggnkaa.S
open Go Go.Am Go.Proofs.Ytjaaefdhdggnkaa.T
set_option maxRecDepth 100000
set_option linter.unusedSimpArgs false
set_option linter.unusedVariables false

theorem AnsG.val {α : Type} {t : Trap} {fit : Bool} {D : Int → α} {P : α → Prop} {v : α} (A : AnsG t fit D P v) (hv : t.valid = true) (hf : fit = true) (hs : Solv t.C t.T t) : P v := by
  cases A with
  | bad h => rw [hv] at h; cases h
  | arg _ h => rw [hf] at h; cases h
  | none _ _ h => exact absurd hs h
  | ok _ _ _ h => exact h
end Go.Proofs.Ytjaaefdhdggnkaa.S

/-
A trap with one word less: Without; words without one: slices.Concat.
-/
namespace Go.Proofs.Ytjaaefdhdggnkaa.S
open Go Go.Am Go.Proofs.Ytjaaefdhdggnkaa.T
set_option maxRecDepth 100000
set_option linter.unusedSimpArgs false
set_option linter.unusedVariables false

/-! words one after another -/
def GrH (h : List AO) (v : AV) (L : List Wd) : Prop := (v = .nils ∧ L = []) ∨ ∃ o c, v = .ms 4 o 0 L.length ∧ h[o]? = some (.cells c false) ∧ c.take (L.length * 4) = L.flatMap Wd.e ∧ L.length * 4 ≤ c.length
theorem GrH.view {h : List AO} {v : AV} {L : List Wd} (H : GrH h v L) (n : Nat) : ∃ u, (∀ st, Am.view st h (n + 1) v = some u) ∧ IsSl 4 Wd.e L u := by
  rcases H with ⟨rfl, rfl⟩ | ⟨o, c, rfl, ho, ht, hc⟩
  · exact ⟨.nils, fun st => view_nils, .inr ⟨rfl, rfl⟩⟩
  · refine ⟨_, fun st => ?_, .inl rfl⟩
    rw [view_ms, rowOf_ms]
    simp only [Am.rowAt, ho, Option.bind_some, AO.row?, List.drop_zero, ht]
    rw [if_pos (by rw [flat_len Wd.el])]
    simp only [wds_view, Option.map_some]
end Go.Proofs.Ytjaaefdhdggnkaa.S

/-
What the program answers: Idle.
-/
namespace Go.Proofs.Ytjaaefdhdggnkaa.S
open Go Go.Am Go.Proofs.Ytjaaefdhdggnkaa.T
set_option maxRecDepth 100000
set_option linter.unusedSimpArgs false
set_option linter.unusedVariables false

/-- a list of numbers that is made by appends -/
def LiN (h : List AO) (v : AV) (L : List Int) : Prop := (L = [] ∧ v = .nils) ∨ (L ≠ [] ∧ ∃ p, v = .ms 1 p 0 L.length ∧ h[p]? = some (.cells (L.flatMap intL) false))
theorem LiN.fr {h h' : List AO} {v : AV} {L : List Int} (H : LiN h v L) (hf : ∀ k, k < h.length → h'[k]? = h[k]?) : LiN h' v L := by
  rcases H with H | ⟨h0, p, e, hp⟩
  · exact .inl H
  · exact .inr ⟨h0, p, e, by rw [hf p (List.getElem?_eq_some_iff.1 hp).1]; exact hp⟩
theorem LiN.view {h : List AO} {v : AV} {L : List Int} (H : LiN h v L) (n : Nat) : ∃ u, (∀ st, Am.view st h (n + 1) v = some u) ∧ IsSl 1 intL L u := by
  rcases H with ⟨rfl, rfl⟩ | ⟨h0, p, rfl, hp⟩
  · exact ⟨.nils, fun st => view_nils, .inr ⟨rfl, rfl⟩⟩
  · refine ⟨_, fun st => ?_, .inl rfl⟩
    rw [view_ms, rowOf_ms]
    simp only [Am.rowAt, hp, Option.bind_some, AO.row?, List.drop_zero]
    rw [List.take_of_length_le (by rw [flat1]; omega), if_pos (by rw [flat1]; omega)]
    simp only [ints_view, Option.map_some]
end Go.Proofs.Ytjaaefdhdggnkaa.S

/-
The law of the idle words.
-/
namespace Go.Proofs.Ytjaaefdhdggnkaa.S
open Go Go.Am Go.Proofs.Ytjaaefdhdggnkaa.T
set_option maxRecDepth 100000
set_option linter.unusedSimpArgs false
set_option linter.unusedVariables false

end Go.Proofs.Ytjaaefdhdggnkaa.S

/-
Whether numbers are a truth, by the reference: Sum, Behind, IsTruth.
-/
namespace Go.Proofs.Ytjaaefdhdggnkaa.S
open Go Go.Am Go.Proofs.Ytjaaefdhdggnkaa.T
set_option maxRecDepth 100000
set_option linter.unusedSimpArgs false
set_option linter.unusedVariables false

theorem sum_bd : ∀ {l : List Int}, (∀ x ∈ l, 0 ≤ x ∧ x ≤ 40) → 0 ≤ l.sum ∧ l.sum ≤ 40 * l.length
  | [], _ => by simp
  | a :: l, h => by
    have h1 := sum_bd (l := l) fun x hx => h x (List.mem_cons_of_mem _ hx)
    have h2 := h a (by simp)
    rw [List.sum_cons, List.length_cons]
    omega
theorem take_sum {l : List Int} {i : Nat} (hi : i < l.length) : (l.take (i + 1)).sum = (l.take i).sum + l.getD i 0 := by
  rw [List.take_succ_eq_append_getElem hi, List.sum_append, List.getD_eq_getElem?_getD, List.getElem?_eq_getElem hi]
  simp
theorem drop_sum {l : List Int} {i : Nat} (hi : i < l.length) : (l.drop i).sum = l.getD i 0 + (l.drop (i + 1)).sum := by
  rw [List.drop_eq_getElem_cons hi, List.sum_cons, List.getD_eq_getElem?_getD, List.getElem?_eq_getElem hi]
  rfl
theorem s78 {l : List Int} {v : AV} (hv : IsSl 1 intL l v) (hl : l.length ≤ 40) (hb : ∀ x ∈ l, 0 ≤ x ∧ x ≤ 40) (st : Bool) : Iso E 78 [v] st = some (I l.sum) := by
  refine Iso_of (es _ _ _ _) e78 ?_
  simp only [f78]
  simp (disch := first | assumption | omega | (simp only [az]; done)) only [ru, eq_self, if_true, if_false, BEq.rfl, binI, AO.row?, splice, fillL, mmAll, loadV, storeV, zeros, Am.rowAt, Am.part, addOff, Nat.reduceAdd, Nat.reduceMul, Nat.reduceLeDiff, Nat.reduceSub, Nat.reduceLT, Int.reduceEq, Int.reduceLT, Int.reduceLE, Int.reduceGT, Int.reduceGE, Int.reduceAdd, Int.reduceSub, Int.reduceMul, Int.reduceNeg, Int.reduceToNat, reduceCtorEq, reduceIte, lenV_sl hv, elem_sl intE hv, view_sl hv, scalar_sl hv, cells_sl hv, pure_sl hv]
  refine G_loop_ind (fun m ts h mk => ∃ (i : Nat), i ≤ l.length ∧ m = l.length - i ∧ ts.length = 18 ∧ ts.getD 0 .undef = v ∧ ts.getD 3 .undef = I (l.take i).sum ∧ ts.getD 4 .undef = I i ∧ h = [] ∧ mk = []) ?_ _ _ _ _
    ⟨0, Nat.zero_le _, rfl, rfl, rfl, rfl, rfl, rfl, rfl⟩
  rintro m ts h mk ih ⟨i, hi', rfl, hl', q0, q3, q4, rfl, rfl⟩
  rw [lit_all hl']
  simp only [lit0, litS, Nat.reduceAdd, q0, q3, q4]
  simp (disch := first | assumption | omega | (simp only [az]; done)) only [ru, eq_self, if_true, if_false, BEq.rfl, binI, AO.row?, splice, fillL, mmAll, loadV, storeV, zeros, Am.rowAt, Am.part, addOff, Nat.reduceAdd, Nat.reduceMul, Nat.reduceLeDiff, Nat.reduceSub, Nat.reduceLT, Int.reduceEq, Int.reduceLT, Int.reduceLE, Int.reduceGT, Int.reduceGE, Int.reduceAdd, Int.reduceSub, Int.reduceMul, Int.reduceNeg, Int.reduceToNat, reduceCtorEq, reduceIte, lenV_sl hv, elem_sl intE hv, view_sl hv, scalar_sl hv, cells_sl hv, pure_sl hv]
  by_cases hlt : (i : Int) < l.length
  case neg =>
    obtain rfl : i = l.length := by omega
    rw [List.take_length]
    simp (disch := first | assumption | omega | (simp only [az]; done)) only [ru, eq_self, if_true, if_false, BEq.rfl, binI, AO.row?, splice, fillL, mmAll, loadV, storeV, zeros, Am.rowAt, Am.part, addOff, Nat.reduceAdd, Nat.reduceMul, Nat.reduceLeDiff, Nat.reduceSub, Nat.reduceLT, Int.reduceEq, Int.reduceLT, Int.reduceLE, Int.reduceGT, Int.reduceGE, Int.reduceAdd, Int.reduceSub, Int.reduceMul, Int.reduceNeg, Int.reduceToNat, reduceCtorEq, reduceIte, hlt]
  have hi2 : i < l.length := by omega
  have b1 := sum_bd (l := l.take i) fun x hx => hb x (List.mem_of_mem_take hx)
  have lt : (l.take i).length ≤ 40 := by rw [List.length_take]; omega
  have gm : l.getD i 0 ∈ l := by
    rw [List.getD_eq_getElem?_getD, List.getElem?_eq_getElem hi2]
    exact List.getElem_mem hi2
  have b2 := hb _ gm
  have ts := take_sum hi2
  obtain ⟨a, ha⟩ : ∃ a, a = (l.take i).sum := ⟨_, rfl⟩
  obtain ⟨x, hx⟩ : ∃ x, x = l.getD i default := ⟨_, rfl⟩
  have hx' : l.getD i 0 = x := hx.symm
  rw [← ha] at b1 ts
  rw [hx'] at b2 ts
  rw [← ha]
  have w1 : wr .i64 (a + x) = a + x := wr64 (by omega) (by omega)
  simp (disch := first | assumption | omega | (simp only [az]; done)) only [ru, eq_self, if_true, if_false, BEq.rfl, binI, AO.row?, splice, fillL, mmAll, loadV, storeV, zeros, Am.rowAt, Am.part, addOff, Nat.reduceAdd, Nat.reduceMul, Nat.reduceLeDiff, Nat.reduceSub, Nat.reduceLT, Int.reduceEq, Int.reduceLT, Int.reduceLE, Int.reduceGT, Int.reduceGE, Int.reduceAdd, Int.reduceSub, Int.reduceMul, Int.reduceNeg, Int.reduceToNat, reduceCtorEq, reduceIte, lenV_sl hv, elem_sl intE hv, view_sl hv, scalar_sl hv, cells_sl hv, pure_sl hv, hlt, Int.toNat_natCast, ← hx, w1]
  exact ih (l.length - (i + 1)) _ _ _ (by omega) ⟨i + 1, by omega, rfl, rfl, rfl, by show I _ = I _; rw [ts], rfl, rfl, rfl⟩
theorem s25 {l : List Int} {v : AV} (hv : IsSl 1 intL l v) (hl : l.length ≤ 40) (hb : ∀ x ∈ l, 0 ≤ x ∧ x ≤ 40) {c : Nat} (hc : c ≤ l.length) (st : Bool) : Iso E 25 [v, I c] st = some (I (l.drop c).sum) := by
  obtain ⟨u, su, iu⟩ := slice_hi intE hv hc
  have c78 := fun st => s78 iu (by rw [List.length_drop]; omega) (fun x hx => hb x (List.mem_of_mem_drop hx)) st
  refine Iso_of (es _ _ _ _) e25 ?_
  simp only [f25]
  simp (disch := first | assumption | omega | (simp only [az]; done)) only [ru, eq_self, if_true, if_false, BEq.rfl, binI, AO.row?, splice, fillL, mmAll, loadV, storeV, zeros, Am.rowAt, Am.part, addOff, Nat.reduceAdd, Nat.reduceMul, Nat.reduceLeDiff, Nat.reduceSub, Nat.reduceLT, Int.reduceEq, Int.reduceLT, Int.reduceLE, Int.reduceGT, Int.reduceGE, Int.reduceAdd, Int.reduceSub, Int.reduceMul, Int.reduceNeg, Int.reduceToNat, reduceCtorEq, reduceIte, lenV_sl hv, elem_sl intE hv, view_sl hv, scalar_sl hv, cells_sl hv, pure_sl hv, lenV_sl iu, elem_sl intE iu, view_sl iu, scalar_sl iu, cells_sl iu, pure_sl iu, pex_slice, su, c78]

/-! numbers that are a truth -/
def rowN (L : List Ls) (i : Nat) : List Int := (L.getD i default).list
def numN (L : List Ls) (i c : Nat) : Int := (rowN L i).getD c 0
def behN (L : List Ls) (i c : Nat) : Int := ((rowN L i).drop c).sum
def RowK (C : Nat) (L : List Ls) (i : Nat) : Prop := (rowN L i).length = C ∧ (∀ c, c < C → 0 ≤ numN L i c ∧ numN L i c ≤ 40) ∧ behN L i 0 ≤ 40
def PasK (t : Trap) (L : List Ls) (i c : Nat) : Prop := 0 ≤ behN L (i + 1) c - behN L i c ∧ (0 < behN L (i + 1) c - behN L i c → hasI (t.op.getD i default).list c = true)
structure TruN (t : Trap) (L : List Ls) : Prop where
  l : L.length = t.T
  r : ∀ i, i < t.T → RowK t.C L i
  p : ∀ i, i + 1 < t.T → ∀ c, c < t.C → PasK t L i c
  w : ∀ k, k < t.ws.length → (t.ws.getD k default).lo ≤ numN L (t.ws.getD k default).time.toNat (t.ws.getD k default).ch.toNat ∧ numN L (t.ws.getD k default).time.toNat (t.ws.getD k default).ch.toNat ≤ (t.ws.getD k default).hi
theorem rowK_mem {C : Nat} {L : List Ls} {i : Nat} (h : RowK C L i) : ∀ x ∈ rowN L i, 0 ≤ x ∧ x ≤ 40 := by
  intro x hx
  obtain ⟨c, hc, rfl⟩ := List.mem_iff_getElem.1 hx
  have := h.2.1 c (by rw [← h.1]; exact hc)
  unfold numN at this
  rwa [List.getD_eq_getElem?_getD, List.getElem?_eq_getElem hc, Option.getD_some] at this
theorem beh_bd {C : Nat} {L : List Ls} {i c : Nat} (h : RowK C L i) (hC : C ≤ 4) : 0 ≤ behN L i c ∧ behN L i c ≤ 160 := by
  have := sum_bd (l := (rowN L i).drop c) fun x hx => rowK_mem h x (List.mem_of_mem_drop hx)
  have l := h.1
  unfold behN
  rw [List.length_drop] at this
  omega

set_option maxHeartbeats 4000000 in
theorem s18 {t : Trap} {o w : AV} (H : TrOk t o w) (hv : t.valid = true) {L : List Ls} {v : AV} (hL : IsSl 1 Ls.e L v) (hl : L.length ≤ 40) (hs : ∀ x ∈ L, x.list.length ≤ 40) : ∃ b, (∀ st, Iso E 18 [trV t o w, v] st = some (Bo b)) ∧ (b = true ↔ TruN t L) := by
  have V := valid_trb hv
  have v1 := V.c0; have v2 := V.c1; have v3 := V.t0; have v4 := V.t1; have vo := V.o
  have eC := trC V; have eT := trT V
  have sw := H.sw
  suffices hR : ∃ r h', R E (.fn 18) [trV t o w, v] [] 0 = some (r, h') ∧ ∃ b, r = Bo b ∧ (b = true ↔ TruN t L) by
    obtain ⟨r, h', hr, b, rfl, hb⟩ := hR
    exact ⟨b, fun st => by simp only [Iso, hr]; exact view_bool, hb⟩
  have no : ∀ {P : Prop}, ¬ TruN t L → (∃ b, Bo false = Bo b ∧ (b = true ↔ TruN t L)) := fun h => ⟨false, rfl, ⟨fun e => (by cases e), fun e => absurd e h⟩⟩
  refine R_of (f := 18) (fun r h' => ∃ b, r = Bo b ∧ (b = true ↔ TruN t L)) (es _ _ _ _) e18 ?_
  simp only [f18, trV]
  by_cases h0 : (L.length : Int) = t.tm
  case neg =>
    have h0' : ((L.length : Int) != t.tm) = true := by simpa using h0
    simp (disch := first | assumption | omega | (simp only [az]; done)) only [ru, eq_self, if_true, if_false, BEq.rfl, binI, AO.row?, splice, fillL, mmAll, loadV, storeV, zeros, Am.rowAt, Am.part, addOff, Nat.reduceAdd, Nat.reduceMul, Nat.reduceLeDiff, Nat.reduceSub, Nat.reduceLT, Int.reduceEq, Int.reduceLT, Int.reduceLE, Int.reduceGT, Int.reduceGE, Int.reduceAdd, Int.reduceSub, Int.reduceMul, Int.reduceNeg, Int.reduceToNat, reduceCtorEq, reduceIte, lenV_sl H.o, lenV_sl H.w, elem_sl Ls.el H.o, elem_sl Wd.el H.w, view_sl H.o, view_sl H.w, scalar_sl H.o, scalar_sl H.w, cells_sl H.o, cells_sl H.w, pure_sl H.o, pure_sl H.w, Int.toNat_natCast, lenV_sl hL, elem_sl Ls.el hL, view_sl hL, scalar_sl hL, cells_sl hL, pure_sl hL, h0']
    exact no (P := True) fun T => h0 (by have := T.l; omega)
  have h0' : ((L.length : Int) != t.tm) = false := by simpa using h0
  have hLT : L.length = t.T := by omega
  simp (disch := first | assumption | omega | (simp only [az]; done)) only [ru, eq_self, if_true, if_false, BEq.rfl, binI, AO.row?, splice, fillL, mmAll, loadV, storeV, zeros, Am.rowAt, Am.part, addOff, Nat.reduceAdd, Nat.reduceMul, Nat.reduceLeDiff, Nat.reduceSub, Nat.reduceLT, Int.reduceEq, Int.reduceLT, Int.reduceLE, Int.reduceGT, Int.reduceGE, Int.reduceAdd, Int.reduceSub, Int.reduceMul, Int.reduceNeg, Int.reduceToNat, reduceCtorEq, reduceIte, lenV_sl H.o, lenV_sl H.w, elem_sl Ls.el H.o, elem_sl Wd.el H.w, view_sl H.o, view_sl H.w, scalar_sl H.o, scalar_sl H.w, cells_sl H.o, cells_sl H.w, pure_sl H.o, pure_sl H.w, Int.toNat_natCast, lenV_sl hL, elem_sl Ls.el hL, view_sl hL, scalar_sl hL, cells_sl hL, pure_sl hL, h0']
  refine G_loop_ind (fun m ts hk mk => ∃ (i : Nat), i ≤ t.T ∧ m = t.T - i ∧ ts.length = 122 ∧ ts.getD 1 .undef = v ∧ ts.getD 2 .undef = .ptr 0 0 ∧ ts.getD 5 .undef = I i ∧ hk = [.cells [I t.ch, I t.tm, o, w] false] ∧ mk = [] ∧
    (∀ j, j < i → RowK t.C L j) ∧ ∀ j, j + 1 < i → ∀ c, c < t.C → PasK t L j c) ?_ _ _ _ _
    ⟨0, Nat.zero_le _, rfl, rfl, rfl, rfl, rfl, rfl, rfl, fun j hj => absurd hj (by omega), fun j hj => absurd hj (by omega)⟩
  rintro m ts hk mk ih ⟨i, hi, rfl, hll, q1, q2, q5, rfl, rfl, RK, PK⟩
  rw [lit_all hll]
  simp only [lit0, litS, Nat.reduceAdd, q1, q2, q5]
  simp (disch := first | assumption | omega | (simp only [az]; done)) only [ru, eq_self, if_true, if_false, BEq.rfl, binI, AO.row?, splice, fillL, mmAll, loadV, storeV, zeros, Am.rowAt, Am.part, addOff, Nat.reduceAdd, Nat.reduceMul, Nat.reduceLeDiff, Nat.reduceSub, Nat.reduceLT, Int.reduceEq, Int.reduceLT, Int.reduceLE, Int.reduceGT, Int.reduceGE, Int.reduceAdd, Int.reduceSub, Int.reduceMul, Int.reduceNeg, Int.reduceToNat, reduceCtorEq, reduceIte, lenV_sl hL, elem_sl Ls.el hL, view_sl hL, scalar_sl hL, cells_sl hL, pure_sl hL]
  by_cases hlt : (i : Int) < L.length
  case neg =>
    have hi3 : i = t.T := by omega
    subst hi3
    simp (disch := first | assumption | omega | (simp only [az]; done)) only [ru, eq_self, if_true, if_false, BEq.rfl, binI, AO.row?, splice, fillL, mmAll, loadV, storeV, zeros, Am.rowAt, Am.part, addOff, Nat.reduceAdd, Nat.reduceMul, Nat.reduceLeDiff, Nat.reduceSub, Nat.reduceLT, Int.reduceEq, Int.reduceLT, Int.reduceLE, Int.reduceGT, Int.reduceGE, Int.reduceAdd, Int.reduceSub, Int.reduceMul, Int.reduceNeg, Int.reduceToNat, reduceCtorEq, reduceIte, hlt]
    clear hll q1 q2 q5 ih
    refine G_loop_ind (fun m ts hk mk => ∃ (k : Nat) (J : List AO), k ≤ t.ws.length ∧ m = t.ws.length - k ∧ ts.length = 122 ∧ ts.getD 1 .undef = v ∧ ts.getD 2 .undef = .ptr 0 0 ∧ ts.getD 9 .undef = I k ∧ hk = .cells [I t.ch, I t.tm, o, w] false :: J ∧ mk = [] ∧
      ∀ j, j < k → (t.ws.getD j default).lo ≤ numN L (t.ws.getD j default).time.toNat (t.ws.getD j default).ch.toNat ∧ numN L (t.ws.getD j default).time.toNat (t.ws.getD j default).ch.toNat ≤ (t.ws.getD j default).hi) ?_ _ _ _ _
      ⟨0, [], Nat.zero_le _, rfl, rfl, rfl, rfl, rfl, rfl, rfl, fun j hj => absurd hj (by omega)⟩
    rintro m ts hk mk ih ⟨k, J, hk', rfl, hll, q1, q2, q9, rfl, rfl, WK⟩
    rw [lit_all hll]
    simp only [lit0, litS, Nat.reduceAdd, q1, q2, q9]
    simp (disch := first | assumption | omega | (simp only [az]; done)) only [ru, eq_self, if_true, if_false, BEq.rfl, binI, AO.row?, splice, fillL, mmAll, loadV, storeV, zeros, Am.rowAt, Am.part, addOff, Nat.reduceAdd, Nat.reduceMul, Nat.reduceLeDiff, Nat.reduceSub, Nat.reduceLT, Int.reduceEq, Int.reduceLT, Int.reduceLE, Int.reduceGT, Int.reduceGE, Int.reduceAdd, Int.reduceSub, Int.reduceMul, Int.reduceNeg, Int.reduceToNat, reduceCtorEq, reduceIte, lenV_sl H.o, lenV_sl H.w, elem_sl Ls.el H.o, elem_sl Wd.el H.w, view_sl H.o, view_sl H.w, scalar_sl H.o, scalar_sl H.w, cells_sl H.o, cells_sl H.w, pure_sl H.o, pure_sl H.w, Int.toNat_natCast]
    by_cases hlk : (k : Int) < t.ws.length
    case neg =>
      have hk3 : k = t.ws.length := by omega
      subst hk3
      simp (disch := first | assumption | omega | (simp only [az]; done)) only [ru, eq_self, if_true, if_false, BEq.rfl, binI, AO.row?, splice, fillL, mmAll, loadV, storeV, zeros, Am.rowAt, Am.part, addOff, Nat.reduceAdd, Nat.reduceMul, Nat.reduceLeDiff, Nat.reduceSub, Nat.reduceLT, Int.reduceEq, Int.reduceLT, Int.reduceLE, Int.reduceGT, Int.reduceGE, Int.reduceAdd, Int.reduceSub, Int.reduceMul, Int.reduceNeg, Int.reduceToNat, reduceCtorEq, reduceIte, hlk]
      exact ⟨true, rfl, ⟨fun _ => ⟨hLT, RK, fun i hi c hc => PK i hi c hc, WK⟩, fun _ => rfl⟩⟩
    have hk2 : k < t.ws.length := by omega
    have k0 : (0 : Int) ≤ k := by omega
    obtain ⟨y, hy⟩ : ∃ y, y = t.ws.getD k default := ⟨_, rfl⟩
    have hyf : fitB t y = true := by rw [hy]; exact V.fw _ (mem_getD hk2)
    simp only [fitB, placeB, Bool.and_eq_true, decide_eq_true_eq] at hyf
    have y0 : (0 : Int) ≤ y.time := by omega
    have y1 : y.time < (L.length : Nat) := by omega
    have y2 : (0 : Int) ≤ y.ch := by omega
    obtain ⟨z, hz⟩ : ∃ z, z = L.getD y.time.toNat default := ⟨_, rfl⟩
    have rz : rowN L y.time.toNat = z.list := by rw [hz]; rfl
    have y3 : y.ch < (z.list.length : Nat) := by have := (RK y.time.toNat (by omega)).1; rw [rz] at this; omega
    obtain ⟨n, hn⟩ : ∃ n, n = z.list.getD y.ch.toNat default := ⟨_, rfl⟩
    have nn : numN L y.time.toNat y.ch.toNat = n := by unfold numN; rw [rz, hn]; rfl
    cases hin : inR n y.lo y.hi
    · simp (disch := first | assumption | omega | (simp only [az]; done)) only [ru, eq_self, if_true, if_false, BEq.rfl, binI, AO.row?, splice, fillL, mmAll, loadV, storeV, zeros, Am.rowAt, Am.part, addOff, Nat.reduceAdd, Nat.reduceMul, Nat.reduceLeDiff, Nat.reduceSub, Nat.reduceLT, Int.reduceEq, Int.reduceLT, Int.reduceLE, Int.reduceGT, Int.reduceGE, Int.reduceAdd, Int.reduceSub, Int.reduceMul, Int.reduceNeg, Int.reduceToNat, reduceCtorEq, reduceIte, lenV_sl H.o, lenV_sl H.w, elem_sl Ls.el H.o, elem_sl Wd.el H.w, view_sl H.o, view_sl H.w, scalar_sl H.o, scalar_sl H.w, cells_sl H.o, cells_sl H.w, pure_sl H.o, pure_sl H.w, Int.toNat_natCast, lenV_sl hL, elem_sl Ls.el hL, view_sl hL, scalar_sl hL, cells_sl hL, pure_sl hL, hlk, k0, Int.toNat_natCast, ← hy, Wd.e, List.cons_append, lenE, setT, setT0, atT, atT0, getT, getT0, Nat.add_assoc, y0, y1, y2, y3, ← hz, Ls.e, lenV_sl z.is, elem_sl intE z.is, view_sl z.is, scalar_sl z.is, cells_sl z.is, pure_sl z.is, ← hn, s30, hin]
      refine no (P := True) fun T => ?_
      have := T.w k hk2
      rw [← hy, nn] at this
      rw [inR_iff.2 this] at hin
      cases hin
    · simp (disch := first | assumption | omega | (simp only [az]; done)) only [ru, eq_self, if_true, if_false, BEq.rfl, binI, AO.row?, splice, fillL, mmAll, loadV, storeV, zeros, Am.rowAt, Am.part, addOff, Nat.reduceAdd, Nat.reduceMul, Nat.reduceLeDiff, Nat.reduceSub, Nat.reduceLT, Int.reduceEq, Int.reduceLT, Int.reduceLE, Int.reduceGT, Int.reduceGE, Int.reduceAdd, Int.reduceSub, Int.reduceMul, Int.reduceNeg, Int.reduceToNat, reduceCtorEq, reduceIte, lenV_sl H.o, lenV_sl H.w, elem_sl Ls.el H.o, elem_sl Wd.el H.w, view_sl H.o, view_sl H.w, scalar_sl H.o, scalar_sl H.w, cells_sl H.o, cells_sl H.w, pure_sl H.o, pure_sl H.w, Int.toNat_natCast, lenV_sl hL, elem_sl Ls.el hL, view_sl hL, scalar_sl hL, cells_sl hL, pure_sl hL, hlk, k0, Int.toNat_natCast, ← hy, Wd.e, List.cons_append, lenE, setT, setT0, atT, atT0, getT, getT0, Nat.add_assoc, y0, y1, y2, y3, ← hz, Ls.e, lenV_sl z.is, elem_sl intE z.is, view_sl z.is, scalar_sl z.is, cells_sl z.is, pure_sl z.is, ← hn, s30, hin]
      refine ih (t.ws.length - (k + 1)) _ _ _ (by omega) ⟨k + 1, J ++ [AO.cells [I y.time, I y.ch, I y.lo, I y.hi] false], by omega, rfl, rfl, rfl, rfl, rfl, rfl, rfl, fun j hj => ?_⟩
      by_cases e : j = k
      · subst e
        rw [← hy, nn]
        exact inR_iff.1 hin
      · exact WK j (by omega)
  have hi2 : i < L.length := by omega
  have i0 : (0 : Int) ≤ i := by omega
  obtain ⟨x, hx⟩ : ∃ x, x = L.getD i default := ⟨_, rfl⟩
  have un := Ls.under hs hi2
  rw [← hx] at un
  have rx : rowN L i = x.list := by rw [hx]; rfl
  by_cases hr : (x.list.length : Int) = t.ch
  case neg =>
    have hr' : ((x.list.length : Int) != t.ch) = true := by simpa using hr
    simp (disch := first | assumption | omega | (simp only [az]; done)) only [ru, eq_self, if_true, if_false, BEq.rfl, binI, AO.row?, splice, fillL, mmAll, loadV, storeV, zeros, Am.rowAt, Am.part, addOff, Nat.reduceAdd, Nat.reduceMul, Nat.reduceLeDiff, Nat.reduceSub, Nat.reduceLT, Int.reduceEq, Int.reduceLT, Int.reduceLE, Int.reduceGT, Int.reduceGE, Int.reduceAdd, Int.reduceSub, Int.reduceMul, Int.reduceNeg, Int.reduceToNat, reduceCtorEq, reduceIte, lenV_sl hL, elem_sl Ls.el hL, view_sl hL, scalar_sl hL, cells_sl hL, pure_sl hL, hlt, i0, Int.toNat_natCast, ← hx, Ls.e, lenV_sl x.is, elem_sl intE x.is, view_sl x.is, scalar_sl x.is, cells_sl x.is, pure_sl x.is, hr']
    exact no (P := True) fun T => hr (by have := (T.r i (by omega)).1; rw [rx] at this; omega)
  have hr' : ((x.list.length : Int) != t.ch) = false := by simpa using hr
  simp (disch := first | assumption | omega | (simp only [az]; done)) only [ru, eq_self, if_true, if_false, BEq.rfl, binI, AO.row?, splice, fillL, mmAll, loadV, storeV, zeros, Am.rowAt, Am.part, addOff, Nat.reduceAdd, Nat.reduceMul, Nat.reduceLeDiff, Nat.reduceSub, Nat.reduceLT, Int.reduceEq, Int.reduceLT, Int.reduceLE, Int.reduceGT, Int.reduceGE, Int.reduceAdd, Int.reduceSub, Int.reduceMul, Int.reduceNeg, Int.reduceToNat, reduceCtorEq, reduceIte, lenV_sl hL, elem_sl Ls.el hL, view_sl hL, scalar_sl hL, cells_sl hL, pure_sl hL, hlt, i0, Int.toNat_natCast, ← hx, Ls.e, lenV_sl x.is, elem_sl intE x.is, view_sl x.is, scalar_sl x.is, cells_sl x.is, pure_sl x.is, hr']
  have lx : x.list.length = t.C := by omega
  clear hll q1 q2 q5
  refine G_loop_ind (fun m ts hk mk => ∃ (c : Nat), c ≤ t.C ∧ m = t.C - c ∧ ts.length = 122 ∧ ts.getD 1 .undef = v ∧ ts.getD 2 .undef = .ptr 0 0 ∧ ts.getD 5 .undef = I i ∧ ts.getD 6 .undef = I c ∧ hk = [.cells [I t.ch, I t.tm, o, w] false] ∧ mk = [] ∧
    ∀ d, d < c → 0 ≤ numN L i d ∧ numN L i d ≤ 40) ?_ _ _ _ _
    ⟨0, Nat.zero_le _, rfl, rfl, rfl, rfl, rfl, rfl, rfl, rfl, fun j hj => absurd hj (by omega)⟩
  rintro m ts hk mk ihC ⟨c, hc, rfl, hll, q1, q2, q5, q6, rfl, rfl, CK⟩
  rw [lit_all hll]
  simp only [lit0, litS, Nat.reduceAdd, q1, q2, q5, q6]
  simp (disch := first | assumption | omega | (simp only [az]; done)) only [ru, eq_self, if_true, if_false, BEq.rfl, binI, AO.row?, splice, fillL, mmAll, loadV, storeV, zeros, Am.rowAt, Am.part, addOff, Nat.reduceAdd, Nat.reduceMul, Nat.reduceLeDiff, Nat.reduceSub, Nat.reduceLT, Int.reduceEq, Int.reduceLT, Int.reduceLE, Int.reduceGT, Int.reduceGE, Int.reduceAdd, Int.reduceSub, Int.reduceMul, Int.reduceNeg, Int.reduceToNat, reduceCtorEq, reduceIte, lenV_sl hL, elem_sl Ls.el hL, view_sl hL, scalar_sl hL, cells_sl hL, pure_sl hL, hlt, i0, Int.toNat_natCast, ← hx, Ls.e, lenV_sl x.is, elem_sl intE x.is, view_sl x.is, scalar_sl x.is, cells_sl x.is, pure_sl x.is]
  by_cases hlc : (c : Int) < x.list.length
  case pos =>
    have c0 : (0 : Int) ≤ c := by omega
    obtain ⟨n, hn⟩ : ∃ n, n = x.list.getD c default := ⟨_, rfl⟩
    have nn : numN L i c = n := by unfold numN; rw [rx, hn]; rfl
    cases hin : inR n 0 40
    · simp (disch := first | assumption | omega | (simp only [az]; done)) only [ru, eq_self, if_true, if_false, BEq.rfl, binI, AO.row?, splice, fillL, mmAll, loadV, storeV, zeros, Am.rowAt, Am.part, addOff, Nat.reduceAdd, Nat.reduceMul, Nat.reduceLeDiff, Nat.reduceSub, Nat.reduceLT, Int.reduceEq, Int.reduceLT, Int.reduceLE, Int.reduceGT, Int.reduceGE, Int.reduceAdd, Int.reduceSub, Int.reduceMul, Int.reduceNeg, Int.reduceToNat, reduceCtorEq, reduceIte, lenV_sl hL, elem_sl Ls.el hL, view_sl hL, scalar_sl hL, cells_sl hL, pure_sl hL, hlt, hlc, i0, c0, Int.toNat_natCast, ← hx, Ls.e, lenV_sl x.is, elem_sl intE x.is, view_sl x.is, scalar_sl x.is, cells_sl x.is, pure_sl x.is, ← hn, s30, hin]
      refine no (P := True) fun T => ?_
      have := (T.r i (by omega)).2.1 c (by omega)
      rw [nn] at this
      rw [inR_iff.2 this] at hin
      cases hin
    · simp (disch := first | assumption | omega | (simp only [az]; done)) only [ru, eq_self, if_true, if_false, BEq.rfl, binI, AO.row?, splice, fillL, mmAll, loadV, storeV, zeros, Am.rowAt, Am.part, addOff, Nat.reduceAdd, Nat.reduceMul, Nat.reduceLeDiff, Nat.reduceSub, Nat.reduceLT, Int.reduceEq, Int.reduceLT, Int.reduceLE, Int.reduceGT, Int.reduceGE, Int.reduceAdd, Int.reduceSub, Int.reduceMul, Int.reduceNeg, Int.reduceToNat, reduceCtorEq, reduceIte, lenV_sl hL, elem_sl Ls.el hL, view_sl hL, scalar_sl hL, cells_sl hL, pure_sl hL, hlt, hlc, i0, c0, Int.toNat_natCast, ← hx, Ls.e, lenV_sl x.is, elem_sl intE x.is, view_sl x.is, scalar_sl x.is, cells_sl x.is, pure_sl x.is, ← hn, s30, hin]
      refine ihC (t.C - (c + 1)) _ _ _ (by omega) ⟨c + 1, by omega, rfl, rfl, rfl, rfl, rfl, rfl, rfl, rfl, fun d hd => ?_⟩
      by_cases e : d = c
      · subst e; rw [nn]; exact inR_iff.1 hin
      · exact CK d (by omega)
  have hc3 : c = t.C := by omega
  subst hc3
  have mem : ∀ z ∈ x.list, 0 ≤ z ∧ z ≤ 40 := by
    intro z hz
    obtain ⟨d, hd, rfl⟩ := List.mem_iff_getElem.1 hz
    have := CK d (by omega)
    unfold numN at this
    rw [rx, List.getD_eq_getElem?_getD, List.getElem?_eq_getElem hd, Option.getD_some] at this
    exact this
  have c25 := fun c (hc : c ≤ x.list.length) st => s25 x.is (by omega) mem hc st
  have c25z : ∀ st, Iso E 25 [x.v, I 0] st = some (I (behN L i 0)) := fun st => by
    have := c25 0 (Nat.zero_le _) st
    rw [← rx] at this
    exact this
  by_cases hb : behN L i 0 > 40
  · simp (disch := first | assumption | omega | (simp only [az]; done)) only [ru, eq_self, if_true, if_false, BEq.rfl, binI, AO.row?, splice, fillL, mmAll, loadV, storeV, zeros, Am.rowAt, Am.part, addOff, Nat.reduceAdd, Nat.reduceMul, Nat.reduceLeDiff, Nat.reduceSub, Nat.reduceLT, Int.reduceEq, Int.reduceLT, Int.reduceLE, Int.reduceGT, Int.reduceGE, Int.reduceAdd, Int.reduceSub, Int.reduceMul, Int.reduceNeg, Int.reduceToNat, reduceCtorEq, reduceIte, lenV_sl hL, elem_sl Ls.el hL, view_sl hL, scalar_sl hL, cells_sl hL, pure_sl hL, hlt, hlc, i0, Int.toNat_natCast, ← hx, Ls.e, lenV_sl x.is, elem_sl intE x.is, view_sl x.is, scalar_sl x.is, cells_sl x.is, pure_sl x.is, c25z, hb]
    exact no (P := True) fun T => by have := (T.r i (by omega)).2.2; omega
  have RKi : RowK t.C L i := ⟨by rw [rx]; exact lx, CK, by omega⟩
  simp (disch := first | assumption | omega | (simp only [az]; done)) only [ru, eq_self, if_true, if_false, BEq.rfl, binI, AO.row?, splice, fillL, mmAll, loadV, storeV, zeros, Am.rowAt, Am.part, addOff, Nat.reduceAdd, Nat.reduceMul, Nat.reduceLeDiff, Nat.reduceSub, Nat.reduceLT, Int.reduceEq, Int.reduceLT, Int.reduceLE, Int.reduceGT, Int.reduceGE, Int.reduceAdd, Int.reduceSub, Int.reduceMul, Int.reduceNeg, Int.reduceToNat, reduceCtorEq, reduceIte, lenV_sl hL, elem_sl Ls.el hL, view_sl hL, scalar_sl hL, cells_sl hL, pure_sl hL, hlt, hlc, i0, Int.toNat_natCast, ← hx, Ls.e, lenV_sl x.is, elem_sl intE x.is, view_sl x.is, scalar_sl x.is, cells_sl x.is, pure_sl x.is, c25z, hb]
  clear hll q1 q2 q5 q6 ihC
  refine G_loop_ind (fun m ts hk mk => ∃ (c : Nat), c ≤ t.C ∧ m = t.C - c ∧ ts.length = 122 ∧ ts.getD 1 .undef = v ∧ ts.getD 2 .undef = .ptr 0 0 ∧ ts.getD 5 .undef = I i ∧ ts.getD 7 .undef = I c ∧ hk = [.cells [I t.ch, I t.tm, o, w] false] ∧ mk = [] ∧
    ∀ d, d < c → 0 < i → PasK t L (i - 1) d) ?_ _ _ _ _
    ⟨0, Nat.zero_le _, rfl, rfl, rfl, rfl, rfl, rfl, rfl, rfl, fun j hj => absurd hj (by omega)⟩
  rintro m ts hk mk ihC ⟨c, hc, rfl, hll, q1, q2, q5, q7, rfl, rfl, PKi⟩
  rw [lit_all hll]
  simp only [lit0, litS, Nat.reduceAdd, q1, q2, q5, q7]
  have next : (∀ d, d < t.C → 0 < i → PasK t L (i - 1) d) → (∀ j, j < i + 1 → RowK t.C L j) ∧ ∀ j, j + 1 < i + 1 → ∀ c, c < t.C → PasK t L j c := fun hP => by
    refine ⟨fun j hj => ?_, fun j hj c hc => ?_⟩
    · by_cases e : j = i
      · subst e; exact RKi
      · exact RK j (by omega)
    · by_cases e : j + 1 = i
      · have := hP c hc (by omega)
        rwa [show i - 1 = j by omega] at this
      · exact PK j (by omega) c hc
  by_cases hlc2 : (c : Int) < t.ch
  case neg =>
    have n := next fun d hd h0 => PKi d (by omega) h0
    simp (disch := first | assumption | omega | (simp only [az]; done)) only [ru, eq_self, if_true, if_false, BEq.rfl, binI, AO.row?, splice, fillL, mmAll, loadV, storeV, zeros, Am.rowAt, Am.part, addOff, Nat.reduceAdd, Nat.reduceMul, Nat.reduceLeDiff, Nat.reduceSub, Nat.reduceLT, Int.reduceEq, Int.reduceLT, Int.reduceLE, Int.reduceGT, Int.reduceGE, Int.reduceAdd, Int.reduceSub, Int.reduceMul, Int.reduceNeg, Int.reduceToNat, reduceCtorEq, reduceIte, lenV_sl H.o, lenV_sl H.w, elem_sl Ls.el H.o, elem_sl Wd.el H.w, view_sl H.o, view_sl H.w, scalar_sl H.o, scalar_sl H.w, cells_sl H.o, cells_sl H.w, pure_sl H.o, pure_sl H.w, Int.toNat_natCast, hlc2, gUn]
    exact ih (t.T - (i + 1)) _ _ _ (by omega) ⟨i + 1, by omega, rfl, rfl, rfl, rfl, rfl, rfl, rfl, n.1, n.2⟩
  by_cases hi0 : (i : Int) > 0
  case neg =>
    have n := next fun d hd h0 => by omega
    simp (disch := first | assumption | omega | (simp only [az]; done)) only [ru, eq_self, if_true, if_false, BEq.rfl, binI, AO.row?, splice, fillL, mmAll, loadV, storeV, zeros, Am.rowAt, Am.part, addOff, Nat.reduceAdd, Nat.reduceMul, Nat.reduceLeDiff, Nat.reduceSub, Nat.reduceLT, Int.reduceEq, Int.reduceLT, Int.reduceLE, Int.reduceGT, Int.reduceGE, Int.reduceAdd, Int.reduceSub, Int.reduceMul, Int.reduceNeg, Int.reduceToNat, reduceCtorEq, reduceIte, lenV_sl H.o, lenV_sl H.w, elem_sl Ls.el H.o, elem_sl Wd.el H.w, view_sl H.o, view_sl H.w, scalar_sl H.o, scalar_sl H.w, cells_sl H.o, cells_sl H.w, pure_sl H.o, pure_sl H.w, Int.toNat_natCast, hlc2, hi0, gUn]
    exact ih (t.T - (i + 1)) _ _ _ (by omega) ⟨i + 1, by omega, rfl, rfl, rfl, rfl, rfl, rfl, rfl, n.1, n.2⟩
  obtain ⟨j, rfl⟩ : ∃ j, i = j + 1 := ⟨i - 1, by omega⟩
  have ej : ((j + 1 : Nat) : Int) - 1 = j := by omega
  have wj : wr .i64 (j : Int) = j := wr64 (by omega) (by omega)
  have j0 : (0 : Int) ≤ j := by omega
  have j1 : (j : Int) < (L.length : Nat) := by omega
  have j2 : (j : Int) < (t.op.length : Nat) := by omega
  obtain ⟨x', hx'⟩ : ∃ x', x' = L.getD j default := ⟨_, rfl⟩
  have rx' : rowN L j = x'.list := by rw [hx']; rfl
  have RKj := RK j (by omega)
  have lx' : x'.list.length = t.C := by rw [← rx']; exact RKj.1
  have c25' := fun st => s25 x'.is (by omega) (by rw [← rx']; exact rowK_mem RKj) (c := c) (by omega) st
  have c25x := c25 c (by omega)
  have e1 : (x.list.drop c).sum = behN L (j + 1) c := by unfold behN; rw [rx]
  have e2 : (x'.list.drop c).sum = behN L j c := by unfold behN; rw [rx']
  rw [e1] at c25x
  rw [e2] at c25'
  obtain ⟨d, hd⟩ : ∃ d, d = behN L (j + 1) c - behN L j c := ⟨_, rfl⟩
  have bd1 := beh_bd RKi (by omega : t.C ≤ 4) (c := c)
  have bd2 := beh_bd RKj (by omega : t.C ≤ 4) (c := c)
  have wd : wr .i64 (behN L (j + 1) c - behN L j c) = d := by rw [hd]; exact wr64 (by omega) (by omega)
  have nextP : (0 ≤ d ∧ (0 < d → hasI (t.op.getD j default).list c = true)) → ∀ d', d' < c + 1 → 0 < j + 1 → PasK t L (j + 1 - 1) d' := fun h d' hd' h0 => by
    by_cases e : d' = c
    · subst e
      rw [Nat.add_sub_cancel]
      unfold PasK
      rw [← hd]; exact h
    · exact PKi d' (by omega) h0
  have bad : ¬ (0 ≤ d ∧ (0 < d → hasI (t.op.getD j default).list c = true)) → ¬ TruN t L := fun h T => h (by
    have := T.p j (by omega) c (by omega)
    unfold PasK at this
    rw [← hd] at this; exact this)
  obtain ⟨u, hu⟩ : ∃ u, u = t.op.getD j default := ⟨_, rfl⟩
  have uun := Ls.under H.sl (show j < t.op.length by omega)
  rw [← hu] at uun nextP bad
  have c40 := fun st => s40 u.is (by omega) c st
  have ex : x = L.getD (j + 1) default := hx
  by_cases g1 : d < 0
  · simp (disch := first | assumption | omega | (simp only [az]; done)) only [ru, eq_self, if_true, if_false, BEq.rfl, binI, AO.row?, splice, fillL, mmAll, loadV, storeV, zeros, Am.rowAt, Am.part, addOff, Nat.reduceAdd, Nat.reduceMul, Nat.reduceLeDiff, Nat.reduceSub, Nat.reduceLT, Int.reduceEq, Int.reduceLT, Int.reduceLE, Int.reduceGT, Int.reduceGE, Int.reduceAdd, Int.reduceSub, Int.reduceMul, Int.reduceNeg, Int.reduceToNat, reduceCtorEq, reduceIte, lenV_sl H.o, lenV_sl H.w, elem_sl Ls.el H.o, elem_sl Wd.el H.w, view_sl H.o, view_sl H.w, scalar_sl H.o, scalar_sl H.w, cells_sl H.o, cells_sl H.w, pure_sl H.o, pure_sl H.w, Int.toNat_natCast, lenV_sl hL, elem_sl Ls.el hL, view_sl hL, scalar_sl hL, cells_sl hL, pure_sl hL, hlc2, hi0, i0, hlt, Int.toNat_natCast, ← hx, Ls.e, lenV_sl x.is, elem_sl intE x.is, view_sl x.is, scalar_sl x.is, cells_sl x.is, pure_sl x.is, c25x, ej, j0, j1, ← hx', lenV_sl x'.is, elem_sl intE x'.is, view_sl x'.is, scalar_sl x'.is, cells_sl x'.is, pure_sl x'.is, c25', wd, g1, gUn]
    exact no (P := True) (bad fun h => by omega)
  by_cases g2 : d > 0
  · cases hh : hasI u.list c
    · simp (disch := first | assumption | omega | (simp only [az]; done)) only [ru, eq_self, if_true, if_false, BEq.rfl, binI, AO.row?, splice, fillL, mmAll, loadV, storeV, zeros, Am.rowAt, Am.part, addOff, Nat.reduceAdd, Nat.reduceMul, Nat.reduceLeDiff, Nat.reduceSub, Nat.reduceLT, Int.reduceEq, Int.reduceLT, Int.reduceLE, Int.reduceGT, Int.reduceGE, Int.reduceAdd, Int.reduceSub, Int.reduceMul, Int.reduceNeg, Int.reduceToNat, reduceCtorEq, reduceIte, lenV_sl H.o, lenV_sl H.w, elem_sl Ls.el H.o, elem_sl Wd.el H.w, view_sl H.o, view_sl H.w, scalar_sl H.o, scalar_sl H.w, cells_sl H.o, cells_sl H.w, pure_sl H.o, pure_sl H.w, Int.toNat_natCast, lenV_sl hL, elem_sl Ls.el hL, view_sl hL, scalar_sl hL, cells_sl hL, pure_sl hL, hlc2, hi0, i0, hlt, Int.toNat_natCast, ← hx, Ls.e, lenV_sl x.is, elem_sl intE x.is, view_sl x.is, scalar_sl x.is, cells_sl x.is, pure_sl x.is, c25x, ej, j0, j1, j2, ← hx', lenV_sl x'.is, elem_sl intE x'.is, view_sl x'.is, scalar_sl x'.is, cells_sl x'.is, pure_sl x'.is, c25', wd, g1, g2, ← hu, lenV_sl u.is, elem_sl intE u.is, view_sl u.is, scalar_sl u.is, cells_sl u.is, pure_sl u.is, c40, hh, gUn]
      exact no (P := True) (bad fun h => by have := h.2 g2; rw [hh] at this; cases this)
    · have nP := nextP ⟨by omega, fun _ => hh⟩
      simp (disch := first | assumption | omega | (simp only [az]; done)) only [ru, eq_self, if_true, if_false, BEq.rfl, binI, AO.row?, splice, fillL, mmAll, loadV, storeV, zeros, Am.rowAt, Am.part, addOff, Nat.reduceAdd, Nat.reduceMul, Nat.reduceLeDiff, Nat.reduceSub, Nat.reduceLT, Int.reduceEq, Int.reduceLT, Int.reduceLE, Int.reduceGT, Int.reduceGE, Int.reduceAdd, Int.reduceSub, Int.reduceMul, Int.reduceNeg, Int.reduceToNat, reduceCtorEq, reduceIte, lenV_sl H.o, lenV_sl H.w, elem_sl Ls.el H.o, elem_sl Wd.el H.w, view_sl H.o, view_sl H.w, scalar_sl H.o, scalar_sl H.w, cells_sl H.o, cells_sl H.w, pure_sl H.o, pure_sl H.w, Int.toNat_natCast, lenV_sl hL, elem_sl Ls.el hL, view_sl hL, scalar_sl hL, cells_sl hL, pure_sl hL, hlc2, hi0, i0, hlt, Int.toNat_natCast, ← hx, Ls.e, lenV_sl x.is, elem_sl intE x.is, view_sl x.is, scalar_sl x.is, cells_sl x.is, pure_sl x.is, c25x, ej, j0, j1, j2, ← hx', lenV_sl x'.is, elem_sl intE x'.is, view_sl x'.is, scalar_sl x'.is, cells_sl x'.is, pure_sl x'.is, c25', wd, g1, g2, ← hu, lenV_sl u.is, elem_sl intE u.is, view_sl u.is, scalar_sl u.is, cells_sl u.is, pure_sl u.is, c40, hh, gUn]
      exact ihC (t.C - (c + 1)) _ _ _ (by omega) ⟨c + 1, by omega, rfl, rfl, rfl, rfl, rfl, rfl, rfl, rfl, nP⟩
  · have nP := nextP ⟨by omega, fun h => by omega⟩
    simp (disch := first | assumption | omega | (simp only [az]; done)) only [ru, eq_self, if_true, if_false, BEq.rfl, binI, AO.row?, splice, fillL, mmAll, loadV, storeV, zeros, Am.rowAt, Am.part, addOff, Nat.reduceAdd, Nat.reduceMul, Nat.reduceLeDiff, Nat.reduceSub, Nat.reduceLT, Int.reduceEq, Int.reduceLT, Int.reduceLE, Int.reduceGT, Int.reduceGE, Int.reduceAdd, Int.reduceSub, Int.reduceMul, Int.reduceNeg, Int.reduceToNat, reduceCtorEq, reduceIte, lenV_sl H.o, lenV_sl H.w, elem_sl Ls.el H.o, elem_sl Wd.el H.w, view_sl H.o, view_sl H.w, scalar_sl H.o, scalar_sl H.w, cells_sl H.o, cells_sl H.w, pure_sl H.o, pure_sl H.w, Int.toNat_natCast, lenV_sl hL, elem_sl Ls.el hL, view_sl hL, scalar_sl hL, cells_sl hL, pure_sl hL, hlc2, hi0, i0, hlt, Int.toNat_natCast, ← hx, Ls.e, lenV_sl x.is, elem_sl intE x.is, view_sl x.is, scalar_sl x.is, cells_sl x.is, pure_sl x.is, c25x, ej, j0, j1, j2, ← hx', lenV_sl x'.is, elem_sl intE x'.is, view_sl x'.is, scalar_sl x'.is, cells_sl x'.is, pure_sl x'.is, c25', wd, g1, g2, gUn]
    exact ihC (t.C - (c + 1)) _ _ _ (by omega) ⟨c + 1, by omega, rfl, rfl, rfl, rfl, rfl, rfl, rfl, rfl, nP⟩
end Go.Proofs.Ytjaaefdhdggnkaa.S

/-
Numbers and truths; the law of both ends.
-/
namespace Go.Proofs.Ytjaaefdhdggnkaa.S
open Go Go.Am Go.Proofs.Ytjaaefdhdggnkaa.T
set_option maxRecDepth 100000
set_option linter.unusedSimpArgs false
set_option linter.unusedVariables false

theorem numL_row {C T i : Nat} {x : Nat → Int} (hi : i < T) : rowN (numL C T x) i = rowG C x i := by
  unfold rowN
  rw [numL_at hi]; rfl
theorem rowG_drop {C i : Nat} {x : Nat → Int} : ∀ n c, c + n = C → ((rowG C x i).drop c).sum = x (sumN C i c) - x (sumN C i C)
  | 0, c, h => by
    have : c = C := by omega
    subst this
    rw [List.drop_eq_nil_of_le (by rw [rowG_len]; exact Nat.le_refl _)]
    simp
  | n + 1, c, h => by
    rw [drop_sum (by rw [rowG_len]; omega), rowG_at (by omega), rowG_drop n (c + 1) (by omega)]
    unfold gap; omega
theorem numL_beh {C T i c : Nat} {x : Nat → Int} (hi : i < T) (hc : c ≤ C) : behN (numL C T x) i c = x (sumN C i c) - x 0 := by
  unfold behN
  rw [numL_row hi, rowG_drop (C - c) c (by omega), sumN_last]
theorem numL_num {C T i c : Nat} {x : Nat → Int} (hi : i < T) (hc : c < C) : numN (numL C T x) i c = gap C x i c := by
  unfold numN
  rw [numL_row hi, rowG_at hc]
section
variable {t : Trap}
theorem may_has {i c : Nat} : 0 < mayP t.op i c ↔ hasI (t.op.getD i default).list c = true := by
  unfold mayP
  split <;> simp_all
theorem word_in (V : TrB t) {k : Nat} (hk : k < t.ws.length) : (t.ws.getD k default).time.toNat < t.T ∧ (t.ws.getD k default).ch.toNat < t.C :=
  word_at V (trC V) (trT V) (mem_getD hk)
/-- a truth's numbers are a truth -/
theorem tr_num (V : TrB t) {x : Nat → Int} (hx : Tr t x) : TruN t (numL t.C t.T x) := by
  have v1 := V.c0; have v2 := V.c1; have v4 := V.t1; have vo := V.o
  have eC := trC V; have eT := trT V
  refine ⟨numL_len, fun i hi => ⟨by rw [numL_row hi, rowG_len], fun c hc => ?_, ?_⟩, fun i hi c hc => ?_, fun k hk => ?_⟩
  · rw [numL_num hi hc]; exact hx.2.f i c hi hc
  · rw [numL_beh hi (Nat.zero_le _)]
    exact (sat_wid.1 hx.1).1 _ 0 (sumN_lt (by omega) (by omega) (by omega)) (by omega) (by rw [sumN_in (by omega)]; omega)
  · have m := hx.2.m i c (by omega) hc
    unfold flow at m
    unfold PasK
    rw [numL_beh hi (by omega), numL_beh (by omega) (by omega)]
    refine ⟨by omega, fun h => ?_⟩
    rw [← may_has]
    omega
  · have w := hx.2.w k hk
    have wi := word_in V hk
    rw [numL_num wi.1 wi.2]
    exact w
end
theorem s26 (a b n : Int) (st : Bool) : Iso E 26 [.agg [I a, I b], I n] st = some (Bo (decide (a ≤ n) && decide (n ≤ b))) := by
  refine Iso_of (es _ _ _ _) e26 ?_
  simp only [f26]
  by_cases h1 : a ≤ n <;> by_cases h2 : n ≤ b <;> simp (disch := first | assumption | omega | (simp only [az]; done)) only [ru, eq_self, if_true, if_false, BEq.rfl, binI, AO.row?, splice, fillL, mmAll, loadV, storeV, zeros, Am.rowAt, Am.part, addOff, Nat.reduceAdd, Nat.reduceMul, Nat.reduceLeDiff, Nat.reduceSub, Nat.reduceLT, Int.reduceEq, Int.reduceLT, Int.reduceLE, Int.reduceGT, Int.reduceGE, Int.reduceAdd, Int.reduceSub, Int.reduceMul, Int.reduceNeg, Int.reduceToNat, reduceCtorEq, reduceIte, h1, h2, gUn, decide_true, decide_false, Bool.and_self, Bool.and_false, Bool.and_true, Bool.false_and]
theorem num_huge {C T : Nat} {x : Nat → Int} (hC : C ≤ 4) (hT : T ≤ 5) : hugeL (numL C T x) = false := by
  unfold hugeL
  rw [numL_len, decide_eq_false (by omega), Bool.false_or]
  refine any_not ?_
  rw [List.all_eq_true]
  intro i hi
  rw [List.mem_range] at hi
  rw [numL_at hi, Ls.of_list, rowG_len]
  simp; omega

set_option maxHeartbeats 4000000 in
theorem s4 {t : Trap} {o w : AV} (H0 : TrIn t o w) (a b : Int) : Iso E 4 [trV t o w, .agg [I a, I b]] false = some (Bo true) := by
  have ho := H0.o
  have hw := H0.w
  have c16 := fun st => s16 H0 st
  have d19 := s19
  cases hr : rdy t
  case false =>
    refine Iso_of (es _ _ _ _) e4 ?_
    simp only [f4, trV, hr] at c16 ⊢
    simp (disch := first | assumption | omega | (simp only [az]; done)) only [ru, eq_self, if_true, if_false, BEq.rfl, binI, AO.row?, splice, fillL, mmAll, loadV, storeV, zeros, Am.rowAt, Am.part, addOff, Nat.reduceAdd, Nat.reduceMul, Nat.reduceLeDiff, Nat.reduceSub, Nat.reduceLT, Int.reduceEq, Int.reduceLT, Int.reduceLE, Int.reduceGT, Int.reduceGE, Int.reduceAdd, Int.reduceSub, Int.reduceMul, Int.reduceNeg, Int.reduceToNat, reduceCtorEq, reduceIte, lenV_sl ho, elem_sl Ls.el ho, view_sl ho, scalar_sl ho, cells_sl ho, pure_sl ho, lenV_sl hw, elem_sl Wd.el hw, view_sl hw, scalar_sl hw, cells_sl hw, pure_sl hw, c16, d19, gUn]
  obtain ⟨hg, hv⟩ := rdy_h hr
  have H := H0.ok hg
  have V := valid_trb hv
  have h8 := valid_w8 hv
  have v1 := V.c0; have v2 := V.c1; have v3 := V.t0; have v4 := V.t1
  have eC := trC V; have eT := trT V
  simp only [trV, hr] at c16
  by_cases l8 : t.ws.length = 8
  · have l8' : ((t.ws.length : Int) == 8) = true := by rw [l8]; rfl
    refine Iso_of (es _ _ _ _) e4 ?_
    simp only [f4, trV]
    simp (disch := first | assumption | omega | (simp only [az]; done)) only [ru, eq_self, if_true, if_false, BEq.rfl, binI, AO.row?, splice, fillL, mmAll, loadV, storeV, zeros, Am.rowAt, Am.part, addOff, Nat.reduceAdd, Nat.reduceMul, Nat.reduceLeDiff, Nat.reduceSub, Nat.reduceLT, Int.reduceEq, Int.reduceLT, Int.reduceLE, Int.reduceGT, Int.reduceGE, Int.reduceAdd, Int.reduceSub, Int.reduceMul, Int.reduceNeg, Int.reduceToNat, reduceCtorEq, reduceIte, lenV_sl ho, elem_sl Ls.el ho, view_sl ho, scalar_sl ho, cells_sl ho, pure_sl ho, lenV_sl hw, elem_sl Wd.el hw, view_sl hw, scalar_sl hw, cells_sl hw, pure_sl hw, c16, l8', d19, gUn]
  have l8' : ((t.ws.length : Int) == 8) = false := by simp; omega
  have c31 := fun st => s31 H a b st
  simp only [wrT hv, wrC hv, trV] at c31
  cases hp : inR a 0 (t.tm - 1) && inR b 0 (t.ch - 1)
  · rw [hp] at c31
    refine Iso_of (es _ _ _ _) e4 ?_
    simp only [f4, trV]
    simp (disch := first | assumption | omega | (simp only [az]; done)) only [ru, eq_self, if_true, if_false, BEq.rfl, binI, AO.row?, splice, fillL, mmAll, loadV, storeV, zeros, Am.rowAt, Am.part, addOff, Nat.reduceAdd, Nat.reduceMul, Nat.reduceLeDiff, Nat.reduceSub, Nat.reduceLT, Int.reduceEq, Int.reduceLT, Int.reduceLE, Int.reduceGT, Int.reduceGE, Int.reduceAdd, Int.reduceSub, Int.reduceMul, Int.reduceNeg, Int.reduceToNat, reduceCtorEq, reduceIte, lenV_sl ho, elem_sl Ls.el ho, view_sl ho, scalar_sl ho, cells_sl ho, pure_sl ho, lenV_sl hw, elem_sl Wd.el hw, view_sl hw, scalar_sl hw, cells_sl hw, pure_sl hw, c16, l8', c31, d19, gUn]
  rw [hp] at c31
  simp only [Bool.and_eq_true, inR_iff] at hp
  have pb : placeB t a b = true := by simp only [placeB, Bool.and_eq_true, decide_eq_true_eq]; omega
  obtain ⟨i, rfl⟩ : ∃ i : Nat, a = i := ⟨a.toNat, by omega⟩
  obtain ⟨c, rfl⟩ : ∃ c : Nat, b = c := ⟨b.toNat, by omega⟩
  have hi : i < t.T := by omega
  have hc : c < t.C := by omega
  obtain ⟨lo, hi', e, c32, A⟩ := s32 H i c
  obtain ⟨kv, f, c33, A2⟩ := s33 H
  simp only [trV] at c32 c33
  by_cases hs : Solv t.C t.T t
  case neg =>
    obtain ⟨rfl, rfl, rfl⟩ := A.non hv pb hs
    have hf : f = 3 ∧ kv = .nils := by
      cases A2 with
      | bad h => rw [hv] at h; cases h
      | none _ _ => exact ⟨rfl, rfl⟩
      | ok _ hx => exact absurd ⟨_, hx⟩ hs
    obtain ⟨rfl, rfl⟩ := hf
    refine Iso_of (es _ _ _ _) e4 ?_
    simp only [f4, trV]
    simp (disch := first | assumption | omega | (simp only [az]; done)) only [ru, eq_self, if_true, if_false, BEq.rfl, binI, AO.row?, splice, fillL, mmAll, loadV, storeV, zeros, Am.rowAt, Am.part, addOff, Nat.reduceAdd, Nat.reduceMul, Nat.reduceLeDiff, Nat.reduceSub, Nat.reduceLT, Int.reduceEq, Int.reduceLT, Int.reduceLE, Int.reduceGT, Int.reduceGE, Int.reduceAdd, Int.reduceSub, Int.reduceMul, Int.reduceNeg, Int.reduceToNat, reduceCtorEq, reduceIte, lenV_sl ho, elem_sl Ls.el ho, view_sl ho, scalar_sl ho, cells_sl ho, pure_sl ho, lenV_sl hw, elem_sl Wd.el hw, view_sl hw, scalar_sl hw, cells_sl hw, pure_sl hw, c16, l8', c31, c32, c33, d19, gUn]
  obtain ⟨rfl, X⟩ := A.val hv pb hs
  have hf : ∃ x, f = 0 ∧ kv = slV 1 Ls.e (numL t.C t.T x) := by
    cases A2 with
    | bad h => rw [hv] at h; cases h
    | none _ h => exact absurd hs h
    | @ok x _ hx => exact ⟨x, rfl, rfl⟩
  obtain ⟨x9, rfl, rfl⟩ := hf
  simp only [Int.toNat_natCast] at X
  have bd := xt_bd hi hc X
  obtain ⟨xb, _⟩ := xt_tr X
  try simp only at xb
  have n1 : ¬ lo < 0 := by omega
  have n2 : ¬ lo > hi' := by omega
  have n3 : ¬ hi' > 40 := by omega
  have w1 : wr .i64 (lo - 1) = lo - 1 := wr64 (by omega) (by omega)
  have w2 : wr .i64 (hi' + 1) = hi' + 1 := wr64 (by omega) (by omega)
  obtain ⟨n0, hn0⟩ : ∃ n0, n0 = mmx true 0 (lo - 1) := ⟨_, rfl⟩
  obtain ⟨nE, hnE⟩ : ∃ nE, nE = mmx false (hi' + 1) 40 := ⟨_, rfl⟩
  have b0 : 0 ≤ n0 ∧ n0 ≤ 40 := by
    have : n0 = if lo - 1 > 0 then lo - 1 else 0 := hn0
    split at this <;> omega
  have bE : nE ≤ 40 := by
    have : nE = if 40 < hi' + 1 then 40 else hi' + 1 := hnE
    split at this <;> omega
  have is := @slV_is Ls 1 Ls.e (numL t.C t.T x9)
  obtain ⟨kv, hkv⟩ : ∃ kv, kv = slV 1 Ls.e (numL t.C t.T x9) := ⟨_, rfl⟩
  rw [← hkv] at is c33
  refine Iso_of (es _ _ _ _) e4 ?_
  simp only [f4, trV]
  simp (disch := first | assumption | omega | (simp only [az]; done)) only [ru, eq_self, if_true, if_false, BEq.rfl, binI, AO.row?, splice, fillL, mmAll, loadV, storeV, zeros, Am.rowAt, Am.part, addOff, Nat.reduceAdd, Nat.reduceMul, Nat.reduceLeDiff, Nat.reduceSub, Nat.reduceLT, Int.reduceEq, Int.reduceLT, Int.reduceLE, Int.reduceGT, Int.reduceGE, Int.reduceAdd, Int.reduceSub, Int.reduceMul, Int.reduceNeg, Int.reduceToNat, reduceCtorEq, reduceIte, lenV_sl ho, elem_sl Ls.el ho, view_sl ho, scalar_sl ho, cells_sl ho, pure_sl ho, lenV_sl hw, elem_sl Wd.el hw, view_sl hw, scalar_sl hw, cells_sl hw, pure_sl hw, lenV_sl is, elem_sl Ls.el is, view_sl is, scalar_sl is, cells_sl is, pure_sl is, c16, l8', c31, c32, c33, n1, n2, n3, w1, ← hn0, gUn]
  refine G_loop_ind (fun z ts hk mk => ∃ (n : Int), 0 ≤ n ∧ n ≤ 41 ∧ z = (nE + 1 - n).toNat ∧ ts.length = 145 ∧ ts.getD 2 .undef = .ptr 0 0 ∧ ts.getD 3 .undef = .ptr 1 0 ∧ ts.getD 5 .undef = .ptr 2 0 ∧ ts.getD 9 .undef = I n ∧
    hk = [.cells [I t.ch, I t.tm, o, w] false, .cells [I i, I c] false, .cells [I lo, I hi'] false] ∧ mk = []) ?_ _ _ _ _
    ⟨n0, by omega, by omega, rfl, rfl, rfl, rfl, rfl, rfl, rfl, rfl⟩
  rintro z ts hk mk ih ⟨n, m0, m1, rfl, hl, q2, q3, q5, q9, rfl, rfl⟩
  rw [lit_all hl]
  simp only [lit0, litS, Nat.reduceAdd, q2, q3, q5, q9]
  simp (disch := first | assumption | omega | (simp only [az]; done)) only [ru, eq_self, if_true, if_false, BEq.rfl, binI, AO.row?, splice, fillL, mmAll, loadV, storeV, zeros, Am.rowAt, Am.part, addOff, Nat.reduceAdd, Nat.reduceMul, Nat.reduceLeDiff, Nat.reduceSub, Nat.reduceLT, Int.reduceEq, Int.reduceLT, Int.reduceLE, Int.reduceGT, Int.reduceGE, Int.reduceAdd, Int.reduceSub, Int.reduceMul, Int.reduceNeg, Int.reduceToNat, reduceCtorEq, reduceIte, w2, ← hnE]
  by_cases hlt : n ≤ nE
  case neg =>
    simp (disch := first | assumption | omega | (simp only [az]; done)) only [ru, eq_self, if_true, if_false, BEq.rfl, binI, AO.row?, splice, fillL, mmAll, loadV, storeV, zeros, Am.rowAt, Am.part, addOff, Nat.reduceAdd, Nat.reduceMul, Nat.reduceLeDiff, Nat.reduceSub, Nat.reduceLT, Int.reduceEq, Int.reduceLT, Int.reduceLE, Int.reduceGT, Int.reduceGE, Int.reduceAdd, Int.reduceSub, Int.reduceMul, Int.reduceNeg, Int.reduceToNat, reduceCtorEq, reduceIte, hlt, d19]
  have hn40 : n ≤ 40 := by omega
  have wn : wr .i64 (n + 1) = n + 1 := wr64 (by omega) (by omega)
  by_cases g1 : n > lo ∧ n < hi'
  · have g2 := g1.1; have g3 := g1.2
    simp (disch := first | assumption | omega | (simp only [az]; done)) only [ru, eq_self, if_true, if_false, BEq.rfl, binI, AO.row?, splice, fillL, mmAll, loadV, storeV, zeros, Am.rowAt, Am.part, addOff, Nat.reduceAdd, Nat.reduceMul, Nat.reduceLeDiff, Nat.reduceSub, Nat.reduceLT, Int.reduceEq, Int.reduceLT, Int.reduceLE, Int.reduceGT, Int.reduceGE, Int.reduceAdd, Int.reduceSub, Int.reduceMul, Int.reduceNeg, Int.reduceToNat, reduceCtorEq, reduceIte, hlt, g2, g3, wn, gUn]
    exact ih _ _ _ _ (by omega) ⟨n + 1, by omega, by omega, rfl, rfl, rfl, rfl, rfl, rfl, rfl, rfl⟩
  obtain ⟨y, hy⟩ : ∃ y : Wd, y = ⟨i, c, n, n⟩ := ⟨_, rfl⟩
  have hyf : fitB t y = true := by
    rw [hy]
    simp only [fitB, placeB, Bool.and_eq_true, decide_eq_true_eq]; omega
  have c34 := s34 H (by omega) i c n
  rw [← hy] at c34
  have HA := add_ok H (by omega) y
  have VA : (t.add y).valid = true := trb_valid (add_trb V h8 hyf) (by simp [Trap.add]; omega)
  have VAc : (t.add y).cp.valid = true := cp_valid.trans VA
  refine (s33 HA).elim fun kw h => h.elim fun f2 h => ?_
  have c33b := h.1
  have A3 := h.2
  clear h
  have hq := HA.o
  have hq' := HA.w
  have c34' : ∀ u1 u2 : AV, u1 = cpO (t.add y).op → u2 = slV 4 Wd.e (t.add y).ws → Iso E 34 [.agg [I t.ch, I t.tm, o, w], .agg [I i, I c], I n] false = some (.agg [I t.ch, I t.tm, u1, u2]) := by rintro _ _ rfl rfl; exact c34
  have c33c : ∀ u1 u2 : AV, u1 = cpO (t.add y).op → u2 = slV 4 Wd.e (t.add y).ws → ∀ st, Iso E 33 [.agg [I t.ch, I t.tm, u1, u2]] st = some (.tup [kw, I f2]) := by rintro _ _ rfl rfl; exact c33b
  generalize eo : cpO (t.add y).op = o' at hq c34' c33c
  generalize ew : slV 4 Wd.e (t.add y).ws = w' at hq' c34' c33c
  have d34 := c34' _ _ rfl rfl
  have d33 := c33c _ _ rfl rfl
  clear c34' c33c c33b c34 HA
  have gin : ∀ x, Tr (t.add y) x ↔ Tr t x ∧ gap t.C x i c = n := fun x => by
    rw [tr_add, hy]
    unfold saysW
    simp only [Int.toNat_natCast]
    constructor
    · rintro ⟨h1, h2, h3⟩; exact ⟨h1, by omega⟩
    · rintro ⟨h1, h2⟩; exact ⟨h1, by omega, by omega⟩
  by_cases g4 : lo ≤ n ∧ n ≤ hi'
  · have fx : ∃ x, f2 = 0 ∧ kw = slV 1 Ls.e (numL t.C t.T x) ∧ Tr t x ∧ gap t.C x i c = n := by
      cases A3 with
      | bad hb => rw [VAc] at hb; cases hb
      | none _ hb =>
        obtain ⟨x, hx, e⟩ := midG H V hi hc X g4.1 g4.2
        have := tr_cp.2 ((gin x).2 ⟨hx, e⟩)
        exact absurd ⟨x, this.1, this.2⟩ hb
      | @ok x _ hx => exact ⟨x, rfl, rfl, (gin x).1 (tr_cp.1 hx)⟩
    refine fx.elim fun x h => ?_
    obtain ⟨rfl, rfl, tx, gx⟩ := h
    have is2 := @slV_is Ls 1 Ls.e (numL t.C t.T x)
    have nl : (numL t.C t.T x).length = t.T := numL_len
    refine (s18 H hv is2 (by omega) (by
      intro u hu
      unfold numL at hu
      obtain ⟨j, _, rfl⟩ := List.mem_map.1 hu
      rw [Ls.of_list, rowG_len]; omega)).elim fun b h => ?_
    have c18 := h.1
    have hb : b = true := h.2.2 (tr_num V tx)
    subst hb
    clear h
    have c17 := fun st => s17 is2 st
    rw [num_huge (by omega) (by omega)] at c17
    generalize ek : slV 1 Ls.e (numL t.C t.T x) = kz at is2 c18 c17 d33
    have i0 : (0 : Int) ≤ i := by omega
    have c0 : (0 : Int) ≤ c := by omega
    have i1 : (i : Int) < ((numL t.C t.T x).length : Nat) := by omega
    have at1 := numL_at (C := t.C) (x := x) hi
    obtain ⟨u, hu⟩ : ∃ u : Ls, u = ⟨rowG t.C x i, false⟩ := ⟨_, rfl⟩
    rw [← hu] at at1
    have ul : u.list = rowG t.C x i := by rw [hu]; rfl
    have c1 : (c : Int) < (u.list.length : Nat) := by rw [ul, rowG_len]; omega
    have cg : u.list.getD c default = n := by
      rw [ul, ← gx]
      exact rowG_at hc
    have h1 := g4.1; have h2 := g4.2
    have ne : (n != n) = false := by simp
    simp only [trV] at c18
    by_cases g2 : n > lo
    · have g3 : ¬ n < hi' := fun h => g1 ⟨g2, h⟩
      simp (disch := first | assumption | omega | (simp only [az]; done)) only [ru, eq_self, if_true, if_false, BEq.rfl, binI, AO.row?, splice, fillL, mmAll, loadV, storeV, zeros, Am.rowAt, Am.part, addOff, Nat.reduceAdd, Nat.reduceMul, Nat.reduceLeDiff, Nat.reduceSub, Nat.reduceLT, Int.reduceEq, Int.reduceLT, Int.reduceLE, Int.reduceGT, Int.reduceGE, Int.reduceAdd, Int.reduceSub, Int.reduceMul, Int.reduceNeg, Int.reduceToNat, reduceCtorEq, reduceIte, hlt, g2, g3, wn, d34, lenV_sl hq, elem_sl Ls.el hq, view_sl hq, scalar_sl hq, cells_sl hq, pure_sl hq, lenV_sl hq', elem_sl Wd.el hq', view_sl hq', scalar_sl hq', cells_sl hq', pure_sl hq', d33, lenV_sl is2, elem_sl Ls.el is2, view_sl is2, scalar_sl is2, cells_sl is2, pure_sl is2, s26, h1, h2, c17, ho, lenV_sl ho, elem_sl Ls.el ho, view_sl ho, scalar_sl ho, cells_sl ho, pure_sl ho, lenV_sl hw, elem_sl Wd.el hw, view_sl hw, scalar_sl hw, cells_sl hw, pure_sl hw, c18, i0, c0, i1, at1, Ls.e, lenV_sl u.is, elem_sl intE u.is, view_sl u.is, scalar_sl u.is, cells_sl u.is, pure_sl u.is, Int.toNat_natCast, c1, cg, ne, gUn, decide_true, decide_false, Bool.and_self]
      exact ih _ _ _ _ (by omega) ⟨n + 1, by omega, by omega, rfl, rfl, rfl, rfl, rfl, rfl, rfl, rfl⟩
    · simp (disch := first | assumption | omega | (simp only [az]; done)) only [ru, eq_self, if_true, if_false, BEq.rfl, binI, AO.row?, splice, fillL, mmAll, loadV, storeV, zeros, Am.rowAt, Am.part, addOff, Nat.reduceAdd, Nat.reduceMul, Nat.reduceLeDiff, Nat.reduceSub, Nat.reduceLT, Int.reduceEq, Int.reduceLT, Int.reduceLE, Int.reduceGT, Int.reduceGE, Int.reduceAdd, Int.reduceSub, Int.reduceMul, Int.reduceNeg, Int.reduceToNat, reduceCtorEq, reduceIte, hlt, g2, wn, d34, lenV_sl hq, elem_sl Ls.el hq, view_sl hq, scalar_sl hq, cells_sl hq, pure_sl hq, lenV_sl hq', elem_sl Wd.el hq', view_sl hq', scalar_sl hq', cells_sl hq', pure_sl hq', d33, lenV_sl is2, elem_sl Ls.el is2, view_sl is2, scalar_sl is2, cells_sl is2, pure_sl is2, s26, h1, h2, c17, ho, lenV_sl ho, elem_sl Ls.el ho, view_sl ho, scalar_sl ho, cells_sl ho, pure_sl ho, lenV_sl hw, elem_sl Wd.el hw, view_sl hw, scalar_sl hw, cells_sl hw, pure_sl hw, c18, i0, c0, i1, at1, Ls.e, lenV_sl u.is, elem_sl intE u.is, view_sl u.is, scalar_sl u.is, cells_sl u.is, pure_sl u.is, Int.toNat_natCast, c1, cg, ne, gUn, decide_true, decide_false, Bool.and_self]
      exact ih _ _ _ _ (by omega) ⟨n + 1, by omega, by omega, rfl, rfl, rfl, rfl, rfl, rfl, rfl, rfl⟩
  · have fx : f2 = 3 ∧ kw = .nils := by
      cases A3 with
      | bad hb => rw [VAc] at hb; cases hb
      | none _ hb => exact ⟨rfl, rfl⟩
      | @ok x _ hx =>
        have := (gin x).1 (tr_cp.1 hx)
        have := xb x this.1
        omega
    obtain ⟨rfl, rfl⟩ := fx
    have hf1 : (decide (lo ≤ n) && decide (n ≤ hi')) = false := by
      rw [Bool.and_eq_false_iff, decide_eq_false_iff_not, decide_eq_false_iff_not]; omega
    by_cases g2 : n > lo
    · have g3 : ¬ n < hi' := fun h => g1 ⟨g2, h⟩
      simp (disch := first | assumption | omega | (simp only [az]; done)) only [ru, eq_self, if_true, if_false, BEq.rfl, binI, AO.row?, splice, fillL, mmAll, loadV, storeV, zeros, Am.rowAt, Am.part, addOff, Nat.reduceAdd, Nat.reduceMul, Nat.reduceLeDiff, Nat.reduceSub, Nat.reduceLT, Int.reduceEq, Int.reduceLT, Int.reduceLE, Int.reduceGT, Int.reduceGE, Int.reduceAdd, Int.reduceSub, Int.reduceMul, Int.reduceNeg, Int.reduceToNat, reduceCtorEq, reduceIte, hlt, g2, g3, wn, lenV_sl ho, elem_sl Ls.el ho, view_sl ho, scalar_sl ho, cells_sl ho, pure_sl ho, lenV_sl hw, elem_sl Wd.el hw, view_sl hw, scalar_sl hw, cells_sl hw, pure_sl hw, d34, lenV_sl hq, elem_sl Ls.el hq, view_sl hq, scalar_sl hq, cells_sl hq, pure_sl hq, lenV_sl hq', elem_sl Wd.el hq', view_sl hq', scalar_sl hq', cells_sl hq', pure_sl hq', d33, s26, hf1, gUn]
      exact ih _ _ _ _ (by omega) ⟨n + 1, by omega, by omega, rfl, rfl, rfl, rfl, rfl, rfl, rfl, rfl⟩
    · simp (disch := first | assumption | omega | (simp only [az]; done)) only [ru, eq_self, if_true, if_false, BEq.rfl, binI, AO.row?, splice, fillL, mmAll, loadV, storeV, zeros, Am.rowAt, Am.part, addOff, Nat.reduceAdd, Nat.reduceMul, Nat.reduceLeDiff, Nat.reduceSub, Nat.reduceLT, Int.reduceEq, Int.reduceLT, Int.reduceLE, Int.reduceGT, Int.reduceGE, Int.reduceAdd, Int.reduceSub, Int.reduceMul, Int.reduceNeg, Int.reduceToNat, reduceCtorEq, reduceIte, hlt, g2, wn, lenV_sl ho, elem_sl Ls.el ho, view_sl ho, scalar_sl ho, cells_sl ho, pure_sl ho, lenV_sl hw, elem_sl Wd.el hw, view_sl hw, scalar_sl hw, cells_sl hw, pure_sl hw, d34, lenV_sl hq, elem_sl Ls.el hq, view_sl hq, scalar_sl hq, cells_sl hq, pure_sl hq, lenV_sl hq', elem_sl Wd.el hq', view_sl hq', scalar_sl hq', cells_sl hq', pure_sl hq', d33, s26, hf1, gUn]
      exact ih _ _ _ _ (by omega) ⟨n + 1, by omega, by omega, rfl, rfl, rfl, rfl, rfl, rfl, rfl, rfl⟩
end Go.Proofs.Ytjaaefdhdggnkaa.S

