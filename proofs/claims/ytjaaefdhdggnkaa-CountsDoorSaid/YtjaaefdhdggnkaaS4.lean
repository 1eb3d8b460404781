/-
The functions of both sides of stage 1, one after another (S4).
-/
import Derived.Test.YtjaaefdhdggnkaaS3

/-
The laws of stage 1 on Fish and Whole, and on Came and Passed.
-/
namespace Go.Proofs.Ytjaaefdhdggnkaa.S
open Go Go.Am Go.Proofs.Ytjaaefdhdggnkaa.T
set_option maxRecDepth 100000
set_option linter.unusedSimpArgs false
set_option linter.unusedVariables false

end Go.Proofs.Ytjaaefdhdggnkaa.S

/-
What the reference answers: Judge and Enough; the law on them.
-/
namespace Go.Proofs.Ytjaaefdhdggnkaa.S
open Go Go.Am Go.Proofs.Ytjaaefdhdggnkaa.T
set_option maxRecDepth 100000
set_option linter.unusedSimpArgs false
set_option linter.unusedVariables false

/-! what is asked of a copy -/
theorem KnR.map {t : Trap} {fit fit' : Bool} {e : Int} (K : KnR t fit e) (h : t.valid = true → fit' = fit) : KnR t fit' e := by
  cases K with
  | bad hv => exact .bad hv
  | arg hv hf => exact .arg hv ((h hv).trans hf)
  | none hv hf hn => exact .none hv ((h hv).trans hf) hn
  | ok hv hf hs => exact .ok hv ((h hv).trans hf) hs
theorem isW_val {t : Trap} (hv : t.valid = true) (y : Wd) : fitB t y = isW t y := by
  have V := valid_trb hv
  exact (isW_fit (inR_iff.2 ⟨V.c0, V.c1⟩) (inR_iff.2 ⟨V.t0, V.t1⟩)).symm

end Go.Proofs.Ytjaaefdhdggnkaa.S

/-
Whether a trap is ready; the law of time.
-/
namespace Go.Proofs.Ytjaaefdhdggnkaa.S
open Go Go.Am Go.Proofs.Ytjaaefdhdggnkaa.T
set_option maxRecDepth 100000
set_option linter.unusedSimpArgs false
set_option linter.unusedVariables false

def rdy (t : Trap) : Bool := !t.huge && t.valid
theorem s16 {t : Trap} {o w : AV} (H0 : TrIn t o w) (st : Bool) : Iso E 16 [trV t o w] st = some (Bo (rdy t)) := by
  have ho := H0.o
  have hw := H0.w
  have c53 := fun st => s53 H0 st
  unfold rdy
  cases hg : t.huge
  case true =>
    refine Iso_of (es _ _ _ _) e16 ?_
    simp only [f16, trV, hg] at c53 ⊢
    simp (disch := first | assumption | omega | (simp only [az]; done)) only [ru, eq_self, if_true, if_false, BEq.rfl, binI, AO.row?, splice, fillL, mmAll, loadV, storeV, zeros, Am.rowAt, Am.part, addOff, Nat.reduceAdd, Nat.reduceMul, Nat.reduceLeDiff, Nat.reduceSub, Nat.reduceLT, Int.reduceEq, Int.reduceLT, Int.reduceLE, Int.reduceGT, Int.reduceGE, Int.reduceAdd, Int.reduceSub, Int.reduceMul, Int.reduceNeg, Int.reduceToNat, reduceCtorEq, reduceIte, lenV_sl ho, elem_sl Ls.el ho, view_sl ho, scalar_sl ho, cells_sl ho, pure_sl ho, lenV_sl hw, elem_sl Wd.el hw, view_sl hw, scalar_sl hw, cells_sl hw, pure_sl hw, c53, gUn, Bool.not_true, Bool.false_and]
  have c55 := fun st => s55 (H0.ok hg) st
  refine Iso_of (es _ _ _ _) e16 ?_
  simp only [f16, trV, hg, chkE] at c53 c55 ⊢
  cases hv : t.valid
  · simp only [hv, Bool.false_eq_true, if_false] at c55
    simp (disch := first | assumption | omega | (simp only [az]; done)) only [ru, eq_self, if_true, if_false, BEq.rfl, binI, AO.row?, splice, fillL, mmAll, loadV, storeV, zeros, Am.rowAt, Am.part, addOff, Nat.reduceAdd, Nat.reduceMul, Nat.reduceLeDiff, Nat.reduceSub, Nat.reduceLT, Int.reduceEq, Int.reduceLT, Int.reduceLE, Int.reduceGT, Int.reduceGE, Int.reduceAdd, Int.reduceSub, Int.reduceMul, Int.reduceNeg, Int.reduceToNat, reduceCtorEq, reduceIte, lenV_sl ho, elem_sl Ls.el ho, view_sl ho, scalar_sl ho, cells_sl ho, pure_sl ho, lenV_sl hw, elem_sl Wd.el hw, view_sl hw, scalar_sl hw, cells_sl hw, pure_sl hw, c53, c55, Bool.not_false, Bool.true_and]
  · simp only [hv, if_true] at c55
    simp (disch := first | assumption | omega | (simp only [az]; done)) only [ru, eq_self, if_true, if_false, BEq.rfl, binI, AO.row?, splice, fillL, mmAll, loadV, storeV, zeros, Am.rowAt, Am.part, addOff, Nat.reduceAdd, Nat.reduceMul, Nat.reduceLeDiff, Nat.reduceSub, Nat.reduceLT, Int.reduceEq, Int.reduceLT, Int.reduceLE, Int.reduceGT, Int.reduceGE, Int.reduceAdd, Int.reduceSub, Int.reduceMul, Int.reduceNeg, Int.reduceToNat, reduceCtorEq, reduceIte, lenV_sl ho, elem_sl Ls.el ho, view_sl ho, scalar_sl ho, cells_sl ho, pure_sl ho, lenV_sl hw, elem_sl Wd.el hw, view_sl hw, scalar_sl hw, cells_sl hw, pure_sl hw, c53, c55, Bool.not_false, Bool.true_and]
theorem rdy_h {t : Trap} (h : rdy t = true) : t.huge = false ∧ t.valid = true := by
  unfold rdy at h
  simpa using h
set_option maxHeartbeats 2000000 in
theorem s42 (a b c d : Int) (st : Bool) : Iso E 42 [.agg [I a, I b], .agg [I c, I d]] st = some (Bo (decide (c ≤ a) && decide (a ≤ b) && decide (b ≤ d))) := by
  refine Iso_of (es _ _ _ _) e42 ?_
  simp only [f42]
  by_cases h1 : c ≤ a <;> by_cases h2 : a ≤ b <;> by_cases h3 : b ≤ d <;> simp (disch := first | assumption | omega | (simp only [az]; done)) only [ru, eq_self, if_true, if_false, BEq.rfl, binI, AO.row?, splice, fillL, mmAll, loadV, storeV, zeros, Am.rowAt, Am.part, addOff, Nat.reduceAdd, Nat.reduceMul, Nat.reduceLeDiff, Nat.reduceSub, Nat.reduceLT, Int.reduceEq, Int.reduceLT, Int.reduceLE, Int.reduceGT, Int.reduceGE, Int.reduceAdd, Int.reduceSub, Int.reduceMul, Int.reduceNeg, Int.reduceToNat, reduceCtorEq, reduceIte, h1, h2, h3, gUn, decide_true, decide_false, Bool.and_self, Bool.and_false, Bool.and_true, Bool.false_and]

section
variable {t : Trap} {fit : Bool} {f : (Nat → Int) → Int} {lo hi e : Int}
theorem Ans.val (A : Ans t fit f lo hi e) (hv : t.valid = true) (hf : fit = true) (hs : Solv t.C t.T t) : e = 0 ∧ Xt t f lo hi := by
  cases A with
  | bad h => rw [hv] at h; cases h
  | arg _ h => rw [hf] at h; cases h
  | none _ _ h => exact absurd hs h
  | ok _ _ _ h => exact ⟨rfl, h⟩
theorem Ans.non (A : Ans t fit f lo hi e) (hv : t.valid = true) (hf : fit = true) (hs : ¬ Solv t.C t.T t) : lo = 0 ∧ hi = 0 ∧ e = 3 := by
  cases A with
  | bad h => rw [hv] at h; cases h
  | arg _ h => rw [hf] at h; cases h
  | none _ _ h => exact ⟨rfl, rfl, rfl⟩
  | ok _ _ h _ => exact absurd h hs
end

end Go.Proofs.Ytjaaefdhdggnkaa.S

/-
Fish of all chambers at all times.
-/
namespace Go.Proofs.Ytjaaefdhdggnkaa.S
open Go Go.Am Go.Proofs.Ytjaaefdhdggnkaa.T
set_option maxRecDepth 100000
set_option linter.unusedSimpArgs false
set_option linter.unusedVariables false

/-- spans, row by row -/
def spRow (C : Nat) (S : Nat → Nat → Spn) (i : Nat) : List Spn := (List.range C).map fun c => S i c
def encR (r : List Spn) : List AV := [slV 2 Spn.e r]
def spR (C T : Nat) (S : Nat → Nat → Spn) : List (List Spn) := (List.range T).map fun i => spRow C S i
def spV (C T : Nat) (S : Nat → Nat → Spn) : AV := slV 1 encR (spR C T S)
theorem spRow_len {C i : Nat} {S : Nat → Nat → Spn} : (spRow C S i).length = C := by simp [spRow]
theorem spR_len {C T : Nat} {S : Nat → Nat → Spn} : (spR C T S).length = T := by simp [spR]
theorem encR_len (r : List Spn) : (encR r).length = 1 := rfl
theorem spR_at {C T i : Nat} {S : Nat → Nat → Spn} (hi : i < T) : (spR C T S).getD i default = spRow C S i := by
  simp [spR, List.getD_eq_getElem?_getD, hi]
theorem spRow_at {C i c : Nat} {S : Nat → Nat → Spn} (hc : c < C) : (spRow C S i).getD c default = S i c := by
  simp [spRow, List.getD_eq_getElem?_getD, hc]
theorem spRow_succ {i c : Nat} {S : Nat → Nat → Spn} : (spRow (c + 1) S i).flatMap Spn.e = (spRow c S i).flatMap Spn.e ++ [I (S i c).lo, I (S i c).hi] := by
  unfold spRow
  rw [List.range_succ, List.map_append, List.flatMap_append]
  rfl
theorem sps_view {st : Bool} {h : List AO} {n : Nat} (l : List Spn) : (l.flatMap Spn.e).mapM (view st h n) = some (l.flatMap Spn.e) := by
  induction l with
  | nil => rfl
  | cons a l ih =>
    show (I a.lo :: I a.hi :: l.flatMap Spn.e).mapM (view st h n) = _
    simp only [List.mapM_cons, view_int, ih]; rfl
/-- as they lie in the heap -/
def SpsH (h : List AO) (v : AV) (C i : Nat) (S : Nat → Nat → Spn) : Prop :=
  (i = 0 ∧ v = .nils) ∨ (0 < i ∧ ∃ o vs, v = .ms 1 o 0 i ∧ h[o]? = some (.cells vs false) ∧ vs.length = i ∧ ∀ j, j < i → ∃ p, p ≠ o ∧ vs.getD j .undef = .ms 2 p 0 C ∧ h[p]? = some (.cells ((spRow C S j).flatMap Spn.e) false))
theorem SpsH.sc {h : List AO} {v : AV} {C i : Nat} {S : Nat → Nat → Spn} (H : SpsH h v C i S) : v.scalar = true ∧ v.cells = [v] := by
  rcases H with ⟨_, rfl⟩ | ⟨_, o, vs, rfl, _⟩ <;> exact ⟨rfl, rfl⟩
theorem SpsH.fr {h h' : List AO} {v : AV} {C i : Nat} {S : Nat → Nat → Spn} (H : SpsH h v C i S) (hf : ∀ k, k < h.length → h'[k]? = h[k]?) : SpsH h' v C i S := by
  rcases H with H | ⟨h0, o, vs, h1, ho, hl, hr⟩
  · exact .inl H
  · refine .inr ⟨h0, o, vs, h1, by rw [hf o (List.getElem?_eq_some_iff.1 ho).1]; exact ho, hl, fun j hj => ?_⟩
    obtain ⟨p, p1, e, hp⟩ := hr j hj
    exact ⟨p, p1, e, by rw [hf p (List.getElem?_eq_some_iff.1 hp).1]; exact hp⟩
theorem SpsH.view {h : List AO} {v : AV} {C T : Nat} {S : Nat → Nat → Spn} (H : SpsH h v C T S) (hT : 0 < T) (n : Nat) (st : Bool) : view st h (n + 2) v = some (spV C T S) := by
  rcases H with ⟨h0, _⟩ | ⟨h0, o, vs, rfl, ho, hl, hr⟩
  · omega
  rw [view_ms, rowOf_ms]
  simp only [Am.rowAt, ho, Option.bind_some, AO.row?, List.drop_zero]
  rw [List.take_of_length_le (by omega), if_pos (by omega)]
  have hf : ((spR C T S).flatMap encR).length = T := by rw [flat_len encR_len, spR_len, Nat.mul_one]
  have hm : vs.mapM (Am.view st h (n + 1)) = some ((spR C T S).flatMap encR) := by
    refine mapM_get (by omega) fun i hi => ?_
    have hi' : i < T := by omega
    obtain ⟨p, _, e, hp⟩ := hr i hi'
    rw [e, view_ms, rowOf_ms]
    simp only [Am.rowAt, hp, Option.bind_some, AO.row?, List.drop_zero]
    have fl : ((spRow C S i).flatMap Spn.e).length = C * 2 := by rw [flat_len Spn.el, spRow_len]
    rw [List.take_of_length_le (by omega), if_pos fl]
    simp only [sps_view, Option.map_some]
    have hc : i < (spR C T S).length := by rw [spR_len]; exact hi'
    have := flat_at encR_len (spR C T S) i hc
    have e2 : (spR C T S)[i] = spRow C S i := by
      have := spR_at (S := S) (C := C) hi'
      rwa [List.getD_eq_getElem?_getD, List.getElem?_eq_getElem hc, Option.getD_some] at this
    rw [e2, Nat.mul_one] at this
    have e3 : ((spR C T S).flatMap encR).getD i .undef = slV 2 Spn.e (spRow C S i) := by
      have h4 : (((spR C T S).flatMap encR).drop i).head? = some (slV 2 Spn.e (spRow C S i)) := by
        have := congrArg List.head? this
        rw [List.head?_take] at this
        simpa [encR] using this
      rw [List.head?_drop] at h4
      rw [List.getD_eq_getElem?_getD, h4]; rfl
    rw [e3]
    simp only [slV, spRow_len]
  simp only [hm, Option.map_some, spV, slV, spR_len]

/-- the answers of Fish, by place -/
theorem fish_all {t : Trap} {o w : AV} (H : TrOk t o w) (hv : t.valid = true) (hs : Solv t.C t.T t) : ∃ S : Nat → Nat → Spn, ∀ i c, i < t.T → c < t.C →
    (∀ st, Iso E 32 [trV t o w, I i, I c] st = some (.tup [.agg [I (S i c).lo, I (S i c).hi], I 0])) ∧ Xt t (fun x => gap t.C x i c) (S i c).lo (S i c).hi := by
  have eC := eqC hv; have eT := eqT hv
  have key : ∀ i c : Nat, ∃ s : Spn, i < t.T → c < t.C → (∀ st, Iso E 32 [trV t o w, I i, I c] st = some (.tup [.agg [I s.lo, I s.hi], I 0])) ∧ Xt t (fun x => gap t.C x i c) s.lo s.hi := by
    intro i c
    obtain ⟨lo, hi, e, h, A⟩ := s32 H i c
    by_cases hp : i < t.T ∧ c < t.C
    · have p1 : placeB t i c = true := by simp only [placeB, Bool.and_eq_true, decide_eq_true_eq]; omega
      obtain ⟨rfl, X⟩ := A.val hv p1 hs
      exact ⟨⟨lo, hi⟩, fun _ _ => ⟨h, X⟩⟩
    · exact ⟨⟨0, 0⟩, fun a b => absurd ⟨a, b⟩ hp⟩
  exact ⟨fun i c => (key i c).choose, fun i c hi hc => (key i c).choose_spec hi hc⟩

set_option maxHeartbeats 2000000 in
theorem s20 {t : Trap} {o w : AV} (H : TrOk t o w) (hv : t.valid = true) {S : Nat → Nat → Spn} (hS : ∀ i c, i < t.T → c < t.C →
    (∀ st, Iso E 32 [trV t o w, I i, I c] st = some (.tup [.agg [I (S i c).lo, I (S i c).hi], I 0])) ∧ Xt t (fun x => gap t.C x i c) (S i c).lo (S i c).hi) : ∀ st, Iso E 20 [trV t o w] st = some (.tup [spV t.C t.T S, Bo true]) := by
  have V := valid_trb hv
  have v1 := V.c0; have v2 := V.c1; have v3 := V.t0; have v4 := V.t1
  have eC := eqC hv; have eT := eqT hv
  intro st
  suffices hR : ∃ r h', R E (.fn 20) [trV t o w] [] 0 = some (r, h') ∧ ∃ v, r = .tup [v, Bo true] ∧ SpsH h' v t.C t.T S by
    obtain ⟨r, h', hr, v, rfl, hp⟩ := hR
    simp only [Iso, hr]
    show (([v, Bo true].mapM (view st h' 7)).map AV.tup) = _
    have := hp.view (by omega) 5 st
    simp only [List.mapM_cons, List.mapM_nil, this, view_bool]
    rfl
  refine R_of (f := 20) (fun r h' => ∃ v, r = .tup [v, Bo true] ∧ SpsH h' v t.C t.T S) (es _ _ _ _) e20 ?_
  simp only [f20, trV]
  simp (disch := first | assumption | omega | (simp only [az]; done)) only [ru, eq_self, if_true, if_false, BEq.rfl, binI, AO.row?, splice, fillL, mmAll, loadV, storeV, zeros, Am.rowAt, Am.part, addOff, Nat.reduceAdd, Nat.reduceMul, Nat.reduceLeDiff, Nat.reduceSub, Nat.reduceLT, Int.reduceEq, Int.reduceLT, Int.reduceLE, Int.reduceGT, Int.reduceGE, Int.reduceAdd, Int.reduceSub, Int.reduceMul, Int.reduceNeg, Int.reduceToNat, reduceCtorEq, reduceIte, lenV_sl H.o, lenV_sl H.w, elem_sl Ls.el H.o, elem_sl Wd.el H.w, view_sl H.o, view_sl H.w, scalar_sl H.o, scalar_sl H.w, cells_sl H.o, cells_sl H.w, pure_sl H.o, pure_sl H.w, Int.toNat_natCast]
  refine G_loop_ind (fun q ts hk mk => ∃ (i : Nat) (v : AV), i ≤ t.T ∧ q = t.T - i ∧ ts.length = 57 ∧ ts.getD 1 .undef = .ptr 0 0 ∧ ts.getD 4 .undef = v ∧ ts.getD 5 .undef = I i ∧ 1 ≤ hk.length ∧ hk[0]? = some (.cells [I t.ch, I t.tm, o, w] false) ∧ SpsH hk v t.C i S ∧ mk = []) ?_ _ _ _ _
    ⟨0, .nils, Nat.zero_le _, rfl, rfl, rfl, rfl, rfl, by simp, rfl, .inl ⟨rfl, rfl⟩, rfl⟩
  rintro q ts hk mk ih ⟨i, v, hi, rfl, hl, q1, q4, q5, hg, k0, HS, rfl⟩
  rw [lit_all hl]
  simp only [lit0, litS, Nat.reduceAdd, q1, q4, q5]
  simp (disch := first | assumption | omega | (simp only [az]; done)) only [ru, eq_self, if_true, if_false, BEq.rfl, binI, AO.row?, splice, fillL, mmAll, loadV, storeV, zeros, Am.rowAt, Am.part, addOff, Nat.reduceAdd, Nat.reduceMul, Nat.reduceLeDiff, Nat.reduceSub, Nat.reduceLT, Int.reduceEq, Int.reduceLT, Int.reduceLE, Int.reduceGT, Int.reduceGE, Int.reduceAdd, Int.reduceSub, Int.reduceMul, Int.reduceNeg, Int.reduceToNat, reduceCtorEq, reduceIte, k0]
  by_cases hlt : (i : Int) < t.tm
  case neg =>
    have hi3 : i = t.T := by omega
    subst hi3
    simp (disch := first | assumption | omega | (simp only [az]; done)) only [ru, eq_self, if_true, if_false, BEq.rfl, binI, AO.row?, splice, fillL, mmAll, loadV, storeV, zeros, Am.rowAt, Am.part, addOff, Nat.reduceAdd, Nat.reduceMul, Nat.reduceLeDiff, Nat.reduceSub, Nat.reduceLT, Int.reduceEq, Int.reduceLT, Int.reduceLE, Int.reduceGT, Int.reduceGE, Int.reduceAdd, Int.reduceSub, Int.reduceMul, Int.reduceNeg, Int.reduceToNat, reduceCtorEq, reduceIte, hlt]
    exact ⟨v, rfl, HS⟩
  have hi2 : i < t.T := by omega
  simp (disch := first | assumption | omega | (simp only [az]; done)) only [ru, eq_self, if_true, if_false, BEq.rfl, binI, AO.row?, splice, fillL, mmAll, loadV, storeV, zeros, Am.rowAt, Am.part, addOff, Nat.reduceAdd, Nat.reduceMul, Nat.reduceLeDiff, Nat.reduceSub, Nat.reduceLT, Int.reduceEq, Int.reduceLT, Int.reduceLE, Int.reduceGT, Int.reduceGE, Int.reduceAdd, Int.reduceSub, Int.reduceMul, Int.reduceNeg, Int.reduceToNat, reduceCtorEq, reduceIte, hlt]
  clear hl q1 q4 q5
  refine G_loop_ind (fun q ts hh mk => ∃ (c : Nat) (l : AV), c ≤ t.C ∧ q = t.C - c ∧ ts.length = 57 ∧ ts.getD 1 .undef = .ptr 0 0 ∧ ts.getD 4 .undef = v ∧ ts.getD 5 .undef = I i ∧ ts.getD 6 .undef = l ∧ ts.getD 7 .undef = I c ∧ hk.length ≤ hh.length ∧ (∀ k, k < hk.length → hh[k]? = hk[k]?) ∧
    ((c = 0 ∧ l = .nils) ∨ (0 < c ∧ ∃ p, hk.length ≤ p ∧ l = .ms 2 p 0 c ∧ hh[p]? = some (.cells ((spRow c S i).flatMap Spn.e) false))) ∧ mk = []) ?_ _ _ _ _
    ⟨0, .nils, Nat.zero_le _, rfl, rfl, rfl, rfl, rfl, rfl, rfl, Nat.le_refl _, fun _ _ => rfl, .inl ⟨rfl, rfl⟩, rfl⟩
  rintro q ts hh mk ihC ⟨c, l, hc, rfl, hl, q1, q4, q5, q6, q7, hgg, fr, hL, rfl⟩
  rw [lit_all hl]
  simp only [lit0, litS, Nat.reduceAdd, q1, q4, q5, q6, q7]
  have f0 : hh[0]? = some (.cells [I t.ch, I t.tm, o, w] false) := by rw [fr 0 (by omega)]; exact k0
  simp (disch := first | assumption | omega | (simp only [az]; done)) only [ru, eq_self, if_true, if_false, BEq.rfl, binI, AO.row?, splice, fillL, mmAll, loadV, storeV, zeros, Am.rowAt, Am.part, addOff, Nat.reduceAdd, Nat.reduceMul, Nat.reduceLeDiff, Nat.reduceSub, Nat.reduceLT, Int.reduceEq, Int.reduceLT, Int.reduceLE, Int.reduceGT, Int.reduceGE, Int.reduceAdd, Int.reduceSub, Int.reduceMul, Int.reduceNeg, Int.reduceToNat, reduceCtorEq, reduceIte, f0]
  by_cases hlc : (c : Int) < t.ch
  case neg =>
    have hc3 : c = t.C := by omega
    rcases hL with ⟨h1, _⟩ | ⟨h1, p, h2, rfl, h3⟩
    · omega
    subst hc3
    obtain ⟨z, hz⟩ : ∃ z, z = AV.ms 2 p 0 t.C := ⟨_, rfl⟩
    have zs : z.scalar = true ∧ z.cells = [z] := by rw [hz]; exact ⟨rfl, rfl⟩
    rw [← hz]
    have hr : Am.rowOf (hh ++ [AO.cells [z] false]) (.ms 1 hh.length 0 1) = some [z] := by rw [rowOf_ms]; simp only [Am.rowAt, atT0]; rfl
    have zs2 : [z].all AV.scalar = true := by simp [zs.1]
    have pl := (List.getElem?_eq_some_iff.1 h3).1
    have key : ∃ v' h', appV 0 (hh ++ [AO.cells [z] false]) 1 24 v (.ms 1 hh.length 0 1) = some (v', h') ∧ hh.length < h'.length ∧ h'[0]? = some (.cells [I t.ch, I t.tm, o, w] false) ∧ SpsH h' v' t.C (i + 1) S := by
      rcases HS with ⟨e1, rfl⟩ | ⟨e0, o', vs, rfl, a4, a5, a6⟩
      · subst e1
        have ev := appV_nil (lim := 0) (esz := 1) (eb := 24) (n := 1) (x := .ms 1 hh.length 0 1) rfl hr rfl zs2 (by omega) (by omega)
        rw [if_neg (by omega)] at ev
        refine ⟨_, _, ev, by simp <;> omega, ?_, .inr ⟨by omega, (hh ++ [AO.cells [z] false]).length, [z], rfl, by rw [atT0]; rfl, rfl, fun j hj => ?_⟩⟩
        · rw [at_ap (by simp), at_ap (by omega)]; exact f0
        · obtain rfl : j = 0 := by omega
          exact ⟨p, by simp; omega, hz, by rw [at_ap (by simp; omega), at_ap pl]; exact h3⟩
      · have o2 := (List.getElem?_eq_some_iff.1 a4).1
        have go : (hh ++ [AO.cells [z] false])[o']? = some (.cells vs false) := by rw [at_ap (by omega), fr o' o2]; exact a4
        have ev := appV_ms (lim := 0) (esz := 1) (eb := 24) (n := 1) (len := i) (x := .ms 1 hh.length 0 1) go (by omega) rfl hr rfl zs2 (by omega) (by omega) (Nat.zero_le _)
        rw [if_neg (by omega)] at ev
        have o0 : o' ≠ 0 := fun e => by
          subst e
          rw [k0] at a4
          simp only [Option.some.injEq, AO.cells.injEq, and_true] at a4
          obtain ⟨p', _, e2, _⟩ := a6 0 e0
          rw [← a4] at e2
          cases e2
        refine ⟨_, _, ev, by simp <;> omega, ?_, .inr ⟨by omega, (hh ++ [AO.cells [z] false]).length, vs ++ [z], rfl, by rw [show (hh ++ [AO.cells [z] false]).length = ((hh ++ [AO.cells [z] false]).set o' .tomb).length by simp, atT0]; rfl, by simp [a5], fun j hj => ?_⟩⟩
        · rw [at_ap (by simp), List.getElem?_set_ne (by omega), at_ap (by omega)]; exact f0
        · by_cases e : j = i
          · subst e
            refine ⟨p, by simp; omega, ?_, ?_⟩
            · rw [← hz, ← a5, getT0]; rfl
            · rw [at_ap (by simp; omega), List.getElem?_set_ne (by omega), at_ap pl]; exact h3
          · obtain ⟨p', b1, b2, b3⟩ := a6 j (by omega)
            have p2 := (List.getElem?_eq_some_iff.1 b3).1
            refine ⟨p', by simp; omega, ?_, ?_⟩
            · rw [← b2, List.getD_eq_getElem?_getD, List.getElem?_append_left (by omega), ← List.getD_eq_getElem?_getD]
            · rw [at_ap (by simp; omega), List.getElem?_set_ne (by omega), at_ap (by omega), fr p' p2]; exact b3
    refine key.elim fun v' hh' => hh'.elim fun h' hh' => ?_
    have c1 := hh'.1
    have c2 := hh'.2.1
    have c3 := hh'.2.2.1
    have c4 := hh'.2.2.2
    clear hh' key
    simp (disch := first | assumption | omega | (simp only [az]; done)) only [ru, eq_self, if_true, if_false, BEq.rfl, binI, AO.row?, splice, fillL, mmAll, loadV, storeV, zeros, Am.rowAt, Am.part, addOff, Nat.reduceAdd, Nat.reduceMul, Nat.reduceLeDiff, Nat.reduceSub, Nat.reduceLT, Int.reduceEq, Int.reduceLT, Int.reduceLE, Int.reduceGT, Int.reduceGE, Int.reduceAdd, Int.reduceSub, Int.reduceMul, Int.reduceNeg, Int.reduceToNat, reduceCtorEq, reduceIte, hlc, zs.1, zs.2, c1]
    exact ih (t.T - (i + 1)) _ _ _ (by omega) ⟨i + 1, v', by omega, rfl, rfl, rfl, rfl, rfl, by omega, c3, c4, rfl⟩
  have hc2 : c < t.C := by omega
  have c32 := (hS i c hi2 hc2).1
  have bd := xt_bd hi2 hc2 (hS i c hi2 hc2).2
  simp only [trV] at c32
  have b1 : ¬ (S i c).lo < 0 := by omega
  have b2 : ¬ (S i c).lo > (S i c).hi := by omega
  have b3 : ¬ (S i c).hi > 40 := by omega
  obtain ⟨lo, hlo⟩ : ∃ lo, lo = (S i c).lo := ⟨_, rfl⟩
  obtain ⟨hi', hhi⟩ : ∃ hi', hi' = (S i c).hi := ⟨_, rfl⟩
  have key : ∃ l' h', appV 0 (hh ++ [AO.cells [I lo, I hi'] false, AO.cells [I lo, I hi'] false]) 2 16 l (.ms 2 (hh.length + 1) 0 1) = some (l', h') ∧ hk.length ≤ h'.length ∧ (∀ k, k < hk.length → h'[k]? = hk[k]?) ∧
      ∃ p, hk.length ≤ p ∧ l' = .ms 2 p 0 (c + 1) ∧ h'[p]? = some (.cells ((spRow (c + 1) S i).flatMap Spn.e) false) := by
    obtain ⟨G0, hG0⟩ : ∃ G0 : List AO, G0 = hh ++ [AO.cells [I lo, I hi'] false, AO.cells [I lo, I hi'] false] := ⟨_, rfl⟩
    rw [← hG0]
    have gl : G0.length = hh.length + 2 := by rw [hG0]; simp
    have gk : ∀ k, k < hh.length → G0[k]? = hh[k]? := fun k hk' => by rw [hG0, at_ap hk']
    have g1 : G0[hh.length + 1]? = some (.cells [I lo, I hi'] false) := by rw [hG0, atT]; rfl
    have hr : Am.rowOf G0 (.ms 2 (hh.length + 1) 0 1) = some [I lo, I hi'] := by rw [rowOf_ms]; simp only [Am.rowAt, g1]; rfl
    rcases hL with ⟨e1, rfl⟩ | ⟨e0, p, p1, rfl, p3⟩
    · subst e1
      have ev := appV_nil (lim := 0) (esz := 2) (eb := 16) (n := 1) (x := .ms 2 (hh.length + 1) 0 1) rfl hr rfl rfl (by omega) (by omega)
      rw [if_neg (by omega)] at ev
      refine ⟨_, _, ev, by simp; omega, fun k hk' => ?_, G0.length, by omega, rfl, ?_⟩
      · rw [at_ap (by omega), gk k (by omega)]; exact fr k hk'
      · rw [atT0, spRow_succ, hlo, hhi]; rfl
    · have pl := (List.getElem?_eq_some_iff.1 p3).1
      have go : G0[p]? = some (.cells ((spRow c S i).flatMap Spn.e) false) := by rw [gk p pl]; exact p3
      have ev := appV_ms (lim := 0) (esz := 2) (eb := 16) (n := 1) (len := c) (x := .ms 2 (hh.length + 1) 0 1) go (by rw [flat_len Spn.el, spRow_len]) rfl hr rfl rfl (by omega) (by omega) (Nat.zero_le _)
      rw [if_neg (by omega)] at ev
      refine ⟨_, _, ev, by simp; omega, fun k hk' => ?_, G0.length, by omega, rfl, ?_⟩
      · rw [at_ap (by simp; omega), List.getElem?_set_ne (by omega), gk k (by omega)]; exact fr k hk'
      · rw [show G0.length = (G0.set p .tomb).length by simp, atT0, spRow_succ, hlo, hhi]; rfl
  refine key.elim fun l' hh' => hh'.elim fun h' hh' => ?_
  have d1 := hh'.1
  have d2 := hh'.2.1
  have d3 := hh'.2.2.1
  have d4 := hh'.2.2.2
  clear hh' key
  rw [← hlo, ← hhi] at b2
  rw [← hlo] at b1
  rw [← hhi] at b3
  simp only [← hlo, ← hhi] at c32
  simp (disch := first | assumption | omega | (simp only [az]; done)) only [ru, eq_self, if_true, if_false, BEq.rfl, binI, AO.row?, splice, fillL, mmAll, loadV, storeV, zeros, Am.rowAt, Am.part, addOff, Nat.reduceAdd, Nat.reduceMul, Nat.reduceLeDiff, Nat.reduceSub, Nat.reduceLT, Int.reduceEq, Int.reduceLT, Int.reduceLE, Int.reduceGT, Int.reduceGE, Int.reduceAdd, Int.reduceSub, Int.reduceMul, Int.reduceNeg, Int.reduceToNat, reduceCtorEq, reduceIte, lenV_sl H.o, lenV_sl H.w, elem_sl Ls.el H.o, elem_sl Wd.el H.w, view_sl H.o, view_sl H.w, scalar_sl H.o, scalar_sl H.w, cells_sl H.o, cells_sl H.w, pure_sl H.o, pure_sl H.w, Int.toNat_natCast, hlc, f0, c32, b1, b2, b3, gUn, List.append_assoc, List.cons_append, List.nil_append, lenE, setT, setT0, atT, atT0, getT, getT0, Nat.add_assoc, d1]
  exact ihC (t.C - (c + 1)) _ _ _ (by omega) ⟨c + 1, l', by omega, rfl, rfl, rfl, rfl, rfl, rfl, rfl, d2, d3, .inr ⟨by omega, d4⟩, rfl⟩
end Go.Proofs.Ytjaaefdhdggnkaa.S

/-
No span of a trap is wider than that of another one: narrower.
-/
namespace Go.Proofs.Ytjaaefdhdggnkaa.S
open Go Go.Am Go.Proofs.Ytjaaefdhdggnkaa.T
set_option maxRecDepth 100000
set_option linter.unusedSimpArgs false
set_option linter.unusedVariables false

theorem el_sp (l : List Spn) (i : Int) (h0 : 0 ≤ i) (h1 : i < l.length) : elemAt 2 (slV 2 Spn.e l) (I i) = some (.cptr (Spn.e (l.getD i.toNat default))) := elem_sl Spn.el slV_is i h0 h1
theorem xt_sub {a b : Trap} {f : (Nat → Int) → Int} {lo hi lo' hi' : Int} (X : Xt a f lo hi) (Y : Xt b f lo' hi') (sub : ∀ x, Tr a x → Tr b x) : lo' ≤ lo ∧ lo ≤ hi ∧ hi ≤ hi' := by
  obtain ⟨p, ⟨x, h1, h2⟩, y, h3, h4⟩ := xt_tr X
  obtain ⟨q, _⟩ := xt_tr Y
  have a1 := q x (sub x h1)
  have a2 := q y (sub y h3)
  have a3 := p x h1
  omega
/-- the answers of Whole and Passed, where there is a truth -/
theorem whole_at {t : Trap} {o w : AV} (H : TrOk t o w) (hv : t.valid = true) (hs : Solv t.C t.T t) {i : Nat} (hi : i < t.T) : ∃ lo hi, (∀ st, Iso E 23 [trV t o w, I i] st = some (.tup [.agg [I lo, I hi], I 0])) ∧ Xt t (fun x => x (sumN t.C i 0) - x 0) lo hi := by
  have eT := eqT hv
  obtain ⟨lo, hi, e, h, A⟩ := s23 H i
  obtain ⟨rfl, X⟩ := A.val hv (by simp only [timeB, Bool.and_eq_true, decide_eq_true_eq]; omega) hs
  exact ⟨lo, hi, h, X⟩
theorem passed_at {t : Trap} {o w : AV} (H : TrOk t o w) (hv : t.valid = true) (hs : Solv t.C t.T t) {i c : Nat} (hi : i + 1 < t.T) (hc : c < t.C) : ∃ lo hi, (∀ st, Iso E 27 [trV t o w, I i, I c] st = some (.tup [.agg [I lo, I hi], I 0])) ∧ Xt t (fun x => flow t.C x i c) lo hi := by
  have eC := eqC hv; have eT := eqT hv
  have vo := (valid_trb hv).o
  obtain ⟨lo, hi, e, h, A⟩ := s27 H i c
  obtain ⟨rfl, X⟩ := A.val hv (by simp only [stepB, Bool.and_eq_true, decide_eq_true_eq]; omega) hs
  exact ⟨lo, hi, h, X⟩

set_option maxHeartbeats 2000000 in
theorem s37 {a b : Trap} {oa wa ob wb : AV} (Ha : TrOk a oa wa) (Hb : TrOk b ob wb) (va : a.valid = true) (vb : b.valid = true) (hC : b.C = a.C) (hT : b.T = a.T) (sa : Solv a.C a.T a) (sub : ∀ x, Tr a x → Tr b x) (st : Bool) :
    Iso E 37 [trV a oa wa, trV b ob wb] st = some (Bo true) := by
  have sb : Solv b.C b.T b := by obtain ⟨x, hx⟩ := solv_tr.1 sa; exact solv_tr.2 ⟨x, sub x hx⟩
  have V := valid_trb va
  have v1 := V.c0; have v2 := V.c1; have v3 := V.t0; have v4 := V.t1
  have eC := eqC va; have eT := eqT va
  obtain ⟨Sa, hSa⟩ := fish_all Ha va sa
  obtain ⟨Sb, hSb⟩ := fish_all Hb vb sb
  have c20a := s20 Ha va hSa
  have c20b := s20 Hb vb hSb
  rw [hC, hT] at c20b
  have ia : IsSl 1 encR (spR a.C a.T Sa) (spV a.C a.T Sa) := slV_is
  have ib : IsSl 1 encR (spR a.C a.T Sb) (spV a.C a.T Sb) := slV_is
  obtain ⟨pa, hpa⟩ : ∃ pa, pa = spV a.C a.T Sa := ⟨_, rfl⟩
  obtain ⟨pb, hpb⟩ : ∃ pb, pb = spV a.C a.T Sb := ⟨_, rfl⟩
  rw [← hpa] at c20a ia
  rw [← hpb] at c20b ib
  have oa1 := Ha.o; have wa1 := Ha.w; have ob1 := Hb.o; have wb1 := Hb.w
  simp only [trV] at c20a c20b
  refine Iso_of (es _ _ _ _) e37 ?_
  simp only [f37, trV]
  simp (disch := first | assumption | omega | (simp only [az]; done)) only [ru, eq_self, if_true, if_false, BEq.rfl, binI, AO.row?, splice, fillL, mmAll, loadV, storeV, zeros, Am.rowAt, Am.part, addOff, Nat.reduceAdd, Nat.reduceMul, Nat.reduceLeDiff, Nat.reduceSub, Nat.reduceLT, Int.reduceEq, Int.reduceLT, Int.reduceLE, Int.reduceGT, Int.reduceGE, Int.reduceAdd, Int.reduceSub, Int.reduceMul, Int.reduceNeg, Int.reduceToNat, reduceCtorEq, reduceIte, lenV_sl oa1, elem_sl Ls.el oa1, view_sl oa1, scalar_sl oa1, cells_sl oa1, pure_sl oa1, lenV_sl wa1, elem_sl Wd.el wa1, view_sl wa1, scalar_sl wa1, cells_sl wa1, pure_sl wa1, lenV_sl ob1, elem_sl Ls.el ob1, view_sl ob1, scalar_sl ob1, cells_sl ob1, pure_sl ob1, lenV_sl wb1, elem_sl Wd.el wb1, view_sl wb1, scalar_sl wb1, cells_sl wb1, pure_sl wb1, c20a, c20b, gUn]
  refine G_loop_ind (fun q ts hk mk => ∃ (i : Nat), i ≤ a.T ∧ q = a.T - i ∧ ts.length = 118 ∧ ts.getD 2 .undef = .ptr 0 0 ∧ ts.getD 3 .undef = .ptr 1 0 ∧ ts.getD 5 .undef = pa ∧ ts.getD 7 .undef = pb ∧ ts.getD 9 .undef = I i ∧
    2 ≤ hk.length ∧ hk[0]? = some (.cells [I a.ch, I a.tm, oa, wa] false) ∧ hk[1]? = some (.cells [I b.ch, I b.tm, ob, wb] false) ∧ mk = []) ?_ _ _ _ _
    ⟨0, Nat.zero_le _, rfl, rfl, rfl, rfl, rfl, rfl, rfl, by simp, rfl, rfl, rfl⟩
  rintro q ts hk mk ih ⟨i, hi, rfl, hl, q2, q3, q5, q7, q9, hg, k0, k1, rfl⟩
  rw [lit_all hl]
  simp only [lit0, litS, Nat.reduceAdd, q2, q3, q5, q7, q9]
  simp (disch := first | assumption | omega | (simp only [az]; done)) only [ru, eq_self, if_true, if_false, BEq.rfl, binI, AO.row?, splice, fillL, mmAll, loadV, storeV, zeros, Am.rowAt, Am.part, addOff, Nat.reduceAdd, Nat.reduceMul, Nat.reduceLeDiff, Nat.reduceSub, Nat.reduceLT, Int.reduceEq, Int.reduceLT, Int.reduceLE, Int.reduceGT, Int.reduceGE, Int.reduceAdd, Int.reduceSub, Int.reduceMul, Int.reduceNeg, Int.reduceToNat, reduceCtorEq, reduceIte, k0]
  by_cases hlt : (i : Int) < a.tm
  case neg =>
    simp (disch := first | assumption | omega | (simp only [az]; done)) only [ru, eq_self, if_true, if_false, BEq.rfl, binI, AO.row?, splice, fillL, mmAll, loadV, storeV, zeros, Am.rowAt, Am.part, addOff, Nat.reduceAdd, Nat.reduceMul, Nat.reduceLeDiff, Nat.reduceSub, Nat.reduceLT, Int.reduceEq, Int.reduceLT, Int.reduceLE, Int.reduceGT, Int.reduceGE, Int.reduceAdd, Int.reduceSub, Int.reduceMul, Int.reduceNeg, Int.reduceToNat, reduceCtorEq, reduceIte, hlt]
  have hi2 : i < a.T := by omega
  have k0J : ∀ J, (hk ++ J)[0]? = some (.cells [I a.ch, I a.tm, oa, wa] false) := fun J => by rw [at_ap (by omega)]; exact k0
  have k1J : ∀ J, (hk ++ J)[1]? = some (.cells [I b.ch, I b.tm, ob, wb] false) := fun J => by rw [at_ap (by omega)]; exact k1
  refine (whole_at Ha va sa hi2).elim fun l1 h => h.elim fun u1 h => ?_
  have w1 := h.1
  have X1 := h.2
  clear h
  refine (whole_at Hb vb sb (i := i) (by omega)).elim fun l2 h => h.elim fun u2 h => ?_
  have w2 := h.1
  have X2 := h.2
  clear h
  rw [hC] at X2
  have in1 := xt_sub X1 X2 sub
  simp only [trV] at w1 w2
  have n1 := in1.1; have n2 := in1.2.1; have n3 := in1.2.2
  simp (disch := first | assumption | omega | (simp only [az]; done)) only [ru, eq_self, if_true, if_false, BEq.rfl, binI, AO.row?, splice, fillL, mmAll, loadV, storeV, zeros, Am.rowAt, Am.part, addOff, Nat.reduceAdd, Nat.reduceMul, Nat.reduceLeDiff, Nat.reduceSub, Nat.reduceLT, Int.reduceEq, Int.reduceLT, Int.reduceLE, Int.reduceGT, Int.reduceGE, Int.reduceAdd, Int.reduceSub, Int.reduceMul, Int.reduceNeg, Int.reduceToNat, reduceCtorEq, reduceIte, lenV_sl oa1, elem_sl Ls.el oa1, view_sl oa1, scalar_sl oa1, cells_sl oa1, pure_sl oa1, lenV_sl wa1, elem_sl Wd.el wa1, view_sl wa1, scalar_sl wa1, cells_sl wa1, pure_sl wa1, lenV_sl ob1, elem_sl Ls.el ob1, view_sl ob1, scalar_sl ob1, cells_sl ob1, pure_sl ob1, lenV_sl wb1, elem_sl Wd.el wb1, view_sl wb1, scalar_sl wb1, cells_sl wb1, pure_sl wb1, hlt, k0, k0J, k1J, k1, w1, w2, s42, n1, n2, n3, decide_true, Bool.and_self, gUn, List.append_assoc, List.cons_append, List.nil_append, lenE, setT, setT0, atT, atT0, getT, getT0, Nat.add_assoc]
  clear hl q2 q3 q5 q7 q9
  refine G_loop_ind (fun q ts hh mk => ∃ (c : Nat), c ≤ a.C ∧ q = a.C - c ∧ ts.length = 118 ∧ ts.getD 2 .undef = .ptr 0 0 ∧ ts.getD 3 .undef = .ptr 1 0 ∧ ts.getD 5 .undef = pa ∧ ts.getD 7 .undef = pb ∧ ts.getD 9 .undef = I i ∧ ts.getD 14 .undef = I c ∧
    2 ≤ hh.length ∧ hh[0]? = some (.cells [I a.ch, I a.tm, oa, wa] false) ∧ hh[1]? = some (.cells [I b.ch, I b.tm, ob, wb] false) ∧ mk = []) ?_ _ _ _ _
    ⟨0, Nat.zero_le _, rfl, rfl, rfl, rfl, rfl, rfl, rfl, rfl, by simp <;> omega, k0J _, k1J _, rfl⟩
  rintro q ts hh mk ihC ⟨c, hc, rfl, hl, q2, q3, q5, q7, q9, q14, hgg, g0, g1, rfl⟩
  rw [lit_all hl]
  simp only [lit0, litS, Nat.reduceAdd, q2, q3, q5, q7, q9, q14]
  simp (disch := first | assumption | omega | (simp only [az]; done)) only [ru, eq_self, if_true, if_false, BEq.rfl, binI, AO.row?, splice, fillL, mmAll, loadV, storeV, zeros, Am.rowAt, Am.part, addOff, Nat.reduceAdd, Nat.reduceMul, Nat.reduceLeDiff, Nat.reduceSub, Nat.reduceLT, Int.reduceEq, Int.reduceLT, Int.reduceLE, Int.reduceGT, Int.reduceGE, Int.reduceAdd, Int.reduceSub, Int.reduceMul, Int.reduceNeg, Int.reduceToNat, reduceCtorEq, reduceIte, g0]
  by_cases hlc : (c : Int) < a.ch
  case neg =>
    simp (disch := first | assumption | omega | (simp only [az]; done)) only [ru, eq_self, if_true, if_false, BEq.rfl, binI, AO.row?, splice, fillL, mmAll, loadV, storeV, zeros, Am.rowAt, Am.part, addOff, Nat.reduceAdd, Nat.reduceMul, Nat.reduceLeDiff, Nat.reduceSub, Nat.reduceLT, Int.reduceEq, Int.reduceLT, Int.reduceLE, Int.reduceGT, Int.reduceGE, Int.reduceAdd, Int.reduceSub, Int.reduceMul, Int.reduceNeg, Int.reduceToNat, reduceCtorEq, reduceIte, hlc]
    exact ih (a.T - (i + 1)) _ _ _ (by omega) ⟨i + 1, by omega, rfl, rfl, rfl, rfl, rfl, rfl, rfl, hgg, g0, g1, rfl⟩
  have hc2 : c < a.C := by omega
  have ra := spR_at (C := a.C) (S := Sa) hi2
  have rb := spR_at (C := a.C) (S := Sb) hi2
  have ca := spRow_at (i := i) (S := Sa) hc2
  have cb := spRow_at (i := i) (S := Sb) hc2
  have i0 : (0 : Int) ≤ i := by omega
  have c0 : (0 : Int) ≤ c := by omega
  have la : (i : Int) < ((spR a.C a.T Sa).length : Nat) := by rw [spR_len]; omega
  have lb : (i : Int) < ((spR a.C a.T Sb).length : Nat) := by rw [spR_len]; omega
  have ma : (c : Int) < ((spRow a.C Sa i).length : Nat) := by rw [spRow_len]; omega
  have mb : (c : Int) < ((spRow a.C Sb i).length : Nat) := by rw [spRow_len]; omega
  have Y2 := (hSb i c (by omega) (by omega)).2
  rw [hC] at Y2
  have in2 := xt_sub (hSa i c hi2 hc2).2 Y2 sub
  have m1 := in2.1; have m2 := in2.2.1; have m3 := in2.2.2
  have g0J : ∀ J, (hh ++ J)[0]? = some (.cells [I a.ch, I a.tm, oa, wa] false) := fun J => by rw [at_ap (by omega)]; exact g0
  have g1J : ∀ J, (hh ++ J)[1]? = some (.cells [I b.ch, I b.tm, ob, wb] false) := fun J => by rw [at_ap (by omega)]; exact g1
  by_cases e : (i : Int) + 1 = a.tm
  · have e' : (((i : Int) + 1) == a.tm) = true := by simpa using e
    simp (disch := first | assumption | omega | (simp only [az]; done)) only [ru, eq_self, if_true, if_false, BEq.rfl, binI, AO.row?, splice, fillL, mmAll, loadV, storeV, zeros, Am.rowAt, Am.part, addOff, Nat.reduceAdd, Nat.reduceMul, Nat.reduceLeDiff, Nat.reduceSub, Nat.reduceLT, Int.reduceEq, Int.reduceLT, Int.reduceLE, Int.reduceGT, Int.reduceGE, Int.reduceAdd, Int.reduceSub, Int.reduceMul, Int.reduceNeg, Int.reduceToNat, reduceCtorEq, reduceIte, hlc, i0, c0, elem_sl encR_len ia, elem_sl encR_len ib, encR, el_sp, Int.toNat_natCast, ra, rb, ca, cb, Spn.e, s42, m1, m2, m3, decide_true, Bool.and_self, g0, e']
    exact ihC (a.C - (c + 1)) _ _ _ (by omega) ⟨c + 1, by omega, rfl, rfl, rfl, rfl, rfl, rfl, rfl, rfl, hgg, g0, g1, rfl⟩
  · have e' : (((i : Int) + 1) == a.tm) = false := by simpa using e
    refine (passed_at Ha va sa (i := i) (c := c) (by omega) hc2).elim fun l3 h => h.elim fun u3 h => ?_
    have w3 := h.1
    have X3 := h.2
    clear h
    refine (passed_at Hb vb sb (i := i) (c := c) (by omega) (by omega)).elim fun l4 h => h.elim fun u4 h => ?_
    have w4 := h.1
    have X4 := h.2
    clear h
    rw [hC] at X4
    have in3 := xt_sub X3 X4 sub
    simp only [trV] at w3 w4
    have p1 := in3.1; have p2 := in3.2.1; have p3 := in3.2.2
    simp (disch := first | assumption | omega | (simp only [az]; done)) only [ru, eq_self, if_true, if_false, BEq.rfl, binI, AO.row?, splice, fillL, mmAll, loadV, storeV, zeros, Am.rowAt, Am.part, addOff, Nat.reduceAdd, Nat.reduceMul, Nat.reduceLeDiff, Nat.reduceSub, Nat.reduceLT, Int.reduceEq, Int.reduceLT, Int.reduceLE, Int.reduceGT, Int.reduceGE, Int.reduceAdd, Int.reduceSub, Int.reduceMul, Int.reduceNeg, Int.reduceToNat, reduceCtorEq, reduceIte, hlc, i0, c0, elem_sl encR_len ia, elem_sl encR_len ib, encR, el_sp, Int.toNat_natCast, ra, rb, ca, cb, Spn.e, s42, m1, m2, m3, decide_true, Bool.and_self, g0, e']
    simp (disch := first | assumption | omega | (simp only [az]; done)) only [ru, eq_self, if_true, if_false, BEq.rfl, binI, AO.row?, splice, fillL, mmAll, loadV, storeV, zeros, Am.rowAt, Am.part, addOff, Nat.reduceAdd, Nat.reduceMul, Nat.reduceLeDiff, Nat.reduceSub, Nat.reduceLT, Int.reduceEq, Int.reduceLT, Int.reduceLE, Int.reduceGT, Int.reduceGE, Int.reduceAdd, Int.reduceSub, Int.reduceMul, Int.reduceNeg, Int.reduceToNat, reduceCtorEq, reduceIte, lenV_sl oa1, elem_sl Ls.el oa1, view_sl oa1, scalar_sl oa1, cells_sl oa1, pure_sl oa1, lenV_sl wa1, elem_sl Wd.el wa1, view_sl wa1, scalar_sl wa1, cells_sl wa1, pure_sl wa1, lenV_sl ob1, elem_sl Ls.el ob1, view_sl ob1, scalar_sl ob1, cells_sl ob1, pure_sl ob1, lenV_sl wb1, elem_sl Wd.el wb1, view_sl wb1, scalar_sl wb1, cells_sl wb1, pure_sl wb1, g0, g1, g0J, g1J, w3, w4, s42, p1, p2, p3, decide_true, Bool.and_self, gUn, List.append_assoc, List.cons_append, List.nil_append, lenE, setT, setT0, atT, atT0, getT, getT0, Nat.add_assoc]
    exact ihC (a.C - (c + 1)) _ _ _ (by omega) ⟨c + 1, by omega, rfl, rfl, rfl, rfl, rfl, rfl, rfl, rfl, by simp <;> omega, g0J _, g1J _, rfl⟩
end Go.Proofs.Ytjaaefdhdggnkaa.S

/-
The law of enough fish.
-/
namespace Go.Proofs.Ytjaaefdhdggnkaa.S
open Go Go.Am Go.Proofs.Ytjaaefdhdggnkaa.T
set_option maxRecDepth 100000
set_option linter.unusedSimpArgs false
set_option linter.unusedVariables false

theorem AnsG.val {α : Type} {t : Trap} {fit : Bool} {D : Int → α} {P : α → Prop} {v : α} (A : AnsG t fit D P v) (hv : t.valid = true) (hf : fit = true) (hs : Solv t.C t.T t) : P v := by
  cases A with
  | bad h => rw [hv] at h; cases h
  | arg _ h => rw [hf] at h; cases h
  | none _ _ h => exact absurd hs h
  | ok _ _ _ h => exact h
/-- whether there is a truth, as a bool -/
theorem one_val {t : Trap} {o w : AV} (H : TrOk t o w) (hv : t.valid = true) : ∃ b, (∀ st, Iso E 36 [trV t o w] st = some (Bo b)) ∧ (b = true ↔ Solv t.C t.T t) := s36 H (valid_trb hv) (eqC hv) (eqT hv)
end Go.Proofs.Ytjaaefdhdggnkaa.S

/-
A trap with one word less: Without; words without one: slices.Concat.
-/
namespace Go.Proofs.Ytjaaefdhdggnkaa.S
open Go Go.Am Go.Proofs.Ytjaaefdhdggnkaa.T
set_option maxRecDepth 100000
set_option linter.unusedSimpArgs false
set_option linter.unusedVariables false

/-! words one after another -/
def GrH (h : List AO) (v : AV) (L : List Wd) : Prop := (v = .nils ∧ L = []) ∨ ∃ o c, v = .ms 4 o 0 L.length ∧ h[o]? = some (.cells c false) ∧ c.take (L.length * 4) = L.flatMap Wd.e ∧ L.length * 4 ≤ c.length
theorem GrH.view {h : List AO} {v : AV} {L : List Wd} (H : GrH h v L) (n : Nat) : ∃ u, (∀ st, Am.view st h (n + 1) v = some u) ∧ IsSl 4 Wd.e L u := by
  rcases H with ⟨rfl, rfl⟩ | ⟨o, c, rfl, ho, ht, hc⟩
  · exact ⟨.nils, fun st => view_nils, .inr ⟨rfl, rfl⟩⟩
  · refine ⟨_, fun st => ?_, .inl rfl⟩
    rw [view_ms, rowOf_ms]
    simp only [Am.rowAt, ho, Option.bind_some, AO.row?, List.drop_zero, ht]
    rw [if_pos (by rw [flat_len Wd.el])]
    simp only [wds_view, Option.map_some]
end Go.Proofs.Ytjaaefdhdggnkaa.S

/-
What the program answers: Idle.
-/
namespace Go.Proofs.Ytjaaefdhdggnkaa.S
open Go Go.Am Go.Proofs.Ytjaaefdhdggnkaa.T
set_option maxRecDepth 100000
set_option linter.unusedSimpArgs false
set_option linter.unusedVariables false

/-- a list of numbers that is made by appends -/
def LiN (h : List AO) (v : AV) (L : List Int) : Prop := (L = [] ∧ v = .nils) ∨ (L ≠ [] ∧ ∃ p, v = .ms 1 p 0 L.length ∧ h[p]? = some (.cells (L.flatMap intL) false))
theorem LiN.fr {h h' : List AO} {v : AV} {L : List Int} (H : LiN h v L) (hf : ∀ k, k < h.length → h'[k]? = h[k]?) : LiN h' v L := by
  rcases H with H | ⟨h0, p, e, hp⟩
  · exact .inl H
  · exact .inr ⟨h0, p, e, by rw [hf p (List.getElem?_eq_some_iff.1 hp).1]; exact hp⟩
theorem LiN.view {h : List AO} {v : AV} {L : List Int} (H : LiN h v L) (n : Nat) : ∃ u, (∀ st, Am.view st h (n + 1) v = some u) ∧ IsSl 1 intL L u := by
  rcases H with ⟨rfl, rfl⟩ | ⟨h0, p, rfl, hp⟩
  · exact ⟨.nils, fun st => view_nils, .inr ⟨rfl, rfl⟩⟩
  · refine ⟨_, fun st => ?_, .inl rfl⟩
    rw [view_ms, rowOf_ms]
    simp only [Am.rowAt, hp, Option.bind_some, AO.row?, List.drop_zero]
    rw [List.take_of_length_le (by rw [flat1]; omega), if_pos (by rw [flat1]; omega)]
    simp only [ints_view, Option.map_some]
end Go.Proofs.Ytjaaefdhdggnkaa.S

/-
The law of the idle words.
-/
namespace Go.Proofs.Ytjaaefdhdggnkaa.S
open Go Go.Am Go.Proofs.Ytjaaefdhdggnkaa.T
set_option maxRecDepth 100000
set_option linter.unusedSimpArgs false
set_option linter.unusedVariables false

end Go.Proofs.Ytjaaefdhdggnkaa.S

/-
Whether numbers are a truth, by the reference: Sum, Behind, IsTruth.
-/
namespace Go.Proofs.Ytjaaefdhdggnkaa.S
open Go Go.Am Go.Proofs.Ytjaaefdhdggnkaa.T
set_option maxRecDepth 100000
set_option linter.unusedSimpArgs false
set_option linter.unusedVariables false

theorem sum_bd : ∀ {l : List Int}, (∀ x ∈ l, 0 ≤ x ∧ x ≤ 40) → 0 ≤ l.sum ∧ l.sum ≤ 40 * l.length
  | [], _ => by simp
  | a :: l, h => by
    have h1 := sum_bd (l := l) fun x hx => h x (List.mem_cons_of_mem _ hx)
    have h2 := h a (by simp)
    rw [List.sum_cons, List.length_cons]
    omega
theorem take_sum {l : List Int} {i : Nat} (hi : i < l.length) : (l.take (i + 1)).sum = (l.take i).sum + l.getD i 0 := by
  rw [List.take_succ_eq_append_getElem hi, List.sum_append, List.getD_eq_getElem?_getD, List.getElem?_eq_getElem hi]
  simp
theorem drop_sum {l : List Int} {i : Nat} (hi : i < l.length) : (l.drop i).sum = l.getD i 0 + (l.drop (i + 1)).sum := by
  rw [List.drop_eq_getElem_cons hi, List.sum_cons, List.getD_eq_getElem?_getD, List.getElem?_eq_getElem hi]
  rfl
theorem s78 {l : List Int} {v : AV} (hv : IsSl 1 intL l v) (hl : l.length ≤ 40) (hb : ∀ x ∈ l, 0 ≤ x ∧ x ≤ 40) (st : Bool) : Iso E 78 [v] st = some (I l.sum) := by
  refine Iso_of (es _ _ _ _) e78 ?_
  simp only [f78]
  simp (disch := first | assumption | omega | (simp only [az]; done)) only [ru, eq_self, if_true, if_false, BEq.rfl, binI, AO.row?, splice, fillL, mmAll, loadV, storeV, zeros, Am.rowAt, Am.part, addOff, Nat.reduceAdd, Nat.reduceMul, Nat.reduceLeDiff, Nat.reduceSub, Nat.reduceLT, Int.reduceEq, Int.reduceLT, Int.reduceLE, Int.reduceGT, Int.reduceGE, Int.reduceAdd, Int.reduceSub, Int.reduceMul, Int.reduceNeg, Int.reduceToNat, reduceCtorEq, reduceIte, lenV_sl hv, elem_sl intE hv, view_sl hv, scalar_sl hv, cells_sl hv, pure_sl hv]
  refine G_loop_ind (fun m ts h mk => ∃ (i : Nat), i ≤ l.length ∧ m = l.length - i ∧ ts.length = 18 ∧ ts.getD 0 .undef = v ∧ ts.getD 3 .undef = I (l.take i).sum ∧ ts.getD 4 .undef = I i ∧ h = [] ∧ mk = []) ?_ _ _ _ _
    ⟨0, Nat.zero_le _, rfl, rfl, rfl, rfl, rfl, rfl, rfl⟩
  rintro m ts h mk ih ⟨i, hi', rfl, hl', q0, q3, q4, rfl, rfl⟩
  rw [lit_all hl']
  simp only [lit0, litS, Nat.reduceAdd, q0, q3, q4]
  simp (disch := first | assumption | omega | (simp only [az]; done)) only [ru, eq_self, if_true, if_false, BEq.rfl, binI, AO.row?, splice, fillL, mmAll, loadV, storeV, zeros, Am.rowAt, Am.part, addOff, Nat.reduceAdd, Nat.reduceMul, Nat.reduceLeDiff, Nat.reduceSub, Nat.reduceLT, Int.reduceEq, Int.reduceLT, Int.reduceLE, Int.reduceGT, Int.reduceGE, Int.reduceAdd, Int.reduceSub, Int.reduceMul, Int.reduceNeg, Int.reduceToNat, reduceCtorEq, reduceIte, lenV_sl hv, elem_sl intE hv, view_sl hv, scalar_sl hv, cells_sl hv, pure_sl hv]
  by_cases hlt : (i : Int) < l.length
  case neg =>
    obtain rfl : i = l.length := by omega
    rw [List.take_length]
    simp (disch := first | assumption | omega | (simp only [az]; done)) only [ru, eq_self, if_true, if_false, BEq.rfl, binI, AO.row?, splice, fillL, mmAll, loadV, storeV, zeros, Am.rowAt, Am.part, addOff, Nat.reduceAdd, Nat.reduceMul, Nat.reduceLeDiff, Nat.reduceSub, Nat.reduceLT, Int.reduceEq, Int.reduceLT, Int.reduceLE, Int.reduceGT, Int.reduceGE, Int.reduceAdd, Int.reduceSub, Int.reduceMul, Int.reduceNeg, Int.reduceToNat, reduceCtorEq, reduceIte, hlt]
  have hi2 : i < l.length := by omega
  have b1 := sum_bd (l := l.take i) fun x hx => hb x (List.mem_of_mem_take hx)
  have lt : (l.take i).length ≤ 40 := by rw [List.length_take]; omega
  have gm : l.getD i 0 ∈ l := by
    rw [List.getD_eq_getElem?_getD, List.getElem?_eq_getElem hi2]
    exact List.getElem_mem hi2
  have b2 := hb _ gm
  have ts := take_sum hi2
  obtain ⟨a, ha⟩ : ∃ a, a = (l.take i).sum := ⟨_, rfl⟩
  obtain ⟨x, hx⟩ : ∃ x, x = l.getD i default := ⟨_, rfl⟩
  have hx' : l.getD i 0 = x := hx.symm
  rw [← ha] at b1 ts
  rw [hx'] at b2 ts
  rw [← ha]
  have w1 : wr .i64 (a + x) = a + x := wr64 (by omega) (by omega)
  simp (disch := first | assumption | omega | (simp only [az]; done)) only [ru, eq_self, if_true, if_false, BEq.rfl, binI, AO.row?, splice, fillL, mmAll, loadV, storeV, zeros, Am.rowAt, Am.part, addOff, Nat.reduceAdd, Nat.reduceMul, Nat.reduceLeDiff, Nat.reduceSub, Nat.reduceLT, Int.reduceEq, Int.reduceLT, Int.reduceLE, Int.reduceGT, Int.reduceGE, Int.reduceAdd, Int.reduceSub, Int.reduceMul, Int.reduceNeg, Int.reduceToNat, reduceCtorEq, reduceIte, lenV_sl hv, elem_sl intE hv, view_sl hv, scalar_sl hv, cells_sl hv, pure_sl hv, hlt, Int.toNat_natCast, ← hx, w1]
  exact ih (l.length - (i + 1)) _ _ _ (by omega) ⟨i + 1, by omega, rfl, rfl, rfl, by show I _ = I _; rw [ts], rfl, rfl, rfl⟩
theorem s25 {l : List Int} {v : AV} (hv : IsSl 1 intL l v) (hl : l.length ≤ 40) (hb : ∀ x ∈ l, 0 ≤ x ∧ x ≤ 40) {c : Nat} (hc : c ≤ l.length) (st : Bool) : Iso E 25 [v, I c] st = some (I (l.drop c).sum) := by
  obtain ⟨u, su, iu⟩ := slice_hi intE hv hc
  have c78 := fun st => s78 iu (by rw [List.length_drop]; omega) (fun x hx => hb x (List.mem_of_mem_drop hx)) st
  refine Iso_of (es _ _ _ _) e25 ?_
  simp only [f25]
  simp (disch := first | assumption | omega | (simp only [az]; done)) only [ru, eq_self, if_true, if_false, BEq.rfl, binI, AO.row?, splice, fillL, mmAll, loadV, storeV, zeros, Am.rowAt, Am.part, addOff, Nat.reduceAdd, Nat.reduceMul, Nat.reduceLeDiff, Nat.reduceSub, Nat.reduceLT, Int.reduceEq, Int.reduceLT, Int.reduceLE, Int.reduceGT, Int.reduceGE, Int.reduceAdd, Int.reduceSub, Int.reduceMul, Int.reduceNeg, Int.reduceToNat, reduceCtorEq, reduceIte, lenV_sl hv, elem_sl intE hv, view_sl hv, scalar_sl hv, cells_sl hv, pure_sl hv, lenV_sl iu, elem_sl intE iu, view_sl iu, scalar_sl iu, cells_sl iu, pure_sl iu, pex_slice, su, c78]

/-! numbers that are a truth -/
def rowN (L : List Ls) (i : Nat) : List Int := (L.getD i default).list
def numN (L : List Ls) (i c : Nat) : Int := (rowN L i).getD c 0
def behN (L : List Ls) (i c : Nat) : Int := ((rowN L i).drop c).sum
def RowK (C : Nat) (L : List Ls) (i : Nat) : Prop := (rowN L i).length = C ∧ (∀ c, c < C → 0 ≤ numN L i c ∧ numN L i c ≤ 40) ∧ behN L i 0 ≤ 40
def PasK (t : Trap) (L : List Ls) (i c : Nat) : Prop := 0 ≤ behN L (i + 1) c - behN L i c ∧ (0 < behN L (i + 1) c - behN L i c → hasI (t.op.getD i default).list c = true)
structure TruN (t : Trap) (L : List Ls) : Prop where
  l : L.length = t.T
  r : ∀ i, i < t.T → RowK t.C L i
  p : ∀ i, i + 1 < t.T → ∀ c, c < t.C → PasK t L i c
  w : ∀ k, k < t.ws.length → (t.ws.getD k default).lo ≤ numN L (t.ws.getD k default).time.toNat (t.ws.getD k default).ch.toNat ∧ numN L (t.ws.getD k default).time.toNat (t.ws.getD k default).ch.toNat ≤ (t.ws.getD k default).hi
theorem rowK_mem {C : Nat} {L : List Ls} {i : Nat} (h : RowK C L i) : ∀ x ∈ rowN L i, 0 ≤ x ∧ x ≤ 40 := by
  intro x hx
  obtain ⟨c, hc, rfl⟩ := List.mem_iff_getElem.1 hx
  have := h.2.1 c (by rw [← h.1]; exact hc)
  unfold numN at this
  rwa [List.getD_eq_getElem?_getD, List.getElem?_eq_getElem hc, Option.getD_some] at this
theorem beh_bd {C : Nat} {L : List Ls} {i c : Nat} (h : RowK C L i) (hC : C ≤ 4) : 0 ≤ behN L i c ∧ behN L i c ≤ 160 := by
  have := sum_bd (l := (rowN L i).drop c) fun x hx => rowK_mem h x (List.mem_of_mem_drop hx)
  have l := h.1
  unfold behN
  rw [List.length_drop] at this
  omega

set_option maxHeartbeats 4000000 in
theorem s18 {t : Trap} {o w : AV} (H : TrOk t o w) (hv : t.valid = true) {L : List Ls} {v : AV} (hL : IsSl 1 Ls.e L v) (hl : L.length ≤ 40) (hs : ∀ x ∈ L, x.list.length ≤ 40) : ∃ b, (∀ st, Iso E 18 [trV t o w, v] st = some (Bo b)) ∧ (b = true ↔ TruN t L) := by
  have V := valid_trb hv
  have v1 := V.c0; have v2 := V.c1; have v3 := V.t0; have v4 := V.t1; have vo := V.o
  have eC := trC V; have eT := trT V
  have sw := H.sw
  suffices hR : ∃ r h', R E (.fn 18) [trV t o w, v] [] 0 = some (r, h') ∧ ∃ b, r = Bo b ∧ (b = true ↔ TruN t L) by
    obtain ⟨r, h', hr, b, rfl, hb⟩ := hR
    exact ⟨b, fun st => by simp only [Iso, hr]; exact view_bool, hb⟩
  have no : ∀ {P : Prop}, ¬ TruN t L → (∃ b, Bo false = Bo b ∧ (b = true ↔ TruN t L)) := fun h => ⟨false, rfl, ⟨fun e => (by cases e), fun e => absurd e h⟩⟩
  refine R_of (f := 18) (fun r h' => ∃ b, r = Bo b ∧ (b = true ↔ TruN t L)) (es _ _ _ _) e18 ?_
  simp only [f18, trV]
  by_cases h0 : (L.length : Int) = t.tm
  case neg =>
    have h0' : ((L.length : Int) != t.tm) = true := by simpa using h0
    simp (disch := first | assumption | omega | (simp only [az]; done)) only [ru, eq_self, if_true, if_false, BEq.rfl, binI, AO.row?, splice, fillL, mmAll, loadV, storeV, zeros, Am.rowAt, Am.part, addOff, Nat.reduceAdd, Nat.reduceMul, Nat.reduceLeDiff, Nat.reduceSub, Nat.reduceLT, Int.reduceEq, Int.reduceLT, Int.reduceLE, Int.reduceGT, Int.reduceGE, Int.reduceAdd, Int.reduceSub, Int.reduceMul, Int.reduceNeg, Int.reduceToNat, reduceCtorEq, reduceIte, lenV_sl H.o, lenV_sl H.w, elem_sl Ls.el H.o, elem_sl Wd.el H.w, view_sl H.o, view_sl H.w, scalar_sl H.o, scalar_sl H.w, cells_sl H.o, cells_sl H.w, pure_sl H.o, pure_sl H.w, Int.toNat_natCast, lenV_sl hL, elem_sl Ls.el hL, view_sl hL, scalar_sl hL, cells_sl hL, pure_sl hL, h0']
    exact no (P := True) fun T => h0 (by have := T.l; omega)
  have h0' : ((L.length : Int) != t.tm) = false := by simpa using h0
  have hLT : L.length = t.T := by omega
  simp (disch := first | assumption | omega | (simp only [az]; done)) only [ru, eq_self, if_true, if_false, BEq.rfl, binI, AO.row?, splice, fillL, mmAll, loadV, storeV, zeros, Am.rowAt, Am.part, addOff, Nat.reduceAdd, Nat.reduceMul, Nat.reduceLeDiff, Nat.reduceSub, Nat.reduceLT, Int.reduceEq, Int.reduceLT, Int.reduceLE, Int.reduceGT, Int.reduceGE, Int.reduceAdd, Int.reduceSub, Int.reduceMul, Int.reduceNeg, Int.reduceToNat, reduceCtorEq, reduceIte, lenV_sl H.o, lenV_sl H.w, elem_sl Ls.el H.o, elem_sl Wd.el H.w, view_sl H.o, view_sl H.w, scalar_sl H.o, scalar_sl H.w, cells_sl H.o, cells_sl H.w, pure_sl H.o, pure_sl H.w, Int.toNat_natCast, lenV_sl hL, elem_sl Ls.el hL, view_sl hL, scalar_sl hL, cells_sl hL, pure_sl hL, h0']
  refine G_loop_ind (fun m ts hk mk => ∃ (i : Nat), i ≤ t.T ∧ m = t.T - i ∧ ts.length = 122 ∧ ts.getD 1 .undef = v ∧ ts.getD 2 .undef = .ptr 0 0 ∧ ts.getD 5 .undef = I i ∧ hk = [.cells [I t.ch, I t.tm, o, w] false] ∧ mk = [] ∧
    (∀ j, j < i → RowK t.C L j) ∧ ∀ j, j + 1 < i → ∀ c, c < t.C → PasK t L j c) ?_ _ _ _ _
    ⟨0, Nat.zero_le _, rfl, rfl, rfl, rfl, rfl, rfl, rfl, fun j hj => absurd hj (by omega), fun j hj => absurd hj (by omega)⟩
  rintro m ts hk mk ih ⟨i, hi, rfl, hll, q1, q2, q5, rfl, rfl, RK, PK⟩
  rw [lit_all hll]
  simp only [lit0, litS, Nat.reduceAdd, q1, q2, q5]
  simp (disch := first | assumption | omega | (simp only [az]; done)) only [ru, eq_self, if_true, if_false, BEq.rfl, binI, AO.row?, splice, fillL, mmAll, loadV, storeV, zeros, Am.rowAt, Am.part, addOff, Nat.reduceAdd, Nat.reduceMul, Nat.reduceLeDiff, Nat.reduceSub, Nat.reduceLT, Int.reduceEq, Int.reduceLT, Int.reduceLE, Int.reduceGT, Int.reduceGE, Int.reduceAdd, Int.reduceSub, Int.reduceMul, Int.reduceNeg, Int.reduceToNat, reduceCtorEq, reduceIte, lenV_sl hL, elem_sl Ls.el hL, view_sl hL, scalar_sl hL, cells_sl hL, pure_sl hL]
  by_cases hlt : (i : Int) < L.length
  case neg =>
    have hi3 : i = t.T := by omega
    subst hi3
    simp (disch := first | assumption | omega | (simp only [az]; done)) only [ru, eq_self, if_true, if_false, BEq.rfl, binI, AO.row?, splice, fillL, mmAll, loadV, storeV, zeros, Am.rowAt, Am.part, addOff, Nat.reduceAdd, Nat.reduceMul, Nat.reduceLeDiff, Nat.reduceSub, Nat.reduceLT, Int.reduceEq, Int.reduceLT, Int.reduceLE, Int.reduceGT, Int.reduceGE, Int.reduceAdd, Int.reduceSub, Int.reduceMul, Int.reduceNeg, Int.reduceToNat, reduceCtorEq, reduceIte, hlt]
    clear hll q1 q2 q5 ih
    refine G_loop_ind (fun m ts hk mk => ∃ (k : Nat) (J : List AO), k ≤ t.ws.length ∧ m = t.ws.length - k ∧ ts.length = 122 ∧ ts.getD 1 .undef = v ∧ ts.getD 2 .undef = .ptr 0 0 ∧ ts.getD 9 .undef = I k ∧ hk = .cells [I t.ch, I t.tm, o, w] false :: J ∧ mk = [] ∧
      ∀ j, j < k → (t.ws.getD j default).lo ≤ numN L (t.ws.getD j default).time.toNat (t.ws.getD j default).ch.toNat ∧ numN L (t.ws.getD j default).time.toNat (t.ws.getD j default).ch.toNat ≤ (t.ws.getD j default).hi) ?_ _ _ _ _
      ⟨0, [], Nat.zero_le _, rfl, rfl, rfl, rfl, rfl, rfl, rfl, fun j hj => absurd hj (by omega)⟩
    rintro m ts hk mk ih ⟨k, J, hk', rfl, hll, q1, q2, q9, rfl, rfl, WK⟩
    rw [lit_all hll]
    simp only [lit0, litS, Nat.reduceAdd, q1, q2, q9]
    simp (disch := first | assumption | omega | (simp only [az]; done)) only [ru, eq_self, if_true, if_false, BEq.rfl, binI, AO.row?, splice, fillL, mmAll, loadV, storeV, zeros, Am.rowAt, Am.part, addOff, Nat.reduceAdd, Nat.reduceMul, Nat.reduceLeDiff, Nat.reduceSub, Nat.reduceLT, Int.reduceEq, Int.reduceLT, Int.reduceLE, Int.reduceGT, Int.reduceGE, Int.reduceAdd, Int.reduceSub, Int.reduceMul, Int.reduceNeg, Int.reduceToNat, reduceCtorEq, reduceIte, lenV_sl H.o, lenV_sl H.w, elem_sl Ls.el H.o, elem_sl Wd.el H.w, view_sl H.o, view_sl H.w, scalar_sl H.o, scalar_sl H.w, cells_sl H.o, cells_sl H.w, pure_sl H.o, pure_sl H.w, Int.toNat_natCast]
    by_cases hlk : (k : Int) < t.ws.length
    case neg =>
      have hk3 : k = t.ws.length := by omega
      subst hk3
      simp (disch := first | assumption | omega | (simp only [az]; done)) only [ru, eq_self, if_true, if_false, BEq.rfl, binI, AO.row?, splice, fillL, mmAll, loadV, storeV, zeros, Am.rowAt, Am.part, addOff, Nat.reduceAdd, Nat.reduceMul, Nat.reduceLeDiff, Nat.reduceSub, Nat.reduceLT, Int.reduceEq, Int.reduceLT, Int.reduceLE, Int.reduceGT, Int.reduceGE, Int.reduceAdd, Int.reduceSub, Int.reduceMul, Int.reduceNeg, Int.reduceToNat, reduceCtorEq, reduceIte, hlk]
      exact ⟨true, rfl, ⟨fun _ => ⟨hLT, RK, fun i hi c hc => PK i hi c hc, WK⟩, fun _ => rfl⟩⟩
    have hk2 : k < t.ws.length := by omega
    have k0 : (0 : Int) ≤ k := by omega
    obtain ⟨y, hy⟩ : ∃ y, y = t.ws.getD k default := ⟨_, rfl⟩
    have hyf : fitB t y = true := by rw [hy]; exact V.fw _ (mem_getD hk2)
    simp only [fitB, placeB, Bool.and_eq_true, decide_eq_true_eq] at hyf
    have y0 : (0 : Int) ≤ y.time := by omega
    have y1 : y.time < (L.length : Nat) := by omega
    have y2 : (0 : Int) ≤ y.ch := by omega
    obtain ⟨z, hz⟩ : ∃ z, z = L.getD y.time.toNat default := ⟨_, rfl⟩
    have rz : rowN L y.time.toNat = z.list := by rw [hz]; rfl
    have y3 : y.ch < (z.list.length : Nat) := by have := (RK y.time.toNat (by omega)).1; rw [rz] at this; omega
    obtain ⟨n, hn⟩ : ∃ n, n = z.list.getD y.ch.toNat default := ⟨_, rfl⟩
    have nn : numN L y.time.toNat y.ch.toNat = n := by unfold numN; rw [rz, hn]; rfl
    cases hin : inR n y.lo y.hi
    · simp (disch := first | assumption | omega | (simp only [az]; done)) only [ru, eq_self, if_true, if_false, BEq.rfl, binI, AO.row?, splice, fillL, mmAll, loadV, storeV, zeros, Am.rowAt, Am.part, addOff, Nat.reduceAdd, Nat.reduceMul, Nat.reduceLeDiff, Nat.reduceSub, Nat.reduceLT, Int.reduceEq, Int.reduceLT, Int.reduceLE, Int.reduceGT, Int.reduceGE, Int.reduceAdd, Int.reduceSub, Int.reduceMul, Int.reduceNeg, Int.reduceToNat, reduceCtorEq, reduceIte, lenV_sl H.o, lenV_sl H.w, elem_sl Ls.el H.o, elem_sl Wd.el H.w, view_sl H.o, view_sl H.w, scalar_sl H.o, scalar_sl H.w, cells_sl H.o, cells_sl H.w, pure_sl H.o, pure_sl H.w, Int.toNat_natCast, lenV_sl hL, elem_sl Ls.el hL, view_sl hL, scalar_sl hL, cells_sl hL, pure_sl hL, hlk, k0, Int.toNat_natCast, ← hy, Wd.e, List.cons_append, lenE, setT, setT0, atT, atT0, getT, getT0, Nat.add_assoc, y0, y1, y2, y3, ← hz, Ls.e, lenV_sl z.is, elem_sl intE z.is, view_sl z.is, scalar_sl z.is, cells_sl z.is, pure_sl z.is, ← hn, s30, hin]
      refine no (P := True) fun T => ?_
      have := T.w k hk2
      rw [← hy, nn] at this
      rw [inR_iff.2 this] at hin
      cases hin
    · simp (disch := first | assumption | omega | (simp only [az]; done)) only [ru, eq_self, if_true, if_false, BEq.rfl, binI, AO.row?, splice, fillL, mmAll, loadV, storeV, zeros, Am.rowAt, Am.part, addOff, Nat.reduceAdd, Nat.reduceMul, Nat.reduceLeDiff, Nat.reduceSub, Nat.reduceLT, Int.reduceEq, Int.reduceLT, Int.reduceLE, Int.reduceGT, Int.reduceGE, Int.reduceAdd, Int.reduceSub, Int.reduceMul, Int.reduceNeg, Int.reduceToNat, reduceCtorEq, reduceIte, lenV_sl H.o, lenV_sl H.w, elem_sl Ls.el H.o, elem_sl Wd.el H.w, view_sl H.o, view_sl H.w, scalar_sl H.o, scalar_sl H.w, cells_sl H.o, cells_sl H.w, pure_sl H.o, pure_sl H.w, Int.toNat_natCast, lenV_sl hL, elem_sl Ls.el hL, view_sl hL, scalar_sl hL, cells_sl hL, pure_sl hL, hlk, k0, Int.toNat_natCast, ← hy, Wd.e, List.cons_append, lenE, setT, setT0, atT, atT0, getT, getT0, Nat.add_assoc, y0, y1, y2, y3, ← hz, Ls.e, lenV_sl z.is, elem_sl intE z.is, view_sl z.is, scalar_sl z.is, cells_sl z.is, pure_sl z.is, ← hn, s30, hin]
      refine ih (t.ws.length - (k + 1)) _ _ _ (by omega) ⟨k + 1, J ++ [AO.cells [I y.time, I y.ch, I y.lo, I y.hi] false], by omega, rfl, rfl, rfl, rfl, rfl, rfl, rfl, fun j hj => ?_⟩
      by_cases e : j = k
      · subst e
        rw [← hy, nn]
        exact inR_iff.1 hin
      · exact WK j (by omega)
  have hi2 : i < L.length := by omega
  have i0 : (0 : Int) ≤ i := by omega
  obtain ⟨x, hx⟩ : ∃ x, x = L.getD i default := ⟨_, rfl⟩
  have un := Ls.under hs hi2
  rw [← hx] at un
  have rx : rowN L i = x.list := by rw [hx]; rfl
  by_cases hr : (x.list.length : Int) = t.ch
  case neg =>
    have hr' : ((x.list.length : Int) != t.ch) = true := by simpa using hr
    simp (disch := first | assumption | omega | (simp only [az]; done)) only [ru, eq_self, if_true, if_false, BEq.rfl, binI, AO.row?, splice, fillL, mmAll, loadV, storeV, zeros, Am.rowAt, Am.part, addOff, Nat.reduceAdd, Nat.reduceMul, Nat.reduceLeDiff, Nat.reduceSub, Nat.reduceLT, Int.reduceEq, Int.reduceLT, Int.reduceLE, Int.reduceGT, Int.reduceGE, Int.reduceAdd, Int.reduceSub, Int.reduceMul, Int.reduceNeg, Int.reduceToNat, reduceCtorEq, reduceIte, lenV_sl hL, elem_sl Ls.el hL, view_sl hL, scalar_sl hL, cells_sl hL, pure_sl hL, hlt, i0, Int.toNat_natCast, ← hx, Ls.e, lenV_sl x.is, elem_sl intE x.is, view_sl x.is, scalar_sl x.is, cells_sl x.is, pure_sl x.is, hr']
    exact no (P := True) fun T => hr (by have := (T.r i (by omega)).1; rw [rx] at this; omega)
  have hr' : ((x.list.length : Int) != t.ch) = false := by simpa using hr
  simp (disch := first | assumption | omega | (simp only [az]; done)) only [ru, eq_self, if_true, if_false, BEq.rfl, binI, AO.row?, splice, fillL, mmAll, loadV, storeV, zeros, Am.rowAt, Am.part, addOff, Nat.reduceAdd, Nat.reduceMul, Nat.reduceLeDiff, Nat.reduceSub, Nat.reduceLT, Int.reduceEq, Int.reduceLT, Int.reduceLE, Int.reduceGT, Int.reduceGE, Int.reduceAdd, Int.reduceSub, Int.reduceMul, Int.reduceNeg, Int.reduceToNat, reduceCtorEq, reduceIte, lenV_sl hL, elem_sl Ls.el hL, view_sl hL, scalar_sl hL, cells_sl hL, pure_sl hL, hlt, i0, Int.toNat_natCast, ← hx, Ls.e, lenV_sl x.is, elem_sl intE x.is, view_sl x.is, scalar_sl x.is, cells_sl x.is, pure_sl x.is, hr']
  have lx : x.list.length = t.C := by omega
  clear hll q1 q2 q5
  refine G_loop_ind (fun m ts hk mk => ∃ (c : Nat), c ≤ t.C ∧ m = t.C - c ∧ ts.length = 122 ∧ ts.getD 1 .undef = v ∧ ts.getD 2 .undef = .ptr 0 0 ∧ ts.getD 5 .undef = I i ∧ ts.getD 6 .undef = I c ∧ hk = [.cells [I t.ch, I t.tm, o, w] false] ∧ mk = [] ∧
    ∀ d, d < c → 0 ≤ numN L i d ∧ numN L i d ≤ 40) ?_ _ _ _ _
    ⟨0, Nat.zero_le _, rfl, rfl, rfl, rfl, rfl, rfl, rfl, rfl, fun j hj => absurd hj (by omega)⟩
  rintro m ts hk mk ihC ⟨c, hc, rfl, hll, q1, q2, q5, q6, rfl, rfl, CK⟩
  rw [lit_all hll]
  simp only [lit0, litS, Nat.reduceAdd, q1, q2, q5, q6]
  simp (disch := first | assumption | omega | (simp only [az]; done)) only [ru, eq_self, if_true, if_false, BEq.rfl, binI, AO.row?, splice, fillL, mmAll, loadV, storeV, zeros, Am.rowAt, Am.part, addOff, Nat.reduceAdd, Nat.reduceMul, Nat.reduceLeDiff, Nat.reduceSub, Nat.reduceLT, Int.reduceEq, Int.reduceLT, Int.reduceLE, Int.reduceGT, Int.reduceGE, Int.reduceAdd, Int.reduceSub, Int.reduceMul, Int.reduceNeg, Int.reduceToNat, reduceCtorEq, reduceIte, lenV_sl hL, elem_sl Ls.el hL, view_sl hL, scalar_sl hL, cells_sl hL, pure_sl hL, hlt, i0, Int.toNat_natCast, ← hx, Ls.e, lenV_sl x.is, elem_sl intE x.is, view_sl x.is, scalar_sl x.is, cells_sl x.is, pure_sl x.is]
  by_cases hlc : (c : Int) < x.list.length
  case pos =>
    have c0 : (0 : Int) ≤ c := by omega
    obtain ⟨n, hn⟩ : ∃ n, n = x.list.getD c default := ⟨_, rfl⟩
    have nn : numN L i c = n := by unfold numN; rw [rx, hn]; rfl
    cases hin : inR n 0 40
    · simp (disch := first | assumption | omega | (simp only [az]; done)) only [ru, eq_self, if_true, if_false, BEq.rfl, binI, AO.row?, splice, fillL, mmAll, loadV, storeV, zeros, Am.rowAt, Am.part, addOff, Nat.reduceAdd, Nat.reduceMul, Nat.reduceLeDiff, Nat.reduceSub, Nat.reduceLT, Int.reduceEq, Int.reduceLT, Int.reduceLE, Int.reduceGT, Int.reduceGE, Int.reduceAdd, Int.reduceSub, Int.reduceMul, Int.reduceNeg, Int.reduceToNat, reduceCtorEq, reduceIte, lenV_sl hL, elem_sl Ls.el hL, view_sl hL, scalar_sl hL, cells_sl hL, pure_sl hL, hlt, hlc, i0, c0, Int.toNat_natCast, ← hx, Ls.e, lenV_sl x.is, elem_sl intE x.is, view_sl x.is, scalar_sl x.is, cells_sl x.is, pure_sl x.is, ← hn, s30, hin]
      refine no (P := True) fun T => ?_
      have := (T.r i (by omega)).2.1 c (by omega)
      rw [nn] at this
      rw [inR_iff.2 this] at hin
      cases hin
    · simp (disch := first | assumption | omega | (simp only [az]; done)) only [ru, eq_self, if_true, if_false, BEq.rfl, binI, AO.row?, splice, fillL, mmAll, loadV, storeV, zeros, Am.rowAt, Am.part, addOff, Nat.reduceAdd, Nat.reduceMul, Nat.reduceLeDiff, Nat.reduceSub, Nat.reduceLT, Int.reduceEq, Int.reduceLT, Int.reduceLE, Int.reduceGT, Int.reduceGE, Int.reduceAdd, Int.reduceSub, Int.reduceMul, Int.reduceNeg, Int.reduceToNat, reduceCtorEq, reduceIte, lenV_sl hL, elem_sl Ls.el hL, view_sl hL, scalar_sl hL, cells_sl hL, pure_sl hL, hlt, hlc, i0, c0, Int.toNat_natCast, ← hx, Ls.e, lenV_sl x.is, elem_sl intE x.is, view_sl x.is, scalar_sl x.is, cells_sl x.is, pure_sl x.is, ← hn, s30, hin]
      refine ihC (t.C - (c + 1)) _ _ _ (by omega) ⟨c + 1, by omega, rfl, rfl, rfl, rfl, rfl, rfl, rfl, rfl, fun d hd => ?_⟩
      by_cases e : d = c
      · subst e; rw [nn]; exact inR_iff.1 hin
      · exact CK d (by omega)
  have hc3 : c = t.C := by omega
  subst hc3
  have mem : ∀ z ∈ x.list, 0 ≤ z ∧ z ≤ 40 := by
    intro z hz
    obtain ⟨d, hd, rfl⟩ := List.mem_iff_getElem.1 hz
    have := CK d (by omega)
    unfold numN at this
    rw [rx, List.getD_eq_getElem?_getD, List.getElem?_eq_getElem hd, Option.getD_some] at this
    exact this
  have c25 := fun c (hc : c ≤ x.list.length) st => s25 x.is (by omega) mem hc st
  have c25z : ∀ st, Iso E 25 [x.v, I 0] st = some (I (behN L i 0)) := fun st => by
    have := c25 0 (Nat.zero_le _) st
    rw [← rx] at this
    exact this
  by_cases hb : behN L i 0 > 40
  · simp (disch := first | assumption | omega | (simp only [az]; done)) only [ru, eq_self, if_true, if_false, BEq.rfl, binI, AO.row?, splice, fillL, mmAll, loadV, storeV, zeros, Am.rowAt, Am.part, addOff, Nat.reduceAdd, Nat.reduceMul, Nat.reduceLeDiff, Nat.reduceSub, Nat.reduceLT, Int.reduceEq, Int.reduceLT, Int.reduceLE, Int.reduceGT, Int.reduceGE, Int.reduceAdd, Int.reduceSub, Int.reduceMul, Int.reduceNeg, Int.reduceToNat, reduceCtorEq, reduceIte, lenV_sl hL, elem_sl Ls.el hL, view_sl hL, scalar_sl hL, cells_sl hL, pure_sl hL, hlt, hlc, i0, Int.toNat_natCast, ← hx, Ls.e, lenV_sl x.is, elem_sl intE x.is, view_sl x.is, scalar_sl x.is, cells_sl x.is, pure_sl x.is, c25z, hb]
    exact no (P := True) fun T => by have := (T.r i (by omega)).2.2; omega
  have RKi : RowK t.C L i := ⟨by rw [rx]; exact lx, CK, by omega⟩
  simp (disch := first | assumption | omega | (simp only [az]; done)) only [ru, eq_self, if_true, if_false, BEq.rfl, binI, AO.row?, splice, fillL, mmAll, loadV, storeV, zeros, Am.rowAt, Am.part, addOff, Nat.reduceAdd, Nat.reduceMul, Nat.reduceLeDiff, Nat.reduceSub, Nat.reduceLT, Int.reduceEq, Int.reduceLT, Int.reduceLE, Int.reduceGT, Int.reduceGE, Int.reduceAdd, Int.reduceSub, Int.reduceMul, Int.reduceNeg, Int.reduceToNat, reduceCtorEq, reduceIte, lenV_sl hL, elem_sl Ls.el hL, view_sl hL, scalar_sl hL, cells_sl hL, pure_sl hL, hlt, hlc, i0, Int.toNat_natCast, ← hx, Ls.e, lenV_sl x.is, elem_sl intE x.is, view_sl x.is, scalar_sl x.is, cells_sl x.is, pure_sl x.is, c25z, hb]
  clear hll q1 q2 q5 q6 ihC
  refine G_loop_ind (fun m ts hk mk => ∃ (c : Nat), c ≤ t.C ∧ m = t.C - c ∧ ts.length = 122 ∧ ts.getD 1 .undef = v ∧ ts.getD 2 .undef = .ptr 0 0 ∧ ts.getD 5 .undef = I i ∧ ts.getD 7 .undef = I c ∧ hk = [.cells [I t.ch, I t.tm, o, w] false] ∧ mk = [] ∧
    ∀ d, d < c → 0 < i → PasK t L (i - 1) d) ?_ _ _ _ _
    ⟨0, Nat.zero_le _, rfl, rfl, rfl, rfl, rfl, rfl, rfl, rfl, fun j hj => absurd hj (by omega)⟩
  rintro m ts hk mk ihC ⟨c, hc, rfl, hll, q1, q2, q5, q7, rfl, rfl, PKi⟩
  rw [lit_all hll]
  simp only [lit0, litS, Nat.reduceAdd, q1, q2, q5, q7]
  have next : (∀ d, d < t.C → 0 < i → PasK t L (i - 1) d) → (∀ j, j < i + 1 → RowK t.C L j) ∧ ∀ j, j + 1 < i + 1 → ∀ c, c < t.C → PasK t L j c := fun hP => by
    refine ⟨fun j hj => ?_, fun j hj c hc => ?_⟩
    · by_cases e : j = i
      · subst e; exact RKi
      · exact RK j (by omega)
    · by_cases e : j + 1 = i
      · have := hP c hc (by omega)
        rwa [show i - 1 = j by omega] at this
      · exact PK j (by omega) c hc
  by_cases hlc2 : (c : Int) < t.ch
  case neg =>
    have n := next fun d hd h0 => PKi d (by omega) h0
    simp (disch := first | assumption | omega | (simp only [az]; done)) only [ru, eq_self, if_true, if_false, BEq.rfl, binI, AO.row?, splice, fillL, mmAll, loadV, storeV, zeros, Am.rowAt, Am.part, addOff, Nat.reduceAdd, Nat.reduceMul, Nat.reduceLeDiff, Nat.reduceSub, Nat.reduceLT, Int.reduceEq, Int.reduceLT, Int.reduceLE, Int.reduceGT, Int.reduceGE, Int.reduceAdd, Int.reduceSub, Int.reduceMul, Int.reduceNeg, Int.reduceToNat, reduceCtorEq, reduceIte, lenV_sl H.o, lenV_sl H.w, elem_sl Ls.el H.o, elem_sl Wd.el H.w, view_sl H.o, view_sl H.w, scalar_sl H.o, scalar_sl H.w, cells_sl H.o, cells_sl H.w, pure_sl H.o, pure_sl H.w, Int.toNat_natCast, hlc2, gUn]
    exact ih (t.T - (i + 1)) _ _ _ (by omega) ⟨i + 1, by omega, rfl, rfl, rfl, rfl, rfl, rfl, rfl, n.1, n.2⟩
  by_cases hi0 : (i : Int) > 0
  case neg =>
    have n := next fun d hd h0 => by omega
    simp (disch := first | assumption | omega | (simp only [az]; done)) only [ru, eq_self, if_true, if_false, BEq.rfl, binI, AO.row?, splice, fillL, mmAll, loadV, storeV, zeros, Am.rowAt, Am.part, addOff, Nat.reduceAdd, Nat.reduceMul, Nat.reduceLeDiff, Nat.reduceSub, Nat.reduceLT, Int.reduceEq, Int.reduceLT, Int.reduceLE, Int.reduceGT, Int.reduceGE, Int.reduceAdd, Int.reduceSub, Int.reduceMul, Int.reduceNeg, Int.reduceToNat, reduceCtorEq, reduceIte, lenV_sl H.o, lenV_sl H.w, elem_sl Ls.el H.o, elem_sl Wd.el H.w, view_sl H.o, view_sl H.w, scalar_sl H.o, scalar_sl H.w, cells_sl H.o, cells_sl H.w, pure_sl H.o, pure_sl H.w, Int.toNat_natCast, hlc2, hi0, gUn]
    exact ih (t.T - (i + 1)) _ _ _ (by omega) ⟨i + 1, by omega, rfl, rfl, rfl, rfl, rfl, rfl, rfl, n.1, n.2⟩
  obtain ⟨j, rfl⟩ : ∃ j, i = j + 1 := ⟨i - 1, by omega⟩
  have ej : ((j + 1 : Nat) : Int) - 1 = j := by omega
  have wj : wr .i64 (j : Int) = j := wr64 (by omega) (by omega)
  have j0 : (0 : Int) ≤ j := by omega
  have j1 : (j : Int) < (L.length : Nat) := by omega
  have j2 : (j : Int) < (t.op.length : Nat) := by omega
  obtain ⟨x', hx'⟩ : ∃ x', x' = L.getD j default := ⟨_, rfl⟩
  have rx' : rowN L j = x'.list := by rw [hx']; rfl
  have RKj := RK j (by omega)
  have lx' : x'.list.length = t.C := by rw [← rx']; exact RKj.1
  have c25' := fun st => s25 x'.is (by omega) (by rw [← rx']; exact rowK_mem RKj) (c := c) (by omega) st
  have c25x := c25 c (by omega)
  have e1 : (x.list.drop c).sum = behN L (j + 1) c := by unfold behN; rw [rx]
  have e2 : (x'.list.drop c).sum = behN L j c := by unfold behN; rw [rx']
  rw [e1] at c25x
  rw [e2] at c25'
  obtain ⟨d, hd⟩ : ∃ d, d = behN L (j + 1) c - behN L j c := ⟨_, rfl⟩
  have bd1 := beh_bd RKi (by omega : t.C ≤ 4) (c := c)
  have bd2 := beh_bd RKj (by omega : t.C ≤ 4) (c := c)
  have wd : wr .i64 (behN L (j + 1) c - behN L j c) = d := by rw [hd]; exact wr64 (by omega) (by omega)
  have nextP : (0 ≤ d ∧ (0 < d → hasI (t.op.getD j default).list c = true)) → ∀ d', d' < c + 1 → 0 < j + 1 → PasK t L (j + 1 - 1) d' := fun h d' hd' h0 => by
    by_cases e : d' = c
    · subst e
      rw [Nat.add_sub_cancel]
      unfold PasK
      rw [← hd]; exact h
    · exact PKi d' (by omega) h0
  have bad : ¬ (0 ≤ d ∧ (0 < d → hasI (t.op.getD j default).list c = true)) → ¬ TruN t L := fun h T => h (by
    have := T.p j (by omega) c (by omega)
    unfold PasK at this
    rw [← hd] at this; exact this)
  obtain ⟨u, hu⟩ : ∃ u, u = t.op.getD j default := ⟨_, rfl⟩
  have uun := Ls.under H.sl (show j < t.op.length by omega)
  rw [← hu] at uun nextP bad
  have c40 := fun st => s40 u.is (by omega) c st
  have ex : x = L.getD (j + 1) default := hx
  by_cases g1 : d < 0
  · simp (disch := first | assumption | omega | (simp only [az]; done)) only [ru, eq_self, if_true, if_false, BEq.rfl, binI, AO.row?, splice, fillL, mmAll, loadV, storeV, zeros, Am.rowAt, Am.part, addOff, Nat.reduceAdd, Nat.reduceMul, Nat.reduceLeDiff, Nat.reduceSub, Nat.reduceLT, Int.reduceEq, Int.reduceLT, Int.reduceLE, Int.reduceGT, Int.reduceGE, Int.reduceAdd, Int.reduceSub, Int.reduceMul, Int.reduceNeg, Int.reduceToNat, reduceCtorEq, reduceIte, lenV_sl H.o, lenV_sl H.w, elem_sl Ls.el H.o, elem_sl Wd.el H.w, view_sl H.o, view_sl H.w, scalar_sl H.o, scalar_sl H.w, cells_sl H.o, cells_sl H.w, pure_sl H.o, pure_sl H.w, Int.toNat_natCast, lenV_sl hL, elem_sl Ls.el hL, view_sl hL, scalar_sl hL, cells_sl hL, pure_sl hL, hlc2, hi0, i0, hlt, Int.toNat_natCast, ← hx, Ls.e, lenV_sl x.is, elem_sl intE x.is, view_sl x.is, scalar_sl x.is, cells_sl x.is, pure_sl x.is, c25x, ej, j0, j1, ← hx', lenV_sl x'.is, elem_sl intE x'.is, view_sl x'.is, scalar_sl x'.is, cells_sl x'.is, pure_sl x'.is, c25', wd, g1, gUn]
    exact no (P := True) (bad fun h => by omega)
  by_cases g2 : d > 0
  · cases hh : hasI u.list c
    · simp (disch := first | assumption | omega | (simp only [az]; done)) only [ru, eq_self, if_true, if_false, BEq.rfl, binI, AO.row?, splice, fillL, mmAll, loadV, storeV, zeros, Am.rowAt, Am.part, addOff, Nat.reduceAdd, Nat.reduceMul, Nat.reduceLeDiff, Nat.reduceSub, Nat.reduceLT, Int.reduceEq, Int.reduceLT, Int.reduceLE, Int.reduceGT, Int.reduceGE, Int.reduceAdd, Int.reduceSub, Int.reduceMul, Int.reduceNeg, Int.reduceToNat, reduceCtorEq, reduceIte, lenV_sl H.o, lenV_sl H.w, elem_sl Ls.el H.o, elem_sl Wd.el H.w, view_sl H.o, view_sl H.w, scalar_sl H.o, scalar_sl H.w, cells_sl H.o, cells_sl H.w, pure_sl H.o, pure_sl H.w, Int.toNat_natCast, lenV_sl hL, elem_sl Ls.el hL, view_sl hL, scalar_sl hL, cells_sl hL, pure_sl hL, hlc2, hi0, i0, hlt, Int.toNat_natCast, ← hx, Ls.e, lenV_sl x.is, elem_sl intE x.is, view_sl x.is, scalar_sl x.is, cells_sl x.is, pure_sl x.is, c25x, ej, j0, j1, j2, ← hx', lenV_sl x'.is, elem_sl intE x'.is, view_sl x'.is, scalar_sl x'.is, cells_sl x'.is, pure_sl x'.is, c25', wd, g1, g2, ← hu, lenV_sl u.is, elem_sl intE u.is, view_sl u.is, scalar_sl u.is, cells_sl u.is, pure_sl u.is, c40, hh, gUn]
      exact no (P := True) (bad fun h => by have := h.2 g2; rw [hh] at this; cases this)
    · have nP := nextP ⟨by omega, fun _ => hh⟩
      simp (disch := first | assumption | omega | (simp only [az]; done)) only [ru, eq_self, if_true, if_false, BEq.rfl, binI, AO.row?, splice, fillL, mmAll, loadV, storeV, zeros, Am.rowAt, Am.part, addOff, Nat.reduceAdd, Nat.reduceMul, Nat.reduceLeDiff, Nat.reduceSub, Nat.reduceLT, Int.reduceEq, Int.reduceLT, Int.reduceLE, Int.reduceGT, Int.reduceGE, Int.reduceAdd, Int.reduceSub, Int.reduceMul, Int.reduceNeg, Int.reduceToNat, reduceCtorEq, reduceIte, lenV_sl H.o, lenV_sl H.w, elem_sl Ls.el H.o, elem_sl Wd.el H.w, view_sl H.o, view_sl H.w, scalar_sl H.o, scalar_sl H.w, cells_sl H.o, cells_sl H.w, pure_sl H.o, pure_sl H.w, Int.toNat_natCast, lenV_sl hL, elem_sl Ls.el hL, view_sl hL, scalar_sl hL, cells_sl hL, pure_sl hL, hlc2, hi0, i0, hlt, Int.toNat_natCast, ← hx, Ls.e, lenV_sl x.is, elem_sl intE x.is, view_sl x.is, scalar_sl x.is, cells_sl x.is, pure_sl x.is, c25x, ej, j0, j1, j2, ← hx', lenV_sl x'.is, elem_sl intE x'.is, view_sl x'.is, scalar_sl x'.is, cells_sl x'.is, pure_sl x'.is, c25', wd, g1, g2, ← hu, lenV_sl u.is, elem_sl intE u.is, view_sl u.is, scalar_sl u.is, cells_sl u.is, pure_sl u.is, c40, hh, gUn]
      exact ihC (t.C - (c + 1)) _ _ _ (by omega) ⟨c + 1, by omega, rfl, rfl, rfl, rfl, rfl, rfl, rfl, rfl, nP⟩
  · have nP := nextP ⟨by omega, fun h => by omega⟩
    simp (disch := first | assumption | omega | (simp only [az]; done)) only [ru, eq_self, if_true, if_false, BEq.rfl, binI, AO.row?, splice, fillL, mmAll, loadV, storeV, zeros, Am.rowAt, Am.part, addOff, Nat.reduceAdd, Nat.reduceMul, Nat.reduceLeDiff, Nat.reduceSub, Nat.reduceLT, Int.reduceEq, Int.reduceLT, Int.reduceLE, Int.reduceGT, Int.reduceGE, Int.reduceAdd, Int.reduceSub, Int.reduceMul, Int.reduceNeg, Int.reduceToNat, reduceCtorEq, reduceIte, lenV_sl H.o, lenV_sl H.w, elem_sl Ls.el H.o, elem_sl Wd.el H.w, view_sl H.o, view_sl H.w, scalar_sl H.o, scalar_sl H.w, cells_sl H.o, cells_sl H.w, pure_sl H.o, pure_sl H.w, Int.toNat_natCast, lenV_sl hL, elem_sl Ls.el hL, view_sl hL, scalar_sl hL, cells_sl hL, pure_sl hL, hlc2, hi0, i0, hlt, Int.toNat_natCast, ← hx, Ls.e, lenV_sl x.is, elem_sl intE x.is, view_sl x.is, scalar_sl x.is, cells_sl x.is, pure_sl x.is, c25x, ej, j0, j1, j2, ← hx', lenV_sl x'.is, elem_sl intE x'.is, view_sl x'.is, scalar_sl x'.is, cells_sl x'.is, pure_sl x'.is, c25', wd, g1, g2, gUn]
    exact ihC (t.C - (c + 1)) _ _ _ (by omega) ⟨c + 1, by omega, rfl, rfl, rfl, rfl, rfl, rfl, rfl, rfl, nP⟩
end Go.Proofs.Ytjaaefdhdggnkaa.S

/-
Numbers and truths; the law of both ends.
-/
namespace Go.Proofs.Ytjaaefdhdggnkaa.S
open Go Go.Am Go.Proofs.Ytjaaefdhdggnkaa.T
set_option maxRecDepth 100000
set_option linter.unusedSimpArgs false
set_option linter.unusedVariables false

theorem numL_row {C T i : Nat} {x : Nat → Int} (hi : i < T) : rowN (numL C T x) i = rowG C x i := by
  unfold rowN
  rw [numL_at hi]; rfl
theorem rowG_drop {C i : Nat} {x : Nat → Int} : ∀ n c, c + n = C → ((rowG C x i).drop c).sum = x (sumN C i c) - x (sumN C i C)
  | 0, c, h => by
    have : c = C := by omega
    subst this
    rw [List.drop_eq_nil_of_le (by rw [rowG_len]; exact Nat.le_refl _)]
    simp
  | n + 1, c, h => by
    rw [drop_sum (by rw [rowG_len]; omega), rowG_at (by omega), rowG_drop n (c + 1) (by omega)]
    unfold gap; omega
theorem numL_beh {C T i c : Nat} {x : Nat → Int} (hi : i < T) (hc : c ≤ C) : behN (numL C T x) i c = x (sumN C i c) - x 0 := by
  unfold behN
  rw [numL_row hi, rowG_drop (C - c) c (by omega), sumN_last]
theorem numL_num {C T i c : Nat} {x : Nat → Int} (hi : i < T) (hc : c < C) : numN (numL C T x) i c = gap C x i c := by
  unfold numN
  rw [numL_row hi, rowG_at hc]
section
variable {t : Trap}
theorem may_has {i c : Nat} : 0 < mayP t.op i c ↔ hasI (t.op.getD i default).list c = true := by
  unfold mayP
  split <;> simp_all
theorem word_in (V : TrB t) {k : Nat} (hk : k < t.ws.length) : (t.ws.getD k default).time.toNat < t.T ∧ (t.ws.getD k default).ch.toNat < t.C :=
  word_at V (trC V) (trT V) (mem_getD hk)
/-- a truth's numbers are a truth -/
theorem tr_num (V : TrB t) {x : Nat → Int} (hx : Tr t x) : TruN t (numL t.C t.T x) := by
  have v1 := V.c0; have v2 := V.c1; have v4 := V.t1; have vo := V.o
  have eC := trC V; have eT := trT V
  refine ⟨numL_len, fun i hi => ⟨by rw [numL_row hi, rowG_len], fun c hc => ?_, ?_⟩, fun i hi c hc => ?_, fun k hk => ?_⟩
  · rw [numL_num hi hc]; exact hx.2.f i c hi hc
  · rw [numL_beh hi (Nat.zero_le _)]
    exact (sat_wid.1 hx.1).1 _ 0 (sumN_lt (by omega) (by omega) (by omega)) (by omega) (by rw [sumN_in (by omega)]; omega)
  · have m := hx.2.m i c (by omega) hc
    unfold flow at m
    unfold PasK
    rw [numL_beh hi (by omega), numL_beh (by omega) (by omega)]
    refine ⟨by omega, fun h => ?_⟩
    rw [← may_has]
    omega
  · have w := hx.2.w k hk
    have wi := word_in V hk
    rw [numL_num wi.1 wi.2]
    exact w
/-- the sums of numbers -/
def xN (C T : Nat) (L : List Ls) : Nat → Int := fun k => if k = 0 then 0 else if (k - 1) / 4 < T ∧ (k - 1) % 4 < C then behN L ((k - 1) / 4) ((k - 1) % 4) else 0
theorem xN_at {C T i c : Nat} {L : List Ls} (hC : C ≤ 4) (hi : i < T) (hc : c < C) : xN C T L (sumN C i c) = behN L i c := by
  rw [sumN_in hc]
  unfold xN
  have e1 : (1 + i * 4 + c - 1) / 4 = i := by omega
  have e2 : (1 + i * 4 + c - 1) % 4 = c := by omega
  rw [if_neg (by omega), e1, e2, if_pos ⟨hi, hc⟩]
theorem xN_le {C T i c : Nat} {L : List Ls} (hC : C ≤ 4) (hi : i < T) (hc : c ≤ C) (h : RowK C L i) : xN C T L (sumN C i c) = behN L i c := by
  by_cases e : c = C
  · subst e
    rw [sumN_last]
    unfold behN
    rw [List.drop_eq_nil_of_le (by rw [h.1]; exact Nat.le_refl _)]
    rfl
  · exact xN_at hC hi (by omega)
theorem beh_le {C : Nat} {L : List Ls} {i : Nat} (h : RowK C L i) : ∀ c, c ≤ C → behN L i c ≤ behN L i 0
  | 0, _ => Int.le_refl _
  | c + 1, hc => by
    have h1 := beh_le h c (by omega)
    have h2 := (h.2.1 c (by omega)).1
    have h3 := drop_sum (l := rowN L i) (i := c) (by rw [h.1]; omega)
    unfold numN at h2
    unfold behN at *
    omega
theorem num_tr (V : TrB t) {L : List Ls} (h : TruN t L) : ∃ x, Tr t x ∧ (∀ i c, i < t.T → c < t.C → numN L i c = gap t.C x i c) ∧ ∀ i c, i < t.T → c ≤ t.C → behN L i c = x (sumN t.C i c) - x 0 := by
  have v1 := V.c0; have v2 := V.c1; have v4 := V.t1; have vo := V.o
  have eC := trC V; have eT := trT V
  have hC : t.C ≤ 4 := by omega
  obtain ⟨x, hx⟩ : ∃ x, x = xN t.C t.T L := ⟨_, rfl⟩
  have x0 : x 0 = 0 := by rw [hx]; rfl
  have at' : ∀ i c, i < t.T → c ≤ t.C → x (sumN t.C i c) = behN L i c := fun i c hi hc => by rw [hx]; exact xN_le hC hi hc (h.r i hi)
  have g : ∀ i c, i < t.T → c < t.C → numN L i c = gap t.C x i c := fun i c hi hc => by
    unfold gap
    rw [at' i c hi (by omega), at' i (c + 1) hi (by omega)]
    have h3 := drop_sum (l := rowN L i) (i := c) (by rw [(h.r i hi).1]; omega)
    unfold behN numN
    omega
  have bd : ∀ k, 0 ≤ x k ∧ x k ≤ 40 := by
    intro k
    rw [hx]
    unfold xN
    split
    · omega
    · split
      · rename_i hk
        have r := h.r _ hk.1
        have a := beh_le r _ (Nat.le_of_lt hk.2)
        have b := (beh_bd r hC (c := (k - 1) % 4)).1
        have c := r.2.2
        omega
      · omega
  refine ⟨x, ⟨sat_wid.2 ⟨fun k l _ _ _ => by have := bd k; have := bd l; omega, fun l _ => by have := bd l; omega⟩, ⟨fun i c hi hc => ?_, fun i c hi hc => ?_, fun k hk => ?_⟩⟩, g, fun i c hi hc => by rw [at' i c hi hc, x0]; omega⟩
  · rw [← g i c hi hc]; exact (h.r i hi).2.1 c hc
  · have p := h.p i (by omega) c hc
    unfold flow
    rw [at' (i + 1) c (by omega) (by omega), at' i c (by omega) (by omega)]
    refine ⟨p.1, ?_⟩
    have ml := @mayP_le t.op i c
    by_cases hd : 0 < behN L (i + 1) c - behN L i c
    · have : mayP t.op i c = 40 := by unfold mayP; rw [if_pos (p.2 hd)]
      rw [this]
      have r := h.r (i + 1) (by omega)
      have a := beh_le r c (by omega)
      have b := (beh_bd (h.r i (by omega)) hC (c := c)).1
      have d := r.2.2
      omega
    · omega
  · have w := h.w k hk
    have wi := word_in V hk
    rw [g _ _ wi.1 wi.2] at w
    exact w
end
theorem s26 (a b n : Int) (st : Bool) : Iso E 26 [.agg [I a, I b], I n] st = some (Bo (decide (a ≤ n) && decide (n ≤ b))) := by
  refine Iso_of (es _ _ _ _) e26 ?_
  simp only [f26]
  by_cases h1 : a ≤ n <;> by_cases h2 : n ≤ b <;> simp (disch := first | assumption | omega | (simp only [az]; done)) only [ru, eq_self, if_true, if_false, BEq.rfl, binI, AO.row?, splice, fillL, mmAll, loadV, storeV, zeros, Am.rowAt, Am.part, addOff, Nat.reduceAdd, Nat.reduceMul, Nat.reduceLeDiff, Nat.reduceSub, Nat.reduceLT, Int.reduceEq, Int.reduceLT, Int.reduceLE, Int.reduceGT, Int.reduceGE, Int.reduceAdd, Int.reduceSub, Int.reduceMul, Int.reduceNeg, Int.reduceToNat, reduceCtorEq, reduceIte, h1, h2, gUn, decide_true, decide_false, Bool.and_self, Bool.and_false, Bool.and_true, Bool.false_and]
theorem num_huge {C T : Nat} {x : Nat → Int} (hC : C ≤ 4) (hT : T ≤ 5) : hugeL (numL C T x) = false := by
  unfold hugeL
  rw [numL_len, decide_eq_false (by omega), Bool.false_or]
  refine any_not ?_
  rw [List.all_eq_true]
  intro i hi
  rw [List.mem_range] at hi
  rw [numL_at hi, Ls.of_list, rowG_len]
  simp; omega

set_option maxHeartbeats 4000000 in
theorem s4 {t : Trap} {o w : AV} (H0 : TrIn t o w) (a b : Int) : Iso E 4 [trV t o w, .agg [I a, I b]] false = some (Bo true) := by
  have ho := H0.o
  have hw := H0.w
  have c16 := fun st => s16 H0 st
  have d19 := s19
  cases hr : rdy t
  case false =>
    refine Iso_of (es _ _ _ _) e4 ?_
    simp only [f4, trV, hr] at c16 ⊢
    simp (disch := first | assumption | omega | (simp only [az]; done)) only [ru, eq_self, if_true, if_false, BEq.rfl, binI, AO.row?, splice, fillL, mmAll, loadV, storeV, zeros, Am.rowAt, Am.part, addOff, Nat.reduceAdd, Nat.reduceMul, Nat.reduceLeDiff, Nat.reduceSub, Nat.reduceLT, Int.reduceEq, Int.reduceLT, Int.reduceLE, Int.reduceGT, Int.reduceGE, Int.reduceAdd, Int.reduceSub, Int.reduceMul, Int.reduceNeg, Int.reduceToNat, reduceCtorEq, reduceIte, lenV_sl ho, elem_sl Ls.el ho, view_sl ho, scalar_sl ho, cells_sl ho, pure_sl ho, lenV_sl hw, elem_sl Wd.el hw, view_sl hw, scalar_sl hw, cells_sl hw, pure_sl hw, c16, d19, gUn]
  obtain ⟨hg, hv⟩ := rdy_h hr
  have H := H0.ok hg
  have V := valid_trb hv
  have h8 := valid_w8 hv
  have v1 := V.c0; have v2 := V.c1; have v3 := V.t0; have v4 := V.t1
  have eC := trC V; have eT := trT V
  simp only [trV, hr] at c16
  by_cases l8 : t.ws.length = 8
  · have l8' : ((t.ws.length : Int) == 8) = true := by rw [l8]; rfl
    refine Iso_of (es _ _ _ _) e4 ?_
    simp only [f4, trV]
    simp (disch := first | assumption | omega | (simp only [az]; done)) only [ru, eq_self, if_true, if_false, BEq.rfl, binI, AO.row?, splice, fillL, mmAll, loadV, storeV, zeros, Am.rowAt, Am.part, addOff, Nat.reduceAdd, Nat.reduceMul, Nat.reduceLeDiff, Nat.reduceSub, Nat.reduceLT, Int.reduceEq, Int.reduceLT, Int.reduceLE, Int.reduceGT, Int.reduceGE, Int.reduceAdd, Int.reduceSub, Int.reduceMul, Int.reduceNeg, Int.reduceToNat, reduceCtorEq, reduceIte, lenV_sl ho, elem_sl Ls.el ho, view_sl ho, scalar_sl ho, cells_sl ho, pure_sl ho, lenV_sl hw, elem_sl Wd.el hw, view_sl hw, scalar_sl hw, cells_sl hw, pure_sl hw, c16, l8', d19, gUn]
  have l8' : ((t.ws.length : Int) == 8) = false := by simp; omega
  have c31 := fun st => s31 H a b st
  simp only [wrT hv, wrC hv, trV] at c31
  cases hp : inR a 0 (t.tm - 1) && inR b 0 (t.ch - 1)
  · rw [hp] at c31
    refine Iso_of (es _ _ _ _) e4 ?_
    simp only [f4, trV]
    simp (disch := first | assumption | omega | (simp only [az]; done)) only [ru, eq_self, if_true, if_false, BEq.rfl, binI, AO.row?, splice, fillL, mmAll, loadV, storeV, zeros, Am.rowAt, Am.part, addOff, Nat.reduceAdd, Nat.reduceMul, Nat.reduceLeDiff, Nat.reduceSub, Nat.reduceLT, Int.reduceEq, Int.reduceLT, Int.reduceLE, Int.reduceGT, Int.reduceGE, Int.reduceAdd, Int.reduceSub, Int.reduceMul, Int.reduceNeg, Int.reduceToNat, reduceCtorEq, reduceIte, lenV_sl ho, elem_sl Ls.el ho, view_sl ho, scalar_sl ho, cells_sl ho, pure_sl ho, lenV_sl hw, elem_sl Wd.el hw, view_sl hw, scalar_sl hw, cells_sl hw, pure_sl hw, c16, l8', c31, d19, gUn]
  rw [hp] at c31
  simp only [Bool.and_eq_true, inR_iff] at hp
  have pb : placeB t a b = true := by simp only [placeB, Bool.and_eq_true, decide_eq_true_eq]; omega
  obtain ⟨i, rfl⟩ : ∃ i : Nat, a = i := ⟨a.toNat, by omega⟩
  obtain ⟨c, rfl⟩ : ∃ c : Nat, b = c := ⟨b.toNat, by omega⟩
  have hi : i < t.T := by omega
  have hc : c < t.C := by omega
  obtain ⟨lo, hi', e, c32, A⟩ := s32 H i c
  obtain ⟨kv, f, c33, A2⟩ := s33 H
  simp only [trV] at c32 c33
  by_cases hs : Solv t.C t.T t
  case neg =>
    obtain ⟨rfl, rfl, rfl⟩ := A.non hv pb hs
    have hf : f = 3 ∧ kv = .nils := by
      cases A2 with
      | bad h => rw [hv] at h; cases h
      | none _ _ => exact ⟨rfl, rfl⟩
      | ok _ hx => exact absurd ⟨_, hx⟩ hs
    obtain ⟨rfl, rfl⟩ := hf
    refine Iso_of (es _ _ _ _) e4 ?_
    simp only [f4, trV]
    simp (disch := first | assumption | omega | (simp only [az]; done)) only [ru, eq_self, if_true, if_false, BEq.rfl, binI, AO.row?, splice, fillL, mmAll, loadV, storeV, zeros, Am.rowAt, Am.part, addOff, Nat.reduceAdd, Nat.reduceMul, Nat.reduceLeDiff, Nat.reduceSub, Nat.reduceLT, Int.reduceEq, Int.reduceLT, Int.reduceLE, Int.reduceGT, Int.reduceGE, Int.reduceAdd, Int.reduceSub, Int.reduceMul, Int.reduceNeg, Int.reduceToNat, reduceCtorEq, reduceIte, lenV_sl ho, elem_sl Ls.el ho, view_sl ho, scalar_sl ho, cells_sl ho, pure_sl ho, lenV_sl hw, elem_sl Wd.el hw, view_sl hw, scalar_sl hw, cells_sl hw, pure_sl hw, c16, l8', c31, c32, c33, d19, gUn]
  obtain ⟨rfl, X⟩ := A.val hv pb hs
  have hf : ∃ x, f = 0 ∧ kv = slV 1 Ls.e (numL t.C t.T x) := by
    cases A2 with
    | bad h => rw [hv] at h; cases h
    | none _ h => exact absurd hs h
    | @ok x _ hx => exact ⟨x, rfl, rfl⟩
  obtain ⟨x9, rfl, rfl⟩ := hf
  simp only [Int.toNat_natCast] at X
  have bd := xt_bd hi hc X
  obtain ⟨xb, _⟩ := xt_tr X
  try simp only at xb
  have n1 : ¬ lo < 0 := by omega
  have n2 : ¬ lo > hi' := by omega
  have n3 : ¬ hi' > 40 := by omega
  have w1 : wr .i64 (lo - 1) = lo - 1 := wr64 (by omega) (by omega)
  have w2 : wr .i64 (hi' + 1) = hi' + 1 := wr64 (by omega) (by omega)
  obtain ⟨n0, hn0⟩ : ∃ n0, n0 = mmx true 0 (lo - 1) := ⟨_, rfl⟩
  obtain ⟨nE, hnE⟩ : ∃ nE, nE = mmx false (hi' + 1) 40 := ⟨_, rfl⟩
  have b0 : 0 ≤ n0 ∧ n0 ≤ 40 := by
    have : n0 = if lo - 1 > 0 then lo - 1 else 0 := hn0
    split at this <;> omega
  have bE : nE ≤ 40 := by
    have : nE = if 40 < hi' + 1 then 40 else hi' + 1 := hnE
    split at this <;> omega
  have is := @slV_is Ls 1 Ls.e (numL t.C t.T x9)
  obtain ⟨kv, hkv⟩ : ∃ kv, kv = slV 1 Ls.e (numL t.C t.T x9) := ⟨_, rfl⟩
  rw [← hkv] at is c33
  refine Iso_of (es _ _ _ _) e4 ?_
  simp only [f4, trV]
  simp (disch := first | assumption | omega | (simp only [az]; done)) only [ru, eq_self, if_true, if_false, BEq.rfl, binI, AO.row?, splice, fillL, mmAll, loadV, storeV, zeros, Am.rowAt, Am.part, addOff, Nat.reduceAdd, Nat.reduceMul, Nat.reduceLeDiff, Nat.reduceSub, Nat.reduceLT, Int.reduceEq, Int.reduceLT, Int.reduceLE, Int.reduceGT, Int.reduceGE, Int.reduceAdd, Int.reduceSub, Int.reduceMul, Int.reduceNeg, Int.reduceToNat, reduceCtorEq, reduceIte, lenV_sl ho, elem_sl Ls.el ho, view_sl ho, scalar_sl ho, cells_sl ho, pure_sl ho, lenV_sl hw, elem_sl Wd.el hw, view_sl hw, scalar_sl hw, cells_sl hw, pure_sl hw, lenV_sl is, elem_sl Ls.el is, view_sl is, scalar_sl is, cells_sl is, pure_sl is, c16, l8', c31, c32, c33, n1, n2, n3, w1, ← hn0, gUn]
  refine G_loop_ind (fun z ts hk mk => ∃ (n : Int), 0 ≤ n ∧ n ≤ 41 ∧ z = (nE + 1 - n).toNat ∧ ts.length = 145 ∧ ts.getD 2 .undef = .ptr 0 0 ∧ ts.getD 3 .undef = .ptr 1 0 ∧ ts.getD 5 .undef = .ptr 2 0 ∧ ts.getD 9 .undef = I n ∧
    hk = [.cells [I t.ch, I t.tm, o, w] false, .cells [I i, I c] false, .cells [I lo, I hi'] false] ∧ mk = []) ?_ _ _ _ _
    ⟨n0, by omega, by omega, rfl, rfl, rfl, rfl, rfl, rfl, rfl, rfl⟩
  rintro z ts hk mk ih ⟨n, m0, m1, rfl, hl, q2, q3, q5, q9, rfl, rfl⟩
  rw [lit_all hl]
  simp only [lit0, litS, Nat.reduceAdd, q2, q3, q5, q9]
  simp (disch := first | assumption | omega | (simp only [az]; done)) only [ru, eq_self, if_true, if_false, BEq.rfl, binI, AO.row?, splice, fillL, mmAll, loadV, storeV, zeros, Am.rowAt, Am.part, addOff, Nat.reduceAdd, Nat.reduceMul, Nat.reduceLeDiff, Nat.reduceSub, Nat.reduceLT, Int.reduceEq, Int.reduceLT, Int.reduceLE, Int.reduceGT, Int.reduceGE, Int.reduceAdd, Int.reduceSub, Int.reduceMul, Int.reduceNeg, Int.reduceToNat, reduceCtorEq, reduceIte, w2, ← hnE]
  by_cases hlt : n ≤ nE
  case neg =>
    simp (disch := first | assumption | omega | (simp only [az]; done)) only [ru, eq_self, if_true, if_false, BEq.rfl, binI, AO.row?, splice, fillL, mmAll, loadV, storeV, zeros, Am.rowAt, Am.part, addOff, Nat.reduceAdd, Nat.reduceMul, Nat.reduceLeDiff, Nat.reduceSub, Nat.reduceLT, Int.reduceEq, Int.reduceLT, Int.reduceLE, Int.reduceGT, Int.reduceGE, Int.reduceAdd, Int.reduceSub, Int.reduceMul, Int.reduceNeg, Int.reduceToNat, reduceCtorEq, reduceIte, hlt, d19]
  have hn40 : n ≤ 40 := by omega
  have wn : wr .i64 (n + 1) = n + 1 := wr64 (by omega) (by omega)
  by_cases g1 : n > lo ∧ n < hi'
  · have g2 := g1.1; have g3 := g1.2
    simp (disch := first | assumption | omega | (simp only [az]; done)) only [ru, eq_self, if_true, if_false, BEq.rfl, binI, AO.row?, splice, fillL, mmAll, loadV, storeV, zeros, Am.rowAt, Am.part, addOff, Nat.reduceAdd, Nat.reduceMul, Nat.reduceLeDiff, Nat.reduceSub, Nat.reduceLT, Int.reduceEq, Int.reduceLT, Int.reduceLE, Int.reduceGT, Int.reduceGE, Int.reduceAdd, Int.reduceSub, Int.reduceMul, Int.reduceNeg, Int.reduceToNat, reduceCtorEq, reduceIte, hlt, g2, g3, wn, gUn]
    exact ih _ _ _ _ (by omega) ⟨n + 1, by omega, by omega, rfl, rfl, rfl, rfl, rfl, rfl, rfl, rfl⟩
  obtain ⟨y, hy⟩ : ∃ y : Wd, y = ⟨i, c, n, n⟩ := ⟨_, rfl⟩
  have hyf : fitB t y = true := by
    rw [hy]
    simp only [fitB, placeB, Bool.and_eq_true, decide_eq_true_eq]; omega
  have c34 := s34 H (by omega) i c n
  rw [← hy] at c34
  have HA := add_ok H (by omega) y
  have VA : (t.add y).valid = true := trb_valid (add_trb V h8 hyf) (by simp [Trap.add]; omega)
  have VAc : (t.add y).cp.valid = true := cp_valid.trans VA
  refine (s33 HA).elim fun kw h => h.elim fun f2 h => ?_
  have c33b := h.1
  have A3 := h.2
  clear h
  have hq := HA.o
  have hq' := HA.w
  have c34' : ∀ u1 u2 : AV, u1 = cpO (t.add y).op → u2 = slV 4 Wd.e (t.add y).ws → Iso E 34 [.agg [I t.ch, I t.tm, o, w], .agg [I i, I c], I n] false = some (.agg [I t.ch, I t.tm, u1, u2]) := by rintro _ _ rfl rfl; exact c34
  have c33c : ∀ u1 u2 : AV, u1 = cpO (t.add y).op → u2 = slV 4 Wd.e (t.add y).ws → ∀ st, Iso E 33 [.agg [I t.ch, I t.tm, u1, u2]] st = some (.tup [kw, I f2]) := by rintro _ _ rfl rfl; exact c33b
  generalize eo : cpO (t.add y).op = o' at hq c34' c33c
  generalize ew : slV 4 Wd.e (t.add y).ws = w' at hq' c34' c33c
  have d34 := c34' _ _ rfl rfl
  have d33 := c33c _ _ rfl rfl
  clear c34' c33c c33b c34 HA
  have gin : ∀ x, Tr (t.add y) x ↔ Tr t x ∧ gap t.C x i c = n := fun x => by
    rw [tr_add, hy]
    unfold saysW
    simp only [Int.toNat_natCast]
    constructor
    · rintro ⟨h1, h2, h3⟩; exact ⟨h1, by omega⟩
    · rintro ⟨h1, h2⟩; exact ⟨h1, by omega, by omega⟩
  by_cases g4 : lo ≤ n ∧ n ≤ hi'
  · have fx : ∃ x, f2 = 0 ∧ kw = slV 1 Ls.e (numL t.C t.T x) ∧ Tr t x ∧ gap t.C x i c = n := by
      cases A3 with
      | bad hb => rw [VAc] at hb; cases hb
      | none _ hb =>
        obtain ⟨x, hx, e⟩ := midG H V hi hc X g4.1 g4.2
        have := tr_cp.2 ((gin x).2 ⟨hx, e⟩)
        exact absurd ⟨x, this.1, this.2⟩ hb
      | @ok x _ hx => exact ⟨x, rfl, rfl, (gin x).1 (tr_cp.1 hx)⟩
    refine fx.elim fun x h => ?_
    obtain ⟨rfl, rfl, tx, gx⟩ := h
    have is2 := @slV_is Ls 1 Ls.e (numL t.C t.T x)
    have nl : (numL t.C t.T x).length = t.T := numL_len
    refine (s18 H hv is2 (by omega) (by
      intro u hu
      unfold numL at hu
      obtain ⟨j, _, rfl⟩ := List.mem_map.1 hu
      rw [Ls.of_list, rowG_len]; omega)).elim fun b h => ?_
    have c18 := h.1
    have hb : b = true := h.2.2 (tr_num V tx)
    subst hb
    clear h
    have c17 := fun st => s17 is2 st
    rw [num_huge (by omega) (by omega)] at c17
    generalize ek : slV 1 Ls.e (numL t.C t.T x) = kz at is2 c18 c17 d33
    have i0 : (0 : Int) ≤ i := by omega
    have c0 : (0 : Int) ≤ c := by omega
    have i1 : (i : Int) < ((numL t.C t.T x).length : Nat) := by omega
    have at1 := numL_at (C := t.C) (x := x) hi
    obtain ⟨u, hu⟩ : ∃ u : Ls, u = ⟨rowG t.C x i, false⟩ := ⟨_, rfl⟩
    rw [← hu] at at1
    have ul : u.list = rowG t.C x i := by rw [hu]; rfl
    have c1 : (c : Int) < (u.list.length : Nat) := by rw [ul, rowG_len]; omega
    have cg : u.list.getD c default = n := by
      rw [ul, ← gx]
      exact rowG_at hc
    have h1 := g4.1; have h2 := g4.2
    have ne : (n != n) = false := by simp
    simp only [trV] at c18
    by_cases g2 : n > lo
    · have g3 : ¬ n < hi' := fun h => g1 ⟨g2, h⟩
      simp (disch := first | assumption | omega | (simp only [az]; done)) only [ru, eq_self, if_true, if_false, BEq.rfl, binI, AO.row?, splice, fillL, mmAll, loadV, storeV, zeros, Am.rowAt, Am.part, addOff, Nat.reduceAdd, Nat.reduceMul, Nat.reduceLeDiff, Nat.reduceSub, Nat.reduceLT, Int.reduceEq, Int.reduceLT, Int.reduceLE, Int.reduceGT, Int.reduceGE, Int.reduceAdd, Int.reduceSub, Int.reduceMul, Int.reduceNeg, Int.reduceToNat, reduceCtorEq, reduceIte, hlt, g2, g3, wn, d34, lenV_sl hq, elem_sl Ls.el hq, view_sl hq, scalar_sl hq, cells_sl hq, pure_sl hq, lenV_sl hq', elem_sl Wd.el hq', view_sl hq', scalar_sl hq', cells_sl hq', pure_sl hq', d33, lenV_sl is2, elem_sl Ls.el is2, view_sl is2, scalar_sl is2, cells_sl is2, pure_sl is2, s26, h1, h2, c17, ho, lenV_sl ho, elem_sl Ls.el ho, view_sl ho, scalar_sl ho, cells_sl ho, pure_sl ho, lenV_sl hw, elem_sl Wd.el hw, view_sl hw, scalar_sl hw, cells_sl hw, pure_sl hw, c18, i0, c0, i1, at1, Ls.e, lenV_sl u.is, elem_sl intE u.is, view_sl u.is, scalar_sl u.is, cells_sl u.is, pure_sl u.is, Int.toNat_natCast, c1, cg, ne, gUn, decide_true, decide_false, Bool.and_self]
      exact ih _ _ _ _ (by omega) ⟨n + 1, by omega, by omega, rfl, rfl, rfl, rfl, rfl, rfl, rfl, rfl⟩
    · simp (disch := first | assumption | omega | (simp only [az]; done)) only [ru, eq_self, if_true, if_false, BEq.rfl, binI, AO.row?, splice, fillL, mmAll, loadV, storeV, zeros, Am.rowAt, Am.part, addOff, Nat.reduceAdd, Nat.reduceMul, Nat.reduceLeDiff, Nat.reduceSub, Nat.reduceLT, Int.reduceEq, Int.reduceLT, Int.reduceLE, Int.reduceGT, Int.reduceGE, Int.reduceAdd, Int.reduceSub, Int.reduceMul, Int.reduceNeg, Int.reduceToNat, reduceCtorEq, reduceIte, hlt, g2, wn, d34, lenV_sl hq, elem_sl Ls.el hq, view_sl hq, scalar_sl hq, cells_sl hq, pure_sl hq, lenV_sl hq', elem_sl Wd.el hq', view_sl hq', scalar_sl hq', cells_sl hq', pure_sl hq', d33, lenV_sl is2, elem_sl Ls.el is2, view_sl is2, scalar_sl is2, cells_sl is2, pure_sl is2, s26, h1, h2, c17, ho, lenV_sl ho, elem_sl Ls.el ho, view_sl ho, scalar_sl ho, cells_sl ho, pure_sl ho, lenV_sl hw, elem_sl Wd.el hw, view_sl hw, scalar_sl hw, cells_sl hw, pure_sl hw, c18, i0, c0, i1, at1, Ls.e, lenV_sl u.is, elem_sl intE u.is, view_sl u.is, scalar_sl u.is, cells_sl u.is, pure_sl u.is, Int.toNat_natCast, c1, cg, ne, gUn, decide_true, decide_false, Bool.and_self]
      exact ih _ _ _ _ (by omega) ⟨n + 1, by omega, by omega, rfl, rfl, rfl, rfl, rfl, rfl, rfl, rfl⟩
  · have fx : f2 = 3 ∧ kw = .nils := by
      cases A3 with
      | bad hb => rw [VAc] at hb; cases hb
      | none _ hb => exact ⟨rfl, rfl⟩
      | @ok x _ hx =>
        have := (gin x).1 (tr_cp.1 hx)
        have := xb x this.1
        omega
    obtain ⟨rfl, rfl⟩ := fx
    have hf1 : (decide (lo ≤ n) && decide (n ≤ hi')) = false := by
      rw [Bool.and_eq_false_iff, decide_eq_false_iff_not, decide_eq_false_iff_not]; omega
    by_cases g2 : n > lo
    · have g3 : ¬ n < hi' := fun h => g1 ⟨g2, h⟩
      simp (disch := first | assumption | omega | (simp only [az]; done)) only [ru, eq_self, if_true, if_false, BEq.rfl, binI, AO.row?, splice, fillL, mmAll, loadV, storeV, zeros, Am.rowAt, Am.part, addOff, Nat.reduceAdd, Nat.reduceMul, Nat.reduceLeDiff, Nat.reduceSub, Nat.reduceLT, Int.reduceEq, Int.reduceLT, Int.reduceLE, Int.reduceGT, Int.reduceGE, Int.reduceAdd, Int.reduceSub, Int.reduceMul, Int.reduceNeg, Int.reduceToNat, reduceCtorEq, reduceIte, hlt, g2, g3, wn, lenV_sl ho, elem_sl Ls.el ho, view_sl ho, scalar_sl ho, cells_sl ho, pure_sl ho, lenV_sl hw, elem_sl Wd.el hw, view_sl hw, scalar_sl hw, cells_sl hw, pure_sl hw, d34, lenV_sl hq, elem_sl Ls.el hq, view_sl hq, scalar_sl hq, cells_sl hq, pure_sl hq, lenV_sl hq', elem_sl Wd.el hq', view_sl hq', scalar_sl hq', cells_sl hq', pure_sl hq', d33, s26, hf1, gUn]
      exact ih _ _ _ _ (by omega) ⟨n + 1, by omega, by omega, rfl, rfl, rfl, rfl, rfl, rfl, rfl, rfl⟩
    · simp (disch := first | assumption | omega | (simp only [az]; done)) only [ru, eq_self, if_true, if_false, BEq.rfl, binI, AO.row?, splice, fillL, mmAll, loadV, storeV, zeros, Am.rowAt, Am.part, addOff, Nat.reduceAdd, Nat.reduceMul, Nat.reduceLeDiff, Nat.reduceSub, Nat.reduceLT, Int.reduceEq, Int.reduceLT, Int.reduceLE, Int.reduceGT, Int.reduceGE, Int.reduceAdd, Int.reduceSub, Int.reduceMul, Int.reduceNeg, Int.reduceToNat, reduceCtorEq, reduceIte, hlt, g2, wn, lenV_sl ho, elem_sl Ls.el ho, view_sl ho, scalar_sl ho, cells_sl ho, pure_sl ho, lenV_sl hw, elem_sl Wd.el hw, view_sl hw, scalar_sl hw, cells_sl hw, pure_sl hw, d34, lenV_sl hq, elem_sl Ls.el hq, view_sl hq, scalar_sl hq, cells_sl hq, pure_sl hq, lenV_sl hq', elem_sl Wd.el hq', view_sl hq', scalar_sl hq', cells_sl hq', pure_sl hq', d33, s26, hf1, gUn]
      exact ih _ _ _ _ (by omega) ⟨n + 1, by omega, by omega, rfl, rfl, rfl, rfl, rfl, rfl, rfl, rfl⟩
end Go.Proofs.Ytjaaefdhdggnkaa.S

/-
Whether numbers are a truth, by the program: roomy, gone, isTruth; Holds on both sides; lists in new memory.
-/
namespace Go.Proofs.Ytjaaefdhdggnkaa.S
open Go Go.Am Go.Proofs.Ytjaaefdhdggnkaa.T
set_option maxRecDepth 100000
set_option linter.unusedSimpArgs false
set_option linter.unusedVariables false

theorem sum_nn : ∀ {l : List Int}, (∀ x ∈ l, 0 ≤ x) → 0 ≤ l.sum
  | [], _ => by simp
  | a :: l, h => by
    have h1 := sum_nn (l := l) fun x hx => h x (List.mem_cons_of_mem _ hx)
    have h2 := h a (by simp)
    rw [List.sum_cons]; omega
theorem split_sum (l : List Int) (i : Nat) : (l.take i).sum + (l.drop i).sum = l.sum := by
  conv => rhs; rw [← List.take_append_drop i l]
  rw [List.sum_append]
theorem s97 {l : List Int} {v : AV} (hv : IsSl 1 intL l v) (hl : l.length ≤ 40) : ∃ b, (∀ st, Iso E 97 [v] st = some (Bo b)) ∧ (b = true ↔ (∀ x ∈ l, 0 ≤ x) ∧ l.sum ≤ 40) := by
  suffices hR : ∃ r h', R E (.fn 97) [v] [] 0 = some (r, h') ∧ ∃ b, r = Bo b ∧ (b = true ↔ (∀ x ∈ l, 0 ≤ x) ∧ l.sum ≤ 40) by
    obtain ⟨r, h', hr, b, rfl, hb⟩ := hR
    exact ⟨b, fun st => by simp only [Iso, hr]; exact view_bool, hb⟩
  have no : ¬ ((∀ x ∈ l, 0 ≤ x) ∧ l.sum ≤ 40) → (∃ b, Bo false = Bo b ∧ (b = true ↔ (∀ x ∈ l, 0 ≤ x) ∧ l.sum ≤ 40)) := fun h => ⟨false, rfl, ⟨fun e => (by cases e), fun e => absurd e h⟩⟩
  refine R_of (f := 97) (fun r h' => ∃ b, r = Bo b ∧ (b = true ↔ (∀ x ∈ l, 0 ≤ x) ∧ l.sum ≤ 40)) (es _ _ _ _) e97 ?_
  simp only [f97]
  simp (disch := first | assumption | omega | (simp only [az]; done)) only [ru, eq_self, if_true, if_false, BEq.rfl, binI, AO.row?, splice, fillL, mmAll, loadV, storeV, zeros, Am.rowAt, Am.part, addOff, Nat.reduceAdd, Nat.reduceMul, Nat.reduceLeDiff, Nat.reduceSub, Nat.reduceLT, Int.reduceEq, Int.reduceLT, Int.reduceLE, Int.reduceGT, Int.reduceGE, Int.reduceAdd, Int.reduceSub, Int.reduceMul, Int.reduceNeg, Int.reduceToNat, reduceCtorEq, reduceIte, lenV_sl hv, elem_sl intE hv, view_sl hv, scalar_sl hv, cells_sl hv, pure_sl hv]
  refine G_loop_ind (fun m ts h mk => ∃ (i : Nat), i ≤ l.length ∧ m = l.length - i ∧ ts.length = 23 ∧ ts.getD 6 .undef = v ∧ ts.getD 3 .undef = I (40 - (l.take i).sum) ∧ ts.getD 7 .undef = I l.length ∧ ts.getD 8 .undef = I i ∧ h = [] ∧ mk = [] ∧
    (∀ x ∈ l.take i, 0 ≤ x) ∧ (l.take i).sum ≤ 40) ?_ _ _ _ _
    ⟨0, Nat.zero_le _, rfl, rfl, rfl, rfl, rfl, rfl, rfl, rfl, by simp, by simp⟩
  rintro m ts h mk ih ⟨i, hi', rfl, hl', q6, q3, q7, q8, rfl, rfl, N, S⟩
  rw [lit_all hl']
  simp only [lit0, litS, Nat.reduceAdd, q6, q3, q7, q8]
  simp (disch := first | assumption | omega | (simp only [az]; done)) only [ru, eq_self, if_true, if_false, BEq.rfl, binI, AO.row?, splice, fillL, mmAll, loadV, storeV, zeros, Am.rowAt, Am.part, addOff, Nat.reduceAdd, Nat.reduceMul, Nat.reduceLeDiff, Nat.reduceSub, Nat.reduceLT, Int.reduceEq, Int.reduceLT, Int.reduceLE, Int.reduceGT, Int.reduceGE, Int.reduceAdd, Int.reduceSub, Int.reduceMul, Int.reduceNeg, Int.reduceToNat, reduceCtorEq, reduceIte, lenV_sl hv, elem_sl intE hv, view_sl hv, scalar_sl hv, cells_sl hv, pure_sl hv]
  by_cases hlt : (i : Int) < l.length
  case neg =>
    obtain rfl : i = l.length := by omega
    rw [List.take_length] at N S
    simp (disch := first | assumption | omega | (simp only [az]; done)) only [ru, eq_self, if_true, if_false, BEq.rfl, binI, AO.row?, splice, fillL, mmAll, loadV, storeV, zeros, Am.rowAt, Am.part, addOff, Nat.reduceAdd, Nat.reduceMul, Nat.reduceLeDiff, Nat.reduceSub, Nat.reduceLT, Int.reduceEq, Int.reduceLT, Int.reduceLE, Int.reduceGT, Int.reduceGE, Int.reduceAdd, Int.reduceSub, Int.reduceMul, Int.reduceNeg, Int.reduceToNat, reduceCtorEq, reduceIte, hlt]
    exact ⟨true, rfl, ⟨fun _ => ⟨N, S⟩, fun _ => rfl⟩⟩
  have hi2 : i < l.length := by omega
  have i0 : (0 : Int) ≤ i := by omega
  have tsm := take_sum hi2
  have nn := sum_nn N
  obtain ⟨a, ha⟩ : ∃ a, a = (l.take i).sum := ⟨_, rfl⟩
  obtain ⟨x, hx⟩ : ∃ x, x = l.getD i default := ⟨_, rfl⟩
  have hx' : l.getD i 0 = x := hx.symm
  have xm : x ∈ l := by
    rw [← hx', List.getD_eq_getElem?_getD, List.getElem?_eq_getElem hi2]
    exact List.getElem_mem hi2
  rw [hx'] at tsm
  rw [← ha] at S nn tsm
  rw [← ha]
  by_cases g1 : x < 0
  · simp (disch := first | assumption | omega | (simp only [az]; done)) only [ru, eq_self, if_true, if_false, BEq.rfl, binI, AO.row?, splice, fillL, mmAll, loadV, storeV, zeros, Am.rowAt, Am.part, addOff, Nat.reduceAdd, Nat.reduceMul, Nat.reduceLeDiff, Nat.reduceSub, Nat.reduceLT, Int.reduceEq, Int.reduceLT, Int.reduceLE, Int.reduceGT, Int.reduceGE, Int.reduceAdd, Int.reduceSub, Int.reduceMul, Int.reduceNeg, Int.reduceToNat, reduceCtorEq, reduceIte, lenV_sl hv, elem_sl intE hv, view_sl hv, scalar_sl hv, cells_sl hv, pure_sl hv, hlt, i0, Int.toNat_natCast, ← hx, g1, gUn]
    exact no fun h => by have := h.1 x xm; omega
  by_cases g2 : x > 40 - a
  · simp (disch := first | assumption | omega | (simp only [az]; done)) only [ru, eq_self, if_true, if_false, BEq.rfl, binI, AO.row?, splice, fillL, mmAll, loadV, storeV, zeros, Am.rowAt, Am.part, addOff, Nat.reduceAdd, Nat.reduceMul, Nat.reduceLeDiff, Nat.reduceSub, Nat.reduceLT, Int.reduceEq, Int.reduceLT, Int.reduceLE, Int.reduceGT, Int.reduceGE, Int.reduceAdd, Int.reduceSub, Int.reduceMul, Int.reduceNeg, Int.reduceToNat, reduceCtorEq, reduceIte, lenV_sl hv, elem_sl intE hv, view_sl hv, scalar_sl hv, cells_sl hv, pure_sl hv, hlt, i0, Int.toNat_natCast, ← hx, g1, g2, gUn]
    refine no fun h => ?_
    have s1 := split_sum l (i + 1)
    have s2 := sum_nn (l := l.drop (i + 1)) fun z hz => h.1 z (List.mem_of_mem_drop hz)
    omega
  have w1 : wr .i64 (40 - a - x) = 40 - a - x := wr64 (by omega) (by omega)
  simp (disch := first | assumption | omega | (simp only [az]; done)) only [ru, eq_self, if_true, if_false, BEq.rfl, binI, AO.row?, splice, fillL, mmAll, loadV, storeV, zeros, Am.rowAt, Am.part, addOff, Nat.reduceAdd, Nat.reduceMul, Nat.reduceLeDiff, Nat.reduceSub, Nat.reduceLT, Int.reduceEq, Int.reduceLT, Int.reduceLE, Int.reduceGT, Int.reduceGE, Int.reduceAdd, Int.reduceSub, Int.reduceMul, Int.reduceNeg, Int.reduceToNat, reduceCtorEq, reduceIte, lenV_sl hv, elem_sl intE hv, view_sl hv, scalar_sl hv, cells_sl hv, pure_sl hv, hlt, i0, Int.toNat_natCast, ← hx, g1, g2, w1, gUn]
  refine ih (l.length - (i + 1)) _ _ _ (by omega) ⟨i + 1, by omega, rfl, rfl, rfl, by show I _ = I _; rw [tsm]; congr 1; omega, rfl, rfl, rfl, rfl, ?_, by omega⟩
  intro z hz
  rw [List.take_succ_eq_append_getElem hi2, List.mem_append, List.mem_singleton] at hz
  rcases hz with hz | rfl
  · exact N z hz
  · have : l[i] = x := by rw [hx, List.getD_eq_getElem?_getD, List.getElem?_eq_getElem hi2]; rfl
    omega

/-- gone -/
theorem s98 {p q o : List Int} {vp vq vo : AV} {C : Nat} (hp : IsSl 1 intL p vp) (hq : IsSl 1 intL q vq) (ho : IsSl 1 intL o vo) (lp : p.length = C) (lq : q.length = C) (hC : C ≤ 4) (lo : o.length ≤ 40) (bp : ∀ x ∈ p, 0 ≤ x ∧ x ≤ 40) (bq : ∀ x ∈ q, 0 ≤ x ∧ x ≤ 40) :
    ∃ b, (∀ st, Iso E 98 [vp, vq, vo] st = some (Bo b)) ∧ (b = true ↔ ∀ c, c < C → 0 ≤ (q.drop c).sum - (p.drop c).sum ∧ (0 < (q.drop c).sum - (p.drop c).sum → hasI o c = true)) := by
  obtain ⟨P, hP⟩ : ∃ P : Prop, P = ∀ c, c < C → 0 ≤ (q.drop c).sum - (p.drop c).sum ∧ (0 < (q.drop c).sum - (p.drop c).sum → hasI o c = true) := ⟨_, rfl⟩
  rw [← hP]
  suffices hR : ∃ r h', R E (.fn 98) [vp, vq, vo] [] 0 = some (r, h') ∧ ∃ b, r = Bo b ∧ (b = true ↔ P) by
    obtain ⟨r, h', hr, b, rfl, hb⟩ := hR
    exact ⟨b, fun st => by simp only [Iso, hr]; exact view_bool, hb⟩
  have no : ¬ P → (∃ b, Bo false = Bo b ∧ (b = true ↔ P)) := fun h => ⟨false, rfl, ⟨fun e => (by cases e), fun e => absurd e h⟩⟩
  have w0 : wr .i64 ((p.length : Int) - 1) = (C : Int) - 1 := by rw [lp]; exact wr64 (by omega) (by omega)
  refine R_of (f := 98) (fun r h' => ∃ b, r = Bo b ∧ (b = true ↔ P)) (es _ _ _ _) e98 ?_
  simp only [f98]
  simp (disch := first | assumption | omega | (simp only [az]; done)) only [ru, eq_self, if_true, if_false, BEq.rfl, binI, AO.row?, splice, fillL, mmAll, loadV, storeV, zeros, Am.rowAt, Am.part, addOff, Nat.reduceAdd, Nat.reduceMul, Nat.reduceLeDiff, Nat.reduceSub, Nat.reduceLT, Int.reduceEq, Int.reduceLT, Int.reduceLE, Int.reduceGT, Int.reduceGE, Int.reduceAdd, Int.reduceSub, Int.reduceMul, Int.reduceNeg, Int.reduceToNat, reduceCtorEq, reduceIte, lenV_sl hp, elem_sl intE hp, view_sl hp, scalar_sl hp, cells_sl hp, pure_sl hp, w0]
  refine G_loop_ind (fun m ts h mk => ∃ (n : Nat), n ≤ C ∧ m = n ∧ ts.length = 39 ∧ ts.getD 0 .undef = vp ∧ ts.getD 1 .undef = vq ∧ ts.getD 2 .undef = vo ∧ ts.getD 7 .undef = I ((q.drop n).sum - (p.drop n).sum) ∧ ts.getD 8 .undef = I ((n : Int) - 1) ∧ h = [] ∧ mk = [] ∧
    ∀ c, n ≤ c → c < C → 0 ≤ (q.drop c).sum - (p.drop c).sum ∧ (0 < (q.drop c).sum - (p.drop c).sum → hasI o c = true)) ?_ _ _ _ _
    ⟨C, Nat.le_refl _, rfl, rfl, rfl, rfl, rfl, ?_, rfl, rfl, rfl, fun c h1 h2 => by omega⟩
  case refine_2 =>
    rw [List.drop_eq_nil_of_le (by omega), List.drop_eq_nil_of_le (by omega)]; rfl
  rintro m ts h mk ih ⟨n, hn, rfl, hl', q0, q1, q2, q7, q8, rfl, rfl, K⟩
  rw [lit_all hl']
  simp only [lit0, litS, Nat.reduceAdd, q0, q1, q2, q7, q8]
  simp (disch := first | assumption | omega | (simp only [az]; done)) only [ru, eq_self, if_true, if_false, BEq.rfl, binI, AO.row?, splice, fillL, mmAll, loadV, storeV, zeros, Am.rowAt, Am.part, addOff, Nat.reduceAdd, Nat.reduceMul, Nat.reduceLeDiff, Nat.reduceSub, Nat.reduceLT, Int.reduceEq, Int.reduceLT, Int.reduceLE, Int.reduceGT, Int.reduceGE, Int.reduceAdd, Int.reduceSub, Int.reduceMul, Int.reduceNeg, Int.reduceToNat, reduceCtorEq, reduceIte]
  by_cases hlt : (m : Int) - 1 ≥ 0
  case neg =>
    have : m = 0 := by omega
    subst this
    simp (disch := first | assumption | omega | (simp only [az]; done)) only [ru, eq_self, if_true, if_false, BEq.rfl, binI, AO.row?, splice, fillL, mmAll, loadV, storeV, zeros, Am.rowAt, Am.part, addOff, Nat.reduceAdd, Nat.reduceMul, Nat.reduceLeDiff, Nat.reduceSub, Nat.reduceLT, Int.reduceEq, Int.reduceLT, Int.reduceLE, Int.reduceGT, Int.reduceGE, Int.reduceAdd, Int.reduceSub, Int.reduceMul, Int.reduceNeg, Int.reduceToNat, reduceCtorEq, reduceIte, hlt]
    refine ⟨true, rfl, ⟨fun _ => ?_, fun _ => rfl⟩⟩
    rw [hP]
    exact fun c hc => K c (Nat.zero_le _) hc
  obtain ⟨c, rfl⟩ : ∃ c, m = c + 1 := ⟨m - 1, by omega⟩
  have em : (((c + 1 : Nat) : Int) - 1) = c := by omega
  rw [em] at hlt ⊢
  have c0 : (0 : Int) ≤ c := by omega
  have cp : (c : Int) < (p.length : Nat) := by omega
  have cq : (c : Int) < (q.length : Nat) := by omega
  have dp := drop_sum (l := p) (i := c) (by omega)
  have dq := drop_sum (l := q) (i := c) (by omega)
  have mem : ∀ {l : List Int}, c < l.length → l.getD c 0 ∈ l := fun {l} h => by
    rw [List.getD_eq_getElem?_getD, List.getElem?_eq_getElem h]; exact List.getElem_mem h
  have b1 := bp _ (mem (l := p) (by omega))
  have b2 := bq _ (mem (l := q) (by omega))
  have s1 := sum_bd (l := p.drop (c + 1)) fun z hz => bp z (List.mem_of_mem_drop hz)
  have s2 := sum_bd (l := q.drop (c + 1)) fun z hz => bq z (List.mem_of_mem_drop hz)
  have l1 : (p.drop (c + 1)).length ≤ 4 := by rw [List.length_drop]; omega
  have l2 : (q.drop (c + 1)).length ≤ 4 := by rw [List.length_drop]; omega
  obtain ⟨x, hx⟩ : ∃ x, x = p.getD c default := ⟨_, rfl⟩
  obtain ⟨y, hy⟩ : ∃ y, y = q.getD c default := ⟨_, rfl⟩
  have hx' : p.getD c 0 = x := hx.symm
  have hy' : q.getD c 0 = y := hy.symm
  rw [hx'] at dp b1
  rw [hy'] at dq b2
  obtain ⟨d, hd⟩ : ∃ d, d = (q.drop c).sum - (p.drop c).sum := ⟨_, rfl⟩
  have w1 : wr .i64 (y - x) = y - x := wr64 (by omega) (by omega)
  have w2 : wr .i64 ((q.drop (c + 1)).sum - (p.drop (c + 1)).sum + (y - x)) = d := by rw [wr64 (by omega) (by omega)]; omega
  have K' : (0 ≤ d ∧ (0 < d → hasI o c = true)) → ∀ c', c ≤ c' → c' < C → 0 ≤ (q.drop c').sum - (p.drop c').sum ∧ (0 < (q.drop c').sum - (p.drop c').sum → hasI o c' = true) := fun h c' h1 h2 => by
    by_cases e : c' = c
    · subst e; rw [← hd]; exact h
    · exact K c' (by omega) h2
  have bad : ¬ (0 ≤ d ∧ (0 < d → hasI o c = true)) → ¬ P := fun h hp' => by
    rw [hP] at hp'
    have := hp' c (by omega)
    rw [← hd] at this
    exact h this
  have c112 := fun st => s112 ho (by omega) c st
  have wc : wr .i64 ((c : Int) - 1) = (c : Int) - 1 := wr64 (by omega) (by omega)
  by_cases g1 : d < 0
  · simp (disch := first | assumption | omega | (simp only [az]; done)) only [ru, eq_self, if_true, if_false, BEq.rfl, binI, AO.row?, splice, fillL, mmAll, loadV, storeV, zeros, Am.rowAt, Am.part, addOff, Nat.reduceAdd, Nat.reduceMul, Nat.reduceLeDiff, Nat.reduceSub, Nat.reduceLT, Int.reduceEq, Int.reduceLT, Int.reduceLE, Int.reduceGT, Int.reduceGE, Int.reduceAdd, Int.reduceSub, Int.reduceMul, Int.reduceNeg, Int.reduceToNat, reduceCtorEq, reduceIte, lenV_sl hp, elem_sl intE hp, view_sl hp, scalar_sl hp, cells_sl hp, pure_sl hp, lenV_sl hq, elem_sl intE hq, view_sl hq, scalar_sl hq, cells_sl hq, pure_sl hq, hlt, c0, cp, cq, Int.toNat_natCast, ← hx, ← hy, w1, w2, g1, gUn]
    exact no (bad fun h => by omega)
  by_cases g2 : d > 0
  · cases hh : hasI o c
    · simp (disch := first | assumption | omega | (simp only [az]; done)) only [ru, eq_self, if_true, if_false, BEq.rfl, binI, AO.row?, splice, fillL, mmAll, loadV, storeV, zeros, Am.rowAt, Am.part, addOff, Nat.reduceAdd, Nat.reduceMul, Nat.reduceLeDiff, Nat.reduceSub, Nat.reduceLT, Int.reduceEq, Int.reduceLT, Int.reduceLE, Int.reduceGT, Int.reduceGE, Int.reduceAdd, Int.reduceSub, Int.reduceMul, Int.reduceNeg, Int.reduceToNat, reduceCtorEq, reduceIte, lenV_sl hp, elem_sl intE hp, view_sl hp, scalar_sl hp, cells_sl hp, pure_sl hp, lenV_sl hq, elem_sl intE hq, view_sl hq, scalar_sl hq, cells_sl hq, pure_sl hq, lenV_sl ho, elem_sl intE ho, view_sl ho, scalar_sl ho, cells_sl ho, pure_sl ho, hlt, c0, cp, cq, Int.toNat_natCast, ← hx, ← hy, w1, w2, g1, g2, c112, hh, gUn]
      exact no (bad fun h => by have := h.2 g2; rw [hh] at this; cases this)
    · simp (disch := first | assumption | omega | (simp only [az]; done)) only [ru, eq_self, if_true, if_false, BEq.rfl, binI, AO.row?, splice, fillL, mmAll, loadV, storeV, zeros, Am.rowAt, Am.part, addOff, Nat.reduceAdd, Nat.reduceMul, Nat.reduceLeDiff, Nat.reduceSub, Nat.reduceLT, Int.reduceEq, Int.reduceLT, Int.reduceLE, Int.reduceGT, Int.reduceGE, Int.reduceAdd, Int.reduceSub, Int.reduceMul, Int.reduceNeg, Int.reduceToNat, reduceCtorEq, reduceIte, lenV_sl hp, elem_sl intE hp, view_sl hp, scalar_sl hp, cells_sl hp, pure_sl hp, lenV_sl hq, elem_sl intE hq, view_sl hq, scalar_sl hq, cells_sl hq, pure_sl hq, lenV_sl ho, elem_sl intE ho, view_sl ho, scalar_sl ho, cells_sl ho, pure_sl ho, hlt, c0, cp, cq, Int.toNat_natCast, ← hx, ← hy, w1, w2, g1, g2, c112, hh, wc, gUn]
      exact ih c _ _ _ (by omega) ⟨c, by omega, rfl, rfl, rfl, rfl, rfl, by show I _ = I _; rw [hd], rfl, rfl, rfl, K' ⟨by omega, fun _ => hh⟩⟩
  · simp (disch := first | assumption | omega | (simp only [az]; done)) only [ru, eq_self, if_true, if_false, BEq.rfl, binI, AO.row?, splice, fillL, mmAll, loadV, storeV, zeros, Am.rowAt, Am.part, addOff, Nat.reduceAdd, Nat.reduceMul, Nat.reduceLeDiff, Nat.reduceSub, Nat.reduceLT, Int.reduceEq, Int.reduceLT, Int.reduceLE, Int.reduceGT, Int.reduceGE, Int.reduceAdd, Int.reduceSub, Int.reduceMul, Int.reduceNeg, Int.reduceToNat, reduceCtorEq, reduceIte, lenV_sl hp, elem_sl intE hp, view_sl hp, scalar_sl hp, cells_sl hp, pure_sl hp, lenV_sl hq, elem_sl intE hq, view_sl hq, scalar_sl hq, cells_sl hq, pure_sl hq, lenV_sl ho, elem_sl intE ho, view_sl ho, scalar_sl ho, cells_sl ho, pure_sl ho, hlt, c0, cp, cq, Int.toNat_natCast, ← hx, ← hy, w1, w2, g1, g2, wc, gUn]
    exact ih c _ _ _ (by omega) ⟨c, by omega, rfl, rfl, rfl, rfl, rfl, by show I _ = I _; rw [hd], rfl, rfl, rfl, K' ⟨by omega, fun h => by omega⟩⟩
end Go.Proofs.Ytjaaefdhdggnkaa.S

/-
Whether numbers are a truth, by the program: isTruth; Holds on both sides; lists in new memory.
-/
namespace Go.Proofs.Ytjaaefdhdggnkaa.S
open Go Go.Am Go.Proofs.Ytjaaefdhdggnkaa.T
set_option maxRecDepth 100000
set_option linter.unusedSimpArgs false
set_option linter.unusedVariables false

theorem rowK_iff {C : Nat} {L : List Ls} {i : Nat} : RowK C L i ↔ (rowN L i).length = C ∧ (∀ x ∈ rowN L i, 0 ≤ x) ∧ (rowN L i).sum ≤ 40 := by
  constructor
  · intro h
    exact ⟨h.1, fun x hx => (rowK_mem h x hx).1, h.2.2⟩
  · rintro ⟨h1, h2, h3⟩
    refine ⟨h1, fun c hc => ?_, h3⟩
    have hc' : c < (rowN L i).length := by omega
    have m : numN L i c ∈ rowN L i := by
      unfold numN
      rw [List.getD_eq_getElem?_getD, List.getElem?_eq_getElem hc']; exact List.getElem_mem hc'
    have s1 := split_sum (rowN L i) c
    have s2 := drop_sum hc'
    have s3 := sum_nn (l := (rowN L i).take c) fun x hx => h2 x (List.mem_of_mem_take hx)
    have s4 := sum_nn (l := (rowN L i).drop (c + 1)) fun x hx => h2 x (List.mem_of_mem_drop hx)
    have e : (rowN L i).getD c 0 = numN L i c := rfl
    rw [e] at s2
    exact ⟨h2 _ m, by omega⟩

set_option maxHeartbeats 4000000 in
theorem s72 {t : Trap} {o w : AV} (H : TrOk t o w) (hv : t.valid = true) {L : List Ls} {v : AV} (hL : IsSl 1 Ls.e L v) (hl : L.length ≤ 40) (hs : ∀ x ∈ L, x.list.length ≤ 40) : ∃ b, (∀ st, Iso E 72 [trV t o w, v] st = some (Bo b)) ∧ (b = true ↔ TruN t L) := by
  have V := valid_trb hv
  have v1 := V.c0; have v2 := V.c1; have v3 := V.t0; have v4 := V.t1; have vo := V.o
  have eC := trC V; have eT := trT V
  have sw := H.sw
  have so := H.so
  suffices hR : ∃ r h', R E (.fn 72) [trV t o w, v] [] 0 = some (r, h') ∧ ∃ b, r = Bo b ∧ (b = true ↔ TruN t L) by
    obtain ⟨r, h', hr, b, rfl, hb⟩ := hR
    exact ⟨b, fun st => by simp only [Iso, hr]; exact view_bool, hb⟩
  have no : ¬ TruN t L → (∃ b, Bo false = Bo b ∧ (b = true ↔ TruN t L)) := fun h => ⟨false, rfl, ⟨fun e => (by cases e), fun e => absurd e h⟩⟩
  refine R_of (f := 72) (fun r h' => ∃ b, r = Bo b ∧ (b = true ↔ TruN t L)) (es _ _ _ _) e72 ?_
  simp only [f72, trV]
  by_cases h0 : (L.length : Int) = t.tm
  case neg =>
    have h0' : ((L.length : Int) != t.tm) = true := by simpa using h0
    simp (disch := first | assumption | omega | (simp only [az]; done)) only [ru, eq_self, if_true, if_false, BEq.rfl, binI, AO.row?, splice, fillL, mmAll, loadV, storeV, zeros, Am.rowAt, Am.part, addOff, Nat.reduceAdd, Nat.reduceMul, Nat.reduceLeDiff, Nat.reduceSub, Nat.reduceLT, Int.reduceEq, Int.reduceLT, Int.reduceLE, Int.reduceGT, Int.reduceGE, Int.reduceAdd, Int.reduceSub, Int.reduceMul, Int.reduceNeg, Int.reduceToNat, reduceCtorEq, reduceIte, lenV_sl H.o, lenV_sl H.w, elem_sl Ls.el H.o, elem_sl Wd.el H.w, view_sl H.o, view_sl H.w, scalar_sl H.o, scalar_sl H.w, cells_sl H.o, cells_sl H.w, pure_sl H.o, pure_sl H.w, Int.toNat_natCast, lenV_sl hL, elem_sl Ls.el hL, view_sl hL, scalar_sl hL, cells_sl hL, pure_sl hL, h0']
    exact no fun T => h0 (by have := T.l; omega)
  have h0' : ((L.length : Int) != t.tm) = false := by simpa using h0
  have hLT : L.length = t.T := by omega
  simp (disch := first | assumption | omega | (simp only [az]; done)) only [ru, eq_self, if_true, if_false, BEq.rfl, binI, AO.row?, splice, fillL, mmAll, loadV, storeV, zeros, Am.rowAt, Am.part, addOff, Nat.reduceAdd, Nat.reduceMul, Nat.reduceLeDiff, Nat.reduceSub, Nat.reduceLT, Int.reduceEq, Int.reduceLT, Int.reduceLE, Int.reduceGT, Int.reduceGE, Int.reduceAdd, Int.reduceSub, Int.reduceMul, Int.reduceNeg, Int.reduceToNat, reduceCtorEq, reduceIte, lenV_sl H.o, lenV_sl H.w, elem_sl Ls.el H.o, elem_sl Wd.el H.w, view_sl H.o, view_sl H.w, scalar_sl H.o, scalar_sl H.w, cells_sl H.o, cells_sl H.w, pure_sl H.o, pure_sl H.w, Int.toNat_natCast, lenV_sl hL, elem_sl Ls.el hL, view_sl hL, scalar_sl hL, cells_sl hL, pure_sl hL, h0']
  refine G_loop_ind (fun m ts hk mk => ∃ (i : Nat), i ≤ t.T ∧ m = t.T - i ∧ ts.length = 82 ∧ ts.getD 1 .undef = v ∧ ts.getD 2 .undef = .ptr 0 0 ∧ ts.getD 17 .undef = v ∧ ts.getD 18 .undef = I L.length ∧ ts.getD 19 .undef = I i ∧ hk = [.cells [I t.ch, I t.tm, o, w] false] ∧ mk = [] ∧
    ∀ j, j < i → RowK t.C L j) ?_ _ _ _ _
    ⟨0, Nat.zero_le _, rfl, rfl, rfl, rfl, rfl, rfl, rfl, rfl, rfl, fun j hj => absurd hj (by omega)⟩
  rintro m ts hk mk ih ⟨i, hi, rfl, hll, q1, q2, q17, q18, q19, rfl, rfl, RK⟩
  rw [lit_all hll]
  simp only [lit0, litS, Nat.reduceAdd, q1, q2, q17, q18, q19]
  simp (disch := first | assumption | omega | (simp only [az]; done)) only [ru, eq_self, if_true, if_false, BEq.rfl, binI, AO.row?, splice, fillL, mmAll, loadV, storeV, zeros, Am.rowAt, Am.part, addOff, Nat.reduceAdd, Nat.reduceMul, Nat.reduceLeDiff, Nat.reduceSub, Nat.reduceLT, Int.reduceEq, Int.reduceLT, Int.reduceLE, Int.reduceGT, Int.reduceGE, Int.reduceAdd, Int.reduceSub, Int.reduceMul, Int.reduceNeg, Int.reduceToNat, reduceCtorEq, reduceIte]
  by_cases hlt : (i : Int) < L.length
  case pos =>
    have hi2 : i < L.length := by omega
    have i0 : (0 : Int) ≤ i := by omega
    obtain ⟨x, hx⟩ : ∃ x, x = L.getD i default := ⟨_, rfl⟩
    have un := Ls.under hs hi2
    rw [← hx] at un
    have rx : rowN L i = x.list := by rw [hx]; rfl
    by_cases hr : (x.list.length : Int) = t.ch
    case neg =>
      have hr' : ((x.list.length : Int) != t.ch) = true := by simpa using hr
      simp (disch := first | assumption | omega | (simp only [az]; done)) only [ru, eq_self, if_true, if_false, BEq.rfl, binI, AO.row?, splice, fillL, mmAll, loadV, storeV, zeros, Am.rowAt, Am.part, addOff, Nat.reduceAdd, Nat.reduceMul, Nat.reduceLeDiff, Nat.reduceSub, Nat.reduceLT, Int.reduceEq, Int.reduceLT, Int.reduceLE, Int.reduceGT, Int.reduceGE, Int.reduceAdd, Int.reduceSub, Int.reduceMul, Int.reduceNeg, Int.reduceToNat, reduceCtorEq, reduceIte, lenV_sl hL, elem_sl Ls.el hL, view_sl hL, scalar_sl hL, cells_sl hL, pure_sl hL, hlt, i0, Int.toNat_natCast, ← hx, Ls.e, lenV_sl x.is, elem_sl intE x.is, view_sl x.is, scalar_sl x.is, cells_sl x.is, pure_sl x.is, hr', gUn]
      exact no fun T => hr (by have := (T.r i (by omega)).1; rw [rx] at this; omega)
    have hr' : ((x.list.length : Int) != t.ch) = false := by simpa using hr
    refine (s97 x.is un).elim fun b h => ?_
    have c97 := h.1
    have hb := h.2
    clear h
    cases b
    · simp (disch := first | assumption | omega | (simp only [az]; done)) only [ru, eq_self, if_true, if_false, BEq.rfl, binI, AO.row?, splice, fillL, mmAll, loadV, storeV, zeros, Am.rowAt, Am.part, addOff, Nat.reduceAdd, Nat.reduceMul, Nat.reduceLeDiff, Nat.reduceSub, Nat.reduceLT, Int.reduceEq, Int.reduceLT, Int.reduceLE, Int.reduceGT, Int.reduceGE, Int.reduceAdd, Int.reduceSub, Int.reduceMul, Int.reduceNeg, Int.reduceToNat, reduceCtorEq, reduceIte, lenV_sl hL, elem_sl Ls.el hL, view_sl hL, scalar_sl hL, cells_sl hL, pure_sl hL, hlt, i0, Int.toNat_natCast, ← hx, Ls.e, lenV_sl x.is, elem_sl intE x.is, view_sl x.is, scalar_sl x.is, cells_sl x.is, pure_sl x.is, hr', c97, gUn]
      refine no fun T => ?_
      have := (rowK_iff.1 (T.r i (by omega))).2
      rw [rx] at this
      exact absurd (hb.2 this) (by simp)
    · simp (disch := first | assumption | omega | (simp only [az]; done)) only [ru, eq_self, if_true, if_false, BEq.rfl, binI, AO.row?, splice, fillL, mmAll, loadV, storeV, zeros, Am.rowAt, Am.part, addOff, Nat.reduceAdd, Nat.reduceMul, Nat.reduceLeDiff, Nat.reduceSub, Nat.reduceLT, Int.reduceEq, Int.reduceLT, Int.reduceLE, Int.reduceGT, Int.reduceGE, Int.reduceAdd, Int.reduceSub, Int.reduceMul, Int.reduceNeg, Int.reduceToNat, reduceCtorEq, reduceIte, lenV_sl hL, elem_sl Ls.el hL, view_sl hL, scalar_sl hL, cells_sl hL, pure_sl hL, hlt, i0, Int.toNat_natCast, ← hx, Ls.e, lenV_sl x.is, elem_sl intE x.is, view_sl x.is, scalar_sl x.is, cells_sl x.is, pure_sl x.is, hr', c97, gUn]
      refine ih (t.T - (i + 1)) _ _ _ (by omega) ⟨i + 1, by omega, rfl, rfl, rfl, rfl, rfl, rfl, rfl, rfl, rfl, fun j hj => ?_⟩
      by_cases e : j = i
      · subst e
        rw [rowK_iff, rx]
        exact ⟨by omega, hb.1 rfl⟩
      · exact RK j (by omega)
  have hi3 : i = t.T := by omega
  subst hi3
  simp (disch := first | assumption | omega | (simp only [az]; done)) only [ru, eq_self, if_true, if_false, BEq.rfl, binI, AO.row?, splice, fillL, mmAll, loadV, storeV, zeros, Am.rowAt, Am.part, addOff, Nat.reduceAdd, Nat.reduceMul, Nat.reduceLeDiff, Nat.reduceSub, Nat.reduceLT, Int.reduceEq, Int.reduceLT, Int.reduceLE, Int.reduceGT, Int.reduceGE, Int.reduceAdd, Int.reduceSub, Int.reduceMul, Int.reduceNeg, Int.reduceToNat, reduceCtorEq, reduceIte, lenV_sl H.o, lenV_sl H.w, elem_sl Ls.el H.o, elem_sl Wd.el H.w, view_sl H.o, view_sl H.w, scalar_sl H.o, scalar_sl H.w, cells_sl H.o, cells_sl H.w, pure_sl H.o, pure_sl H.w, Int.toNat_natCast, hlt]
  clear hll q1 q2 q17 q18 q19 ih
  refine G_loop_ind (fun m ts hk mk => ∃ (k : Nat) (J : List AO), k ≤ t.ws.length ∧ m = t.ws.length - k ∧ ts.length = 82 ∧ ts.getD 1 .undef = v ∧ ts.getD 2 .undef = .ptr 0 0 ∧ ts.getD 35 .undef = w ∧ ts.getD 36 .undef = I t.ws.length ∧ ts.getD 37 .undef = I k ∧ hk = .cells [I t.ch, I t.tm, o, w] false :: J ∧ mk = [] ∧
    ∀ j, j < k → (t.ws.getD j default).lo ≤ numN L (t.ws.getD j default).time.toNat (t.ws.getD j default).ch.toNat ∧ numN L (t.ws.getD j default).time.toNat (t.ws.getD j default).ch.toNat ≤ (t.ws.getD j default).hi) ?_ _ _ _ _
    ⟨0, [], Nat.zero_le _, rfl, rfl, rfl, rfl, rfl, rfl, rfl, rfl, rfl, fun j hj => absurd hj (by omega)⟩
  rintro m ts hk mk ih ⟨k, J, hk', rfl, hll, q1, q2, q35, q36, q37, rfl, rfl, WK⟩
  rw [lit_all hll]
  simp only [lit0, litS, Nat.reduceAdd, q1, q2, q35, q36, q37]
  simp (disch := first | assumption | omega | (simp only [az]; done)) only [ru, eq_self, if_true, if_false, BEq.rfl, binI, AO.row?, splice, fillL, mmAll, loadV, storeV, zeros, Am.rowAt, Am.part, addOff, Nat.reduceAdd, Nat.reduceMul, Nat.reduceLeDiff, Nat.reduceSub, Nat.reduceLT, Int.reduceEq, Int.reduceLT, Int.reduceLE, Int.reduceGT, Int.reduceGE, Int.reduceAdd, Int.reduceSub, Int.reduceMul, Int.reduceNeg, Int.reduceToNat, reduceCtorEq, reduceIte]
  by_cases hlk : (k : Int) < t.ws.length
  case pos =>
    have hk2 : k < t.ws.length := by omega
    have k0 : (0 : Int) ≤ k := by omega
    obtain ⟨y, hy⟩ : ∃ y, y = t.ws.getD k default := ⟨_, rfl⟩
    have hyf : fitB t y = true := by rw [hy]; exact V.fw _ (mem_getD hk2)
    simp only [fitB, placeB, Bool.and_eq_true, decide_eq_true_eq] at hyf
    have y0 : (0 : Int) ≤ y.time := by omega
    have y1 : y.time < (L.length : Nat) := by omega
    have y2 : (0 : Int) ≤ y.ch := by omega
    obtain ⟨z, hz⟩ : ∃ z, z = L.getD y.time.toNat default := ⟨_, rfl⟩
    have rz : rowN L y.time.toNat = z.list := by rw [hz]; rfl
    have y3 : y.ch < (z.list.length : Nat) := by have := (RK y.time.toNat (by omega)).1; rw [rz] at this; omega
    obtain ⟨n, hn⟩ : ∃ n, n = z.list.getD y.ch.toNat default := ⟨_, rfl⟩
    have nn : numN L y.time.toNat y.ch.toNat = n := by unfold numN; rw [rz, hn]; rfl
    have bad : ¬ (y.lo ≤ n ∧ n ≤ y.hi) → ¬ TruN t L := fun h T => h (by
      have := T.w k hk2
      rw [← hy, nn] at this
      exact this)
    by_cases g1 : n < y.lo
    · simp (disch := first | assumption | omega | (simp only [az]; done)) only [ru, eq_self, if_true, if_false, BEq.rfl, binI, AO.row?, splice, fillL, mmAll, loadV, storeV, zeros, Am.rowAt, Am.part, addOff, Nat.reduceAdd, Nat.reduceMul, Nat.reduceLeDiff, Nat.reduceSub, Nat.reduceLT, Int.reduceEq, Int.reduceLT, Int.reduceLE, Int.reduceGT, Int.reduceGE, Int.reduceAdd, Int.reduceSub, Int.reduceMul, Int.reduceNeg, Int.reduceToNat, reduceCtorEq, reduceIte, lenV_sl H.o, lenV_sl H.w, elem_sl Ls.el H.o, elem_sl Wd.el H.w, view_sl H.o, view_sl H.w, scalar_sl H.o, scalar_sl H.w, cells_sl H.o, cells_sl H.w, pure_sl H.o, pure_sl H.w, Int.toNat_natCast, lenV_sl hL, elem_sl Ls.el hL, view_sl hL, scalar_sl hL, cells_sl hL, pure_sl hL, hlk, k0, Int.toNat_natCast, ← hy, Wd.e, List.cons_append, lenE, setT, setT0, atT, atT0, getT, getT0, Nat.add_assoc, y0, y1, y2, y3, ← hz, Ls.e, lenV_sl z.is, elem_sl intE z.is, view_sl z.is, scalar_sl z.is, cells_sl z.is, pure_sl z.is, ← hn, g1, gUn]
      exact no (bad fun h => by omega)
    by_cases g2 : n > y.hi
    · simp (disch := first | assumption | omega | (simp only [az]; done)) only [ru, eq_self, if_true, if_false, BEq.rfl, binI, AO.row?, splice, fillL, mmAll, loadV, storeV, zeros, Am.rowAt, Am.part, addOff, Nat.reduceAdd, Nat.reduceMul, Nat.reduceLeDiff, Nat.reduceSub, Nat.reduceLT, Int.reduceEq, Int.reduceLT, Int.reduceLE, Int.reduceGT, Int.reduceGE, Int.reduceAdd, Int.reduceSub, Int.reduceMul, Int.reduceNeg, Int.reduceToNat, reduceCtorEq, reduceIte, lenV_sl H.o, lenV_sl H.w, elem_sl Ls.el H.o, elem_sl Wd.el H.w, view_sl H.o, view_sl H.w, scalar_sl H.o, scalar_sl H.w, cells_sl H.o, cells_sl H.w, pure_sl H.o, pure_sl H.w, Int.toNat_natCast, lenV_sl hL, elem_sl Ls.el hL, view_sl hL, scalar_sl hL, cells_sl hL, pure_sl hL, hlk, k0, Int.toNat_natCast, ← hy, Wd.e, List.cons_append, lenE, setT, setT0, atT, atT0, getT, getT0, Nat.add_assoc, y0, y1, y2, y3, ← hz, Ls.e, lenV_sl z.is, elem_sl intE z.is, view_sl z.is, scalar_sl z.is, cells_sl z.is, pure_sl z.is, ← hn, g1, g2, gUn]
      exact no (bad fun h => by omega)
    simp (disch := first | assumption | omega | (simp only [az]; done)) only [ru, eq_self, if_true, if_false, BEq.rfl, binI, AO.row?, splice, fillL, mmAll, loadV, storeV, zeros, Am.rowAt, Am.part, addOff, Nat.reduceAdd, Nat.reduceMul, Nat.reduceLeDiff, Nat.reduceSub, Nat.reduceLT, Int.reduceEq, Int.reduceLT, Int.reduceLE, Int.reduceGT, Int.reduceGE, Int.reduceAdd, Int.reduceSub, Int.reduceMul, Int.reduceNeg, Int.reduceToNat, reduceCtorEq, reduceIte, lenV_sl H.o, lenV_sl H.w, elem_sl Ls.el H.o, elem_sl Wd.el H.w, view_sl H.o, view_sl H.w, scalar_sl H.o, scalar_sl H.w, cells_sl H.o, cells_sl H.w, pure_sl H.o, pure_sl H.w, Int.toNat_natCast, lenV_sl hL, elem_sl Ls.el hL, view_sl hL, scalar_sl hL, cells_sl hL, pure_sl hL, hlk, k0, Int.toNat_natCast, ← hy, Wd.e, List.cons_append, lenE, setT, setT0, atT, atT0, getT, getT0, Nat.add_assoc, y0, y1, y2, y3, ← hz, Ls.e, lenV_sl z.is, elem_sl intE z.is, view_sl z.is, scalar_sl z.is, cells_sl z.is, pure_sl z.is, ← hn, g1, g2, gUn]
    refine ih (t.ws.length - (k + 1)) _ _ _ (by omega) ⟨k + 1, _, by omega, rfl, rfl, rfl, rfl, rfl, rfl, rfl, rfl, rfl, fun j hj => ?_⟩
    by_cases e : j = k
    · subst e
      rw [← hy, nn]
      omega
    · exact WK j (by omega)
  have hk3 : k = t.ws.length := by omega
  subst hk3
  simp (disch := first | assumption | omega | (simp only [az]; done)) only [ru, eq_self, if_true, if_false, BEq.rfl, binI, AO.row?, splice, fillL, mmAll, loadV, storeV, zeros, Am.rowAt, Am.part, addOff, Nat.reduceAdd, Nat.reduceMul, Nat.reduceLeDiff, Nat.reduceSub, Nat.reduceLT, Int.reduceEq, Int.reduceLT, Int.reduceLE, Int.reduceGT, Int.reduceGE, Int.reduceAdd, Int.reduceSub, Int.reduceMul, Int.reduceNeg, Int.reduceToNat, reduceCtorEq, reduceIte, lenV_sl H.o, lenV_sl H.w, elem_sl Ls.el H.o, elem_sl Wd.el H.w, view_sl H.o, view_sl H.w, scalar_sl H.o, scalar_sl H.w, cells_sl H.o, cells_sl H.w, pure_sl H.o, pure_sl H.w, Int.toNat_natCast, hlk]
  clear hll q1 q2 q35 q36 q37 ih
  refine G_loop_ind (fun m ts hk mk => ∃ (j : Nat), j ≤ t.op.length ∧ m = t.op.length - j ∧ ts.length = 82 ∧ ts.getD 1 .undef = v ∧ ts.getD 2 .undef = .ptr 0 0 ∧ ts.getD 62 .undef = o ∧ ts.getD 63 .undef = I t.op.length ∧ ts.getD 64 .undef = I j ∧ hk = .cells [I t.ch, I t.tm, o, w] false :: J ∧ mk = [] ∧
    ∀ i, i < j → ∀ c, c < t.C → PasK t L i c) ?_ _ _ _ _
    ⟨0, Nat.zero_le _, rfl, rfl, rfl, rfl, rfl, rfl, rfl, rfl, rfl, fun j hj => absurd hj (by omega)⟩
  rintro m ts hk mk ih ⟨j, hj, rfl, hll, q1, q2, q62, q63, q64, rfl, rfl, PK⟩
  rw [lit_all hll]
  simp only [lit0, litS, Nat.reduceAdd, q1, q2, q62, q63, q64]
  simp (disch := first | assumption | omega | (simp only [az]; done)) only [ru, eq_self, if_true, if_false, BEq.rfl, binI, AO.row?, splice, fillL, mmAll, loadV, storeV, zeros, Am.rowAt, Am.part, addOff, Nat.reduceAdd, Nat.reduceMul, Nat.reduceLeDiff, Nat.reduceSub, Nat.reduceLT, Int.reduceEq, Int.reduceLT, Int.reduceLE, Int.reduceGT, Int.reduceGE, Int.reduceAdd, Int.reduceSub, Int.reduceMul, Int.reduceNeg, Int.reduceToNat, reduceCtorEq, reduceIte]
  by_cases hlj : (j : Int) < t.op.length
  case neg =>
    simp (disch := first | assumption | omega | (simp only [az]; done)) only [ru, eq_self, if_true, if_false, BEq.rfl, binI, AO.row?, splice, fillL, mmAll, loadV, storeV, zeros, Am.rowAt, Am.part, addOff, Nat.reduceAdd, Nat.reduceMul, Nat.reduceLeDiff, Nat.reduceSub, Nat.reduceLT, Int.reduceEq, Int.reduceLT, Int.reduceLE, Int.reduceGT, Int.reduceGE, Int.reduceAdd, Int.reduceSub, Int.reduceMul, Int.reduceNeg, Int.reduceToNat, reduceCtorEq, reduceIte, hlj]
    exact ⟨true, rfl, ⟨fun _ => ⟨hLT, RK, fun i hi c hc => PK i (by omega) c hc, WK⟩, fun _ => rfl⟩⟩
  have hj2 : j < t.op.length := by omega
  have j0 : (0 : Int) ≤ j := by omega
  have j1 : (0 : Int) ≤ (j : Int) + 1 := by omega
  have j2 : (j : Int) < (L.length : Nat) := by omega
  have j3 : (j : Int) + 1 < (L.length : Nat) := by omega
  have j4 : ((j : Int) + 1).toNat = j + 1 := by omega
  obtain ⟨x, hx⟩ : ∃ x, x = L.getD j default := ⟨_, rfl⟩
  obtain ⟨x', hx'⟩ : ∃ x', x' = L.getD (j + 1) default := ⟨_, rfl⟩
  obtain ⟨u, hu⟩ : ∃ u, u = t.op.getD j default := ⟨_, rfl⟩
  have uun := Ls.under H.sl hj2
  rw [← hu] at uun
  have r1 := RK j (by omega)
  have r2 := RK (j + 1) (by omega)
  have rx : rowN L j = x.list := by rw [hx]; rfl
  have rx' : rowN L (j + 1) = x'.list := by rw [hx']; rfl
  refine (s98 (C := t.C) x.is x'.is u.is (by rw [← rx]; exact r1.1) (by rw [← rx']; exact r2.1) (by omega) uun (by rw [← rx]; exact rowK_mem r1) (by rw [← rx']; exact rowK_mem r2)).elim fun b h => ?_
  have c98 := h.1
  have hb : b = true ↔ ∀ c, c < t.C → PasK t L j c := by
    rw [h.2]
    unfold PasK behN
    rw [rx, rx', ← hu]
  clear h
  cases b
  · simp (disch := first | assumption | omega | (simp only [az]; done)) only [ru, eq_self, if_true, if_false, BEq.rfl, binI, AO.row?, splice, fillL, mmAll, loadV, storeV, zeros, Am.rowAt, Am.part, addOff, Nat.reduceAdd, Nat.reduceMul, Nat.reduceLeDiff, Nat.reduceSub, Nat.reduceLT, Int.reduceEq, Int.reduceLT, Int.reduceLE, Int.reduceGT, Int.reduceGE, Int.reduceAdd, Int.reduceSub, Int.reduceMul, Int.reduceNeg, Int.reduceToNat, reduceCtorEq, reduceIte, lenV_sl H.o, lenV_sl H.w, elem_sl Ls.el H.o, elem_sl Wd.el H.w, view_sl H.o, view_sl H.w, scalar_sl H.o, scalar_sl H.w, cells_sl H.o, cells_sl H.w, pure_sl H.o, pure_sl H.w, Int.toNat_natCast, lenV_sl hL, elem_sl Ls.el hL, view_sl hL, scalar_sl hL, cells_sl hL, pure_sl hL, hlj, j0, j1, j2, j3, j4, Int.toNat_natCast, ← hx, ← hx', ← hu, Ls.e, lenV_sl x.is, elem_sl intE x.is, view_sl x.is, scalar_sl x.is, cells_sl x.is, pure_sl x.is, lenV_sl x'.is, elem_sl intE x'.is, view_sl x'.is, scalar_sl x'.is, cells_sl x'.is, pure_sl x'.is, lenV_sl u.is, elem_sl intE u.is, view_sl u.is, scalar_sl u.is, cells_sl u.is, pure_sl u.is, c98]
    exact no fun T => absurd (hb.2 fun c hc => T.p j (by omega) c hc) (by simp)
  · simp (disch := first | assumption | omega | (simp only [az]; done)) only [ru, eq_self, if_true, if_false, BEq.rfl, binI, AO.row?, splice, fillL, mmAll, loadV, storeV, zeros, Am.rowAt, Am.part, addOff, Nat.reduceAdd, Nat.reduceMul, Nat.reduceLeDiff, Nat.reduceSub, Nat.reduceLT, Int.reduceEq, Int.reduceLT, Int.reduceLE, Int.reduceGT, Int.reduceGE, Int.reduceAdd, Int.reduceSub, Int.reduceMul, Int.reduceNeg, Int.reduceToNat, reduceCtorEq, reduceIte, lenV_sl H.o, lenV_sl H.w, elem_sl Ls.el H.o, elem_sl Wd.el H.w, view_sl H.o, view_sl H.w, scalar_sl H.o, scalar_sl H.w, cells_sl H.o, cells_sl H.w, pure_sl H.o, pure_sl H.w, Int.toNat_natCast, lenV_sl hL, elem_sl Ls.el hL, view_sl hL, scalar_sl hL, cells_sl hL, pure_sl hL, hlj, j0, j1, j2, j3, j4, Int.toNat_natCast, ← hx, ← hx', ← hu, Ls.e, lenV_sl x.is, elem_sl intE x.is, view_sl x.is, scalar_sl x.is, cells_sl x.is, pure_sl x.is, lenV_sl x'.is, elem_sl intE x'.is, view_sl x'.is, scalar_sl x'.is, cells_sl x'.is, pure_sl x'.is, lenV_sl u.is, elem_sl intE u.is, view_sl u.is, scalar_sl u.is, cells_sl u.is, pure_sl u.is, c98]
    refine ih (t.op.length - (j + 1)) _ _ _ (by omega) ⟨j + 1, by omega, rfl, rfl, rfl, rfl, rfl, rfl, rfl, rfl, rfl, fun i hi c hc => ?_⟩
    by_cases e : i = j
    · subst e; exact hb.1 rfl c hc
    · exact PK i (by omega) c hc

/-- Holds, on both sides -/
theorem s21 {t : Trap} {o w : AV} (H : TrOk t o w) {L : List Ls} {v : AV} (hL : IsSl 1 Ls.e L v) (hl : L.length ≤ 40) (hs : ∀ x ∈ L, x.list.length ≤ 40) : ∃ b e, (∀ st, Iso E 21 [trV t o w, v] st = some (.tup [Bo b, I e])) ∧ (t.valid = false → b = false ∧ e = 10) ∧ (t.valid = true → e = 0 ∧ (b = true ↔ TruN t L)) := by
  have c54 := fun st => s54 H st
  simp only [chkE, trV] at c54 ⊢
  cases hv : t.valid
  · simp only [hv, Bool.false_eq_true, if_false] at c54
    refine ⟨false, 10, fun st => ?_, fun _ => ⟨rfl, rfl⟩, fun h => (by cases h)⟩
    refine Iso_of (es _ _ _ _) e21 ?_
    simp only [f21]
    simp (disch := first | assumption | omega | (simp only [az]; done)) only [ru, eq_self, if_true, if_false, BEq.rfl, binI, AO.row?, splice, fillL, mmAll, loadV, storeV, zeros, Am.rowAt, Am.part, addOff, Nat.reduceAdd, Nat.reduceMul, Nat.reduceLeDiff, Nat.reduceSub, Nat.reduceLT, Int.reduceEq, Int.reduceLT, Int.reduceLE, Int.reduceGT, Int.reduceGE, Int.reduceAdd, Int.reduceSub, Int.reduceMul, Int.reduceNeg, Int.reduceToNat, reduceCtorEq, reduceIte, lenV_sl H.o, lenV_sl H.w, elem_sl Ls.el H.o, elem_sl Wd.el H.w, view_sl H.o, view_sl H.w, scalar_sl H.o, scalar_sl H.w, cells_sl H.o, cells_sl H.w, pure_sl H.o, pure_sl H.w, Int.toNat_natCast, lenV_sl hL, elem_sl Ls.el hL, view_sl hL, scalar_sl hL, cells_sl hL, pure_sl hL, c54]
  · simp only [hv, if_true] at c54
    obtain ⟨b, c72, hb⟩ := s72 H hv hL hl hs
    simp only [trV] at c72
    refine ⟨b, 0, fun st => ?_, fun h => (by cases h), fun _ => ⟨rfl, hb⟩⟩
    refine Iso_of (es _ _ _ _) e21 ?_
    simp only [f21]
    simp (disch := first | assumption | omega | (simp only [az]; done)) only [ru, eq_self, if_true, if_false, BEq.rfl, binI, AO.row?, splice, fillL, mmAll, loadV, storeV, zeros, Am.rowAt, Am.part, addOff, Nat.reduceAdd, Nat.reduceMul, Nat.reduceLeDiff, Nat.reduceSub, Nat.reduceLT, Int.reduceEq, Int.reduceLT, Int.reduceLE, Int.reduceGT, Int.reduceGE, Int.reduceAdd, Int.reduceSub, Int.reduceMul, Int.reduceNeg, Int.reduceToNat, reduceCtorEq, reduceIte, lenV_sl H.o, lenV_sl H.w, elem_sl Ls.el H.o, elem_sl Wd.el H.w, view_sl H.o, view_sl H.w, scalar_sl H.o, scalar_sl H.w, cells_sl H.o, cells_sl H.w, pure_sl H.o, pure_sl H.w, Int.toNat_natCast, lenV_sl hL, elem_sl Ls.el hL, view_sl hL, scalar_sl hL, cells_sl hL, pure_sl hL, c54, c72]
end Go.Proofs.Ytjaaefdhdggnkaa.S

/-
Lists in new memory: copied.
-/
namespace Go.Proofs.Ytjaaefdhdggnkaa.S
open Go Go.Am Go.Proofs.Ytjaaefdhdggnkaa.T
set_option maxRecDepth 100000
set_option linter.unusedSimpArgs false
set_option linter.unusedVariables false

/-- a list of numbers appended to an empty one -/
theorem cp_app {h : List AO} {B : List Int} {x : AV} (hx : IsSl 1 intL B x) (hb : B.length ≤ 40) : ∃ p h', appV 0 (h ++ [AO.cells [] false]) 1 8 (.ms 1 h.length 0 0) x = some (.ms 1 p 0 B.length, h') ∧ h'[p]? = some (.cells (B.flatMap intL) false) ∧ h.length ≤ p ∧ (∀ k, k < h.length → h'[k]? = h[k]?) := by
  have ho : (h ++ [AO.cells [] false])[h.length]? = some (.cells [] false) := by rw [atT0]; rfl
  have ev := appV_new (eb := 8) hx intE intSc (by omega) (by omega) (h ++ [AO.cells [] false]) h.length 0 ho (Nat.zero_le _)
  by_cases hz : B.length = 0
  · rw [if_pos hz] at ev
    have e : B = [] := List.eq_nil_of_length_eq_zero hz
    subst e
    exact ⟨h.length, _, ev, ho, Nat.le_refl _, fun k hk => at_ap hk⟩
  · rw [if_neg hz] at ev
    refine ⟨_, _, ev, ?_, by simp, fun k hk => ?_⟩
    · rw [show (h ++ [AO.cells [] false]).length = ((h ++ [AO.cells [] false]).set h.length .tomb).length by simp, atT0]; rfl
    · rw [at_ap (by simp; omega), List.getElem?_set_ne (by omega), at_ap hk]
/-- lists, as they are made one after another -/
def LsH (h : List AO) (v : AV) (L : List Ls) (i : Nat) : Prop :=
  (i = 0 ∧ v = .nils) ∨ (0 < i ∧ ∃ o vs, v = .ms 1 o 0 i ∧ h[o]? = some (.cells vs false) ∧ vs.length = i ∧ ∀ j, j < i → ∃ p, p ≠ o ∧ vs.getD j .undef = .ms 1 p 0 (L.getD j default).list.length ∧ h[p]? = some (.cells ((L.getD j default).list.flatMap intL) false))
theorem LsH.view {h : List AO} {v : AV} {L : List Ls} (H : LsH h v L L.length) (n : Nat) (st : Bool) : view st h (n + 2) v = some (cpO L) := by
  rcases H with ⟨h0, rfl⟩ | ⟨h0, o, vs, rfl, ho, hl, hr⟩
  · have : L = [] := List.eq_nil_of_length_eq_zero h0
    subst this
    rw [view_nils]; rfl
  · refine OvH.view (ow := h.length) (.inr ⟨fun e => by rw [e] at h0; simp at h0, o, vs, ?_, rfl, ho, hl, fun j hj => ?_⟩) st
    · have := (List.getElem?_eq_some_iff.1 ho).1; omega
    · obtain ⟨p, p1, p2, p3⟩ := hr j hj
      exact ⟨p, p1, by have := (List.getElem?_eq_some_iff.1 p3).1; omega, p2, p3⟩
/-- one list more -/
theorem lsH_app {h G : List AO} {v z : AV} {L : List Ls} {i p q : Nat} (H : LsH h v L i) (hf : ∀ k, k < h.length → G[k]? = h[k]?) (hz : z = .ms 1 p 0 (L.getD i default).list.length) (hp : G[p]? = some (.cells ((L.getD i default).list.flatMap intL) false)) (hpl : h.length ≤ p)
    (hq : G[q]? = some (.cells [z] false)) (hb : (i + 1) * 24 ≤ 1099511627776) : ∃ v' h', appV 0 G 1 24 v (.ms 1 q 0 1) = some (v', h') ∧ LsH h' v' L (i + 1) ∧ v' = .ms 1 G.length 0 (i + 1) ∧ G.length < h'.length ∧ ∀ k, k < G.length → (∀ o', v = .ms 1 o' 0 i → k ≠ o') → h'[k]? = G[k]? := by
  have hr : Am.rowOf G (.ms 1 q 0 1) = some [z] := by rw [rowOf_ms]; simp only [Am.rowAt, hq]; rfl
  have zs : [z].all AV.scalar = true := by rw [hz]; rfl
  have pl := (List.getElem?_eq_some_iff.1 hp).1
  rcases H with ⟨e1, rfl⟩ | ⟨e0, o, vs, rfl, ho, hl, hrr⟩
  · subst e1
    have ev := appV_nil (lim := 0) (esz := 1) (eb := 24) (n := 1) (x := .ms 1 q 0 1) rfl hr rfl zs (by omega) (by omega)
    rw [if_neg (by omega)] at ev
    refine ⟨_, _, ev, .inr ⟨by omega, G.length, [z], rfl, by rw [atT0]; rfl, rfl, fun j hj => ?_⟩, rfl, by simp, fun k hk _ => at_ap hk⟩
    obtain rfl : j = 0 := by omega
    exact ⟨p, by omega, hz, by rw [at_ap pl]; exact hp⟩
  · have o2 := (List.getElem?_eq_some_iff.1 ho).1
    have go : G[o]? = some (.cells vs false) := by rw [hf o o2]; exact ho
    have o3 := (List.getElem?_eq_some_iff.1 go).1
    have ev := appV_ms (lim := 0) (esz := 1) (eb := 24) (n := 1) (len := i) (x := .ms 1 q 0 1) go (by omega) rfl hr rfl zs hb (by omega) (Nat.zero_le _)
    rw [if_neg (by omega)] at ev
    refine ⟨_, _, ev, .inr ⟨by omega, G.length, vs ++ [z], rfl, by rw [show G.length = (G.set o .tomb).length by simp, atT0]; rfl, by simp [hl], fun j hj => ?_⟩, rfl, by simp, fun k hk hn => by rw [at_ap (by simp; omega), List.getElem?_set_ne (fun e => hn o rfl e.symm)]⟩
    by_cases e : j = i
    · subst e
      refine ⟨p, by omega, ?_, ?_⟩
      · rw [← hz, ← hl, getT0]; rfl
      · rw [at_ap (by simp; omega), List.getElem?_set_ne (by omega)]; exact hp
    · obtain ⟨p', b1, b2, b3⟩ := hrr j (by omega)
      have p2 := (List.getElem?_eq_some_iff.1 b3).1
      have gp : G[p']? = some (.cells ((L.getD j default).list.flatMap intL) false) := by rw [hf p' p2]; exact b3
      have p3 := (List.getElem?_eq_some_iff.1 gp).1
      refine ⟨p', by omega, ?_, ?_⟩
      · rw [← b2, List.getD_eq_getElem?_getD, List.getElem?_append_left (by omega), ← List.getD_eq_getElem?_getD]
      · rw [at_ap (by simp; omega), List.getElem?_set_ne (by omega)]; exact gp
theorem s22 {L : List Ls} {v : AV} (hL : IsSl 1 Ls.e L v) (hl : L.length ≤ 40) (hs : ∀ x ∈ L, x.list.length ≤ 40) (st : Bool) : Iso E 22 [v] st = some (cpO L) := by
  suffices hR : ∃ r h', R E (.fn 22) [v] [] 0 = some (r, h') ∧ LsH h' r L L.length by
    obtain ⟨r, h', hr, hp⟩ := hR
    simp only [Iso, hr]
    exact hp.view 6 st
  refine R_of (f := 22) (fun r h' => LsH h' r L L.length) (es _ _ _ _) e22 ?_
  simp only [f22]
  simp (disch := first | assumption | omega | (simp only [az]; done)) only [ru, eq_self, if_true, if_false, BEq.rfl, binI, AO.row?, splice, fillL, mmAll, loadV, storeV, zeros, Am.rowAt, Am.part, addOff, Nat.reduceAdd, Nat.reduceMul, Nat.reduceLeDiff, Nat.reduceSub, Nat.reduceLT, Int.reduceEq, Int.reduceLT, Int.reduceLE, Int.reduceGT, Int.reduceGE, Int.reduceAdd, Int.reduceSub, Int.reduceMul, Int.reduceNeg, Int.reduceToNat, reduceCtorEq, reduceIte, lenV_sl hL, elem_sl Ls.el hL, view_sl hL, scalar_sl hL, cells_sl hL, pure_sl hL]
  refine G_loop_ind (fun m ts hk mk => ∃ (i : Nat) (u : AV), i ≤ L.length ∧ m = L.length - i ∧ ts.length = 21 ∧ ts.getD 0 .undef = v ∧ ts.getD 3 .undef = u ∧ ts.getD 4 .undef = I i ∧ LsH hk u L i ∧ mk = []) ?_ _ _ _ _
    ⟨0, .nils, Nat.zero_le _, rfl, rfl, rfl, rfl, rfl, .inl ⟨rfl, rfl⟩, rfl⟩
  rintro m ts hk mk ih ⟨i, u, hi, rfl, hll, q0, q3, q4, HL, rfl⟩
  rw [lit_all hll]
  simp only [lit0, litS, Nat.reduceAdd, q0, q3, q4]
  simp (disch := first | assumption | omega | (simp only [az]; done)) only [ru, eq_self, if_true, if_false, BEq.rfl, binI, AO.row?, splice, fillL, mmAll, loadV, storeV, zeros, Am.rowAt, Am.part, addOff, Nat.reduceAdd, Nat.reduceMul, Nat.reduceLeDiff, Nat.reduceSub, Nat.reduceLT, Int.reduceEq, Int.reduceLT, Int.reduceLE, Int.reduceGT, Int.reduceGE, Int.reduceAdd, Int.reduceSub, Int.reduceMul, Int.reduceNeg, Int.reduceToNat, reduceCtorEq, reduceIte, lenV_sl hL, elem_sl Ls.el hL, view_sl hL, scalar_sl hL, cells_sl hL, pure_sl hL]
  by_cases hlt : (i : Int) < L.length
  case neg =>
    have hi3 : i = L.length := by omega
    subst hi3
    simp (disch := first | assumption | omega | (simp only [az]; done)) only [ru, eq_self, if_true, if_false, BEq.rfl, binI, AO.row?, splice, fillL, mmAll, loadV, storeV, zeros, Am.rowAt, Am.part, addOff, Nat.reduceAdd, Nat.reduceMul, Nat.reduceLeDiff, Nat.reduceSub, Nat.reduceLT, Int.reduceEq, Int.reduceLT, Int.reduceLE, Int.reduceGT, Int.reduceGE, Int.reduceAdd, Int.reduceSub, Int.reduceMul, Int.reduceNeg, Int.reduceToNat, reduceCtorEq, reduceIte, hlt]
    exact HL
  have hi2 : i < L.length := by omega
  have i0 : (0 : Int) ≤ i := by omega
  obtain ⟨x, hx⟩ : ∃ x, x = L.getD i default := ⟨_, rfl⟩
  have un := Ls.under hs hi2
  rw [← hx] at un
  refine (cp_app (h := hk) x.is un).elim fun p h => h.elim fun h1 h => ?_
  have a1 := h.1
  have a2 := h.2.1
  have a3 := h.2.2.1
  have a4 := h.2.2.2
  clear h
  have p1 := (List.getElem?_eq_some_iff.1 a2).1
  obtain ⟨z, hz⟩ : ∃ z, z = AV.ms 1 p 0 x.list.length := ⟨_, rfl⟩
  have z1 : z.scalar = true ∧ z.cells = [z] := by rw [hz]; exact ⟨rfl, rfl⟩
  refine (lsH_app (G := h1 ++ [AO.cells [z] false]) (z := z) (p := p) (q := h1.length) HL (fun k hk' => by rw [at_ap (by omega)]; exact a4 k hk') (by rw [← hx]; exact hz) (by rw [at_ap p1, ← hx]; exact a2) a3 (by rw [atT0]; rfl) (by omega)).elim fun v' h => h.elim fun h2 h => ?_
  have b1 := h.1
  have b2 := h.2.1
  clear h
  rw [← hz] at a1
  simp (disch := first | assumption | omega | (simp only [az]; done)) only [ru, eq_self, if_true, if_false, BEq.rfl, binI, AO.row?, splice, fillL, mmAll, loadV, storeV, zeros, Am.rowAt, Am.part, addOff, Nat.reduceAdd, Nat.reduceMul, Nat.reduceLeDiff, Nat.reduceSub, Nat.reduceLT, Int.reduceEq, Int.reduceLT, Int.reduceLE, Int.reduceGT, Int.reduceGE, Int.reduceAdd, Int.reduceSub, Int.reduceMul, Int.reduceNeg, Int.reduceToNat, reduceCtorEq, reduceIte, lenV_sl hL, elem_sl Ls.el hL, view_sl hL, scalar_sl hL, cells_sl hL, pure_sl hL, hlt, i0, Int.toNat_natCast, ← hx, Ls.e, lenV_sl x.is, elem_sl intE x.is, view_sl x.is, scalar_sl x.is, cells_sl x.is, pure_sl x.is, a1, z1.1, z1.2, b1]
  exact ih (L.length - (i + 1)) _ _ _ (by omega) ⟨i + 1, v', by omega, rfl, rfl, rfl, rfl, rfl, b2, rfl⟩
end Go.Proofs.Ytjaaefdhdggnkaa.S

/-
The law of each truth.
-/
namespace Go.Proofs.Ytjaaefdhdggnkaa.S
open Go Go.Am Go.Proofs.Ytjaaefdhdggnkaa.T
set_option maxRecDepth 100000
set_option linter.unusedSimpArgs false
set_option linter.unusedVariables false

theorem cp_row {L : List Ls} {i : Nat} : rowN (cpL L) i = rowN L i := by
  unfold rowN
  by_cases h : i < L.length
  · rw [cpL_list h]
  · have h1 : (cpL L).getD i default = default := by rw [List.getD_eq_getElem?_getD, List.getElem?_eq_none (by rw [cpL_len]; omega)]; rfl
    have h2 : L.getD i default = default := by rw [List.getD_eq_getElem?_getD, List.getElem?_eq_none (by omega)]; rfl
    rw [h1, h2]
theorem tru_cp {t : Trap} {L : List Ls} : TruN t (cpL L) ↔ TruN t L := by
  have e1 : ∀ i c, numN (cpL L) i c = numN L i c := fun i c => by unfold numN; rw [cp_row]
  have e2 : ∀ i c, behN (cpL L) i c = behN L i c := fun i c => by unfold behN; rw [cp_row]
  have e3 : ∀ i, RowK t.C (cpL L) i ↔ RowK t.C L i := fun i => by unfold RowK; rw [cp_row, e2]; simp only [e1]
  have e4 : ∀ i c, PasK t (cpL L) i c ↔ PasK t L i c := fun i c => by unfold PasK; rw [e2, e2]
  constructor
  · intro h
    exact ⟨cpL_len.symm.trans h.l, fun i hi => (e3 i).1 (h.r i hi), fun i hi c hc => (e4 i c).1 (h.p i hi c hc), fun k hk => by have := h.w k hk; rw [e1] at this; exact this⟩
  · intro h
    exact ⟨cpL_len.trans h.l, fun i hi => (e3 i).2 (h.r i hi), fun i hi c hc => (e4 i c).2 (h.p i hi c hc), fun k hk => by rw [e1]; exact h.w k hk⟩
theorem beh_at {t : Trap} {L : List Ls} (T : TruN t L) (hC : t.C ≤ 4) {i c : Nat} (hi : i < t.T) (hc : c ≤ t.C) (st : Bool) : Iso E 25 [(L.getD i default).v, I c] st = some (I (behN L i c)) := by
  have r := T.r i hi
  have l := r.1
  unfold rowN at l
  exact s25 (L.getD i default).is (by omega) (fun x hx => rowK_mem r x hx) (by omega) st
theorem came_at {t : Trap} {o w : AV} (H : TrOk t o w) (hv : t.valid = true) (hs : Solv t.C t.T t) {i j : Nat} (hij : i ≤ j) (hj : j < t.T) : ∃ lo hi, (∀ st, Iso E 24 [trV t o w, I i, I j] st = some (.tup [.agg [I lo, I hi], I 0])) ∧ Xt t (fun x => x (sumN t.C j 0) - x (sumN t.C i 0)) lo hi := by
  have eT := eqT hv
  obtain ⟨lo, hi, e, h, A⟩ := s24 H i j
  obtain ⟨rfl, X⟩ := A.val hv (by simp only [timeB, Bool.and_eq_true, decide_eq_true_eq]; omega) hs
  exact ⟨lo, hi, h, X⟩

set_option maxHeartbeats 4000000 in
theorem s3 {t : Trap} {o w : AV} (H0 : TrIn t o w) {L : List Ls} {v : AV} (hL : IsSl 1 Ls.e L v) (y : Wd) : Iso E 3 [trV t o w, v, .agg y.e] false = some (Bo true) := by
  have ho := H0.o
  have hw := H0.w
  have c16 := fun st => s16 H0 st
  have d19 := s19
  cases hr : rdy t
  case false =>
    refine Iso_of (es _ _ _ _) e3 ?_
    simp only [f3, trV, hr, Wd.e] at c16 ⊢
    simp (disch := first | assumption | omega | (simp only [az]; done)) only [ru, eq_self, if_true, if_false, BEq.rfl, binI, AO.row?, splice, fillL, mmAll, loadV, storeV, zeros, Am.rowAt, Am.part, addOff, Nat.reduceAdd, Nat.reduceMul, Nat.reduceLeDiff, Nat.reduceSub, Nat.reduceLT, Int.reduceEq, Int.reduceLT, Int.reduceLE, Int.reduceGT, Int.reduceGE, Int.reduceAdd, Int.reduceSub, Int.reduceMul, Int.reduceNeg, Int.reduceToNat, reduceCtorEq, reduceIte, lenV_sl ho, elem_sl Ls.el ho, view_sl ho, scalar_sl ho, cells_sl ho, pure_sl ho, lenV_sl hw, elem_sl Wd.el hw, view_sl hw, scalar_sl hw, cells_sl hw, pure_sl hw, lenV_sl hL, elem_sl Ls.el hL, view_sl hL, scalar_sl hL, cells_sl hL, pure_sl hL, c16, d19, gUn]
  obtain ⟨hg, hv⟩ := rdy_h hr
  have H := H0.ok hg
  have V := valid_trb hv
  have v1 := V.c0; have v2 := V.c1; have v3 := V.t0; have v4 := V.t1
  have eC := trC V; have eT := trT V
  have c17 := fun st => s17 hL st
  simp only [trV, hr] at c16
  cases hh : hugeL L
  case true =>
    rw [hh] at c17
    refine Iso_of (es _ _ _ _) e3 ?_
    simp only [f3, trV, Wd.e]
    simp (disch := first | assumption | omega | (simp only [az]; done)) only [ru, eq_self, if_true, if_false, BEq.rfl, binI, AO.row?, splice, fillL, mmAll, loadV, storeV, zeros, Am.rowAt, Am.part, addOff, Nat.reduceAdd, Nat.reduceMul, Nat.reduceLeDiff, Nat.reduceSub, Nat.reduceLT, Int.reduceEq, Int.reduceLT, Int.reduceLE, Int.reduceGT, Int.reduceGE, Int.reduceAdd, Int.reduceSub, Int.reduceMul, Int.reduceNeg, Int.reduceToNat, reduceCtorEq, reduceIte, lenV_sl ho, elem_sl Ls.el ho, view_sl ho, scalar_sl ho, cells_sl ho, pure_sl ho, lenV_sl hw, elem_sl Wd.el hw, view_sl hw, scalar_sl hw, cells_sl hw, pure_sl hw, lenV_sl hL, elem_sl Ls.el hL, view_sl hL, scalar_sl hL, cells_sl hL, pure_sl hL, c16, c17, d19, gUn]
  rw [hh] at c17
  obtain ⟨hl, hs⟩ := hugeL_no hh
  obtain ⟨b, c18, hb⟩ := s18 H hv hL hl hs
  simp only [trV] at c18
  cases b
  · refine Iso_of (es _ _ _ _) e3 ?_
    simp only [f3, trV, Wd.e]
    simp (disch := first | assumption | omega | (simp only [az]; done)) only [ru, eq_self, if_true, if_false, BEq.rfl, binI, AO.row?, splice, fillL, mmAll, loadV, storeV, zeros, Am.rowAt, Am.part, addOff, Nat.reduceAdd, Nat.reduceMul, Nat.reduceLeDiff, Nat.reduceSub, Nat.reduceLT, Int.reduceEq, Int.reduceLT, Int.reduceLE, Int.reduceGT, Int.reduceGE, Int.reduceAdd, Int.reduceSub, Int.reduceMul, Int.reduceNeg, Int.reduceToNat, reduceCtorEq, reduceIte, lenV_sl ho, elem_sl Ls.el ho, view_sl ho, scalar_sl ho, cells_sl ho, pure_sl ho, lenV_sl hw, elem_sl Wd.el hw, view_sl hw, scalar_sl hw, cells_sl hw, pure_sl hw, lenV_sl hL, elem_sl Ls.el hL, view_sl hL, scalar_sl hL, cells_sl hL, pure_sl hL, c16, c17, c18, d19, gUn]
  have T := hb.1 rfl
  obtain ⟨x, tx, gx, bx⟩ := num_tr V T
  have sv : Solv t.C t.T t := ⟨x, tx⟩
  obtain ⟨S, hS⟩ := fish_all H hv sv
  have c20 := s20 H hv hS
  have c22 := fun st => s22 hL hl hs st
  have hLc : IsSl 1 Ls.e (cpL L) (cpO L) := cpO_is
  obtain ⟨b2, e2, c21, _, hb2⟩ := s21 H hLc (by rw [cpL_len]; exact hl) (cpL_under hs)
  obtain ⟨rfl, hb3⟩ := hb2 hv
  obtain rfl : b2 = true := hb3.2 (tru_cp.2 T)
  generalize cpO L = cv at c22 c21 hLc
  have is : IsSl 1 encR (spR t.C t.T S) (spV t.C t.T S) := slV_is
  generalize spV t.C t.T S = pv at c20 is
  simp only [trV] at c20 c21
  have hC4 : t.C ≤ 4 := by omega
  have hT0 : 0 < t.T := by omega
  have c28 := fun st => s28 H y st
  have LT := T.l
  obtain ⟨x0, hx0⟩ : ∃ x0, x0 = L.getD 0 default := ⟨_, rfl⟩
  have c250 := fun st => beh_at T hC4 hT0 (Nat.zero_le _) st
  rw [← hx0] at c250
  have c250' : ∀ st, Iso E 25 [x0.v, I 0] st = some (I (behN L 0 0)) := c250
  have l0 : (0 : Int) < (L.length : Nat) := by omega
  have bh : ∀ i c, i < t.T → c ≤ t.C → 0 ≤ behN L i c ∧ behN L i c ≤ 160 := fun i c hi hc => beh_bd (T.r i hi) hC4
  refine Iso_of (es _ _ _ _) e3 ?_
  simp only [f3, trV, Wd.e] at c28 ⊢
  simp (disch := first | assumption | omega | (simp only [az]; done)) only [ru, eq_self, if_true, if_false, BEq.rfl, binI, AO.row?, splice, fillL, mmAll, loadV, storeV, zeros, Am.rowAt, Am.part, addOff, Nat.reduceAdd, Nat.reduceMul, Nat.reduceLeDiff, Nat.reduceSub, Nat.reduceLT, Int.reduceEq, Int.reduceLT, Int.reduceLE, Int.reduceGT, Int.reduceGE, Int.reduceAdd, Int.reduceSub, Int.reduceMul, Int.reduceNeg, Int.reduceToNat, reduceCtorEq, reduceIte, lenV_sl ho, elem_sl Ls.el ho, view_sl ho, scalar_sl ho, cells_sl ho, pure_sl ho, lenV_sl hw, elem_sl Wd.el hw, view_sl hw, scalar_sl hw, cells_sl hw, pure_sl hw, lenV_sl hL, elem_sl Ls.el hL, view_sl hL, scalar_sl hL, cells_sl hL, pure_sl hL, lenV_sl hLc, elem_sl Ls.el hLc, view_sl hLc, scalar_sl hLc, cells_sl hLc, pure_sl hLc, c16, c17, c18, c20, c22, c21, gUn]
  refine G_loop_ind (fun q ts hk mk => ∃ (i : Nat), i ≤ t.T ∧ q = t.T - i ∧ ts.length = 209 ∧ ts.getD 1 .undef = v ∧ ts.getD 3 .undef = .ptr 0 0 ∧ ts.getD 5 .undef = .ptr 1 0 ∧ ts.getD 7 .undef = pv ∧ ts.getD 11 .undef = I i ∧
    2 ≤ hk.length ∧ hk[0]? = some (.cells [I t.ch, I t.tm, o, w] false) ∧ hk[1]? = some (.cells [I y.time, I y.ch, I y.lo, I y.hi] false) ∧ mk = []) ?_ _ _ _ _
    ⟨0, Nat.zero_le _, rfl, rfl, rfl, rfl, rfl, rfl, rfl, by simp, rfl, rfl, rfl⟩
  rintro q ts hk mk ih ⟨i, hi, rfl, hll, q1, q3, q5, q7, q11, hg2, k0, k1, rfl⟩
  rw [lit_all hll]
  simp only [lit0, litS, Nat.reduceAdd, q1, q3, q5, q7, q11]
  simp (disch := first | assumption | omega | (simp only [az]; done)) only [ru, eq_self, if_true, if_false, BEq.rfl, binI, AO.row?, splice, fillL, mmAll, loadV, storeV, zeros, Am.rowAt, Am.part, addOff, Nat.reduceAdd, Nat.reduceMul, Nat.reduceLeDiff, Nat.reduceSub, Nat.reduceLT, Int.reduceEq, Int.reduceLT, Int.reduceLE, Int.reduceGT, Int.reduceGE, Int.reduceAdd, Int.reduceSub, Int.reduceMul, Int.reduceNeg, Int.reduceToNat, reduceCtorEq, reduceIte, k0]
  have k0J : ∀ J, (hk ++ J)[0]? = some (.cells [I t.ch, I t.tm, o, w] false) := fun J => by rw [at_ap (by omega)]; exact k0
  have k1J : ∀ J, (hk ++ J)[1]? = some (.cells [I y.time, I y.ch, I y.lo, I y.hi] false) := fun J => by rw [at_ap (by omega)]; exact k1
  by_cases hlt : (i : Int) < t.tm
  case neg =>
    simp (disch := first | assumption | omega | (simp only [az]; done)) only [ru, eq_self, if_true, if_false, BEq.rfl, binI, AO.row?, splice, fillL, mmAll, loadV, storeV, zeros, Am.rowAt, Am.part, addOff, Nat.reduceAdd, Nat.reduceMul, Nat.reduceLeDiff, Nat.reduceSub, Nat.reduceLT, Int.reduceEq, Int.reduceLT, Int.reduceLE, Int.reduceGT, Int.reduceGE, Int.reduceAdd, Int.reduceSub, Int.reduceMul, Int.reduceNeg, Int.reduceToNat, reduceCtorEq, reduceIte, hlt]
    cases hW : isW t y
    · rw [hW] at c28
      simp (disch := first | assumption | omega | (simp only [az]; done)) only [ru, eq_self, if_true, if_false, BEq.rfl, binI, AO.row?, splice, fillL, mmAll, loadV, storeV, zeros, Am.rowAt, Am.part, addOff, Nat.reduceAdd, Nat.reduceMul, Nat.reduceLeDiff, Nat.reduceSub, Nat.reduceLT, Int.reduceEq, Int.reduceLT, Int.reduceLE, Int.reduceGT, Int.reduceGE, Int.reduceAdd, Int.reduceSub, Int.reduceMul, Int.reduceNeg, Int.reduceToNat, reduceCtorEq, reduceIte, lenV_sl ho, elem_sl Ls.el ho, view_sl ho, scalar_sl ho, cells_sl ho, pure_sl ho, lenV_sl hw, elem_sl Wd.el hw, view_sl hw, scalar_sl hw, cells_sl hw, pure_sl hw, k0, k1, c28, d19]
    rw [hW] at c28
    have hyf : fitB t y = true := (isW_val hv y).trans hW
    refine (s29 H y).elim fun r h => h.elim fun e h => ?_
    have c29 := h.1
    have J := h.2.val hv hyf sv
    clear h
    have J1 : JudP t y r := J.1
    have J2 : e = 0 := J.2
    subst J2
    simp only [trV, Wd.e] at c29
    simp only [fitB, placeB, Bool.and_eq_true, decide_eq_true_eq] at hyf
    have y0 : (0 : Int) ≤ y.time := by omega
    have y1 : y.time < (L.length : Nat) := by omega
    have y2 : (0 : Int) ≤ y.ch := by omega
    have wi : y.time.toNat < t.T ∧ y.ch.toNat < t.C := by omega
    obtain ⟨z, hz⟩ : ∃ z, z = L.getD y.time.toNat default := ⟨_, rfl⟩
    have rz : rowN L y.time.toNat = z.list := by rw [hz]; rfl
    have y3 : y.ch < (z.list.length : Nat) := by have := (T.r y.time.toNat wi.1).1; rw [rz] at this; omega
    obtain ⟨n, hn⟩ : ∃ n, n = z.list.getD y.ch.toNat default := ⟨_, rfl⟩
    have nn : numN L y.time.toNat y.ch.toNat = n := by unfold numN; rw [rz, hn]; rfl
    have gn : gap t.C x y.time.toNat y.ch.toNat = n := by rw [← gx _ _ wi.1 wi.2]; exact nn
    have sy : saysW t.C x y ↔ inR n y.lo y.hi = true := by
      rw [inR_iff]
      unfold saysW
      rw [gn]
    have r13 : inR r 1 3 = true := by
      rw [inR_iff]
      rcases J1 with ⟨h, _⟩ | ⟨h, _⟩ | ⟨h, _⟩ <;> omega
    cases hso : inR n y.lo y.hi
    · have r1 : ¬ r = 1 := fun e => by
        rcases J1 with ⟨_, h⟩ | ⟨h, _⟩ | ⟨h, _⟩
        · have := sy.1 (h x tx); rw [hso] at this; cases this
        · omega
        · omega
      have r1' : (r != 1) = true := by simpa using r1
      by_cases r2 : r = 2
      · subst r2
        simp (disch := first | assumption | omega | (simp only [az]; done)) only [ru, eq_self, if_true, if_false, BEq.rfl, binI, AO.row?, splice, fillL, mmAll, loadV, storeV, zeros, Am.rowAt, Am.part, addOff, Nat.reduceAdd, Nat.reduceMul, Nat.reduceLeDiff, Nat.reduceSub, Nat.reduceLT, Int.reduceEq, Int.reduceLT, Int.reduceLE, Int.reduceGT, Int.reduceGE, Int.reduceAdd, Int.reduceSub, Int.reduceMul, Int.reduceNeg, Int.reduceToNat, reduceCtorEq, reduceIte, lenV_sl ho, elem_sl Ls.el ho, view_sl ho, scalar_sl ho, cells_sl ho, pure_sl ho, lenV_sl hw, elem_sl Wd.el hw, view_sl hw, scalar_sl hw, cells_sl hw, pure_sl hw, lenV_sl hL, elem_sl Ls.el hL, view_sl hL, scalar_sl hL, cells_sl hL, pure_sl hL, k0, k1, c28, c29, y0, y1, y2, y3, ← hz, Ls.e, lenV_sl z.is, elem_sl intE z.is, view_sl z.is, scalar_sl z.is, cells_sl z.is, pure_sl z.is, ← hn, s30, hso, r13, d19, gUn]
      · have r2' : (r != 2) = true := by simpa using r2
        simp (disch := first | assumption | omega | (simp only [az]; done)) only [ru, eq_self, if_true, if_false, BEq.rfl, binI, AO.row?, splice, fillL, mmAll, loadV, storeV, zeros, Am.rowAt, Am.part, addOff, Nat.reduceAdd, Nat.reduceMul, Nat.reduceLeDiff, Nat.reduceSub, Nat.reduceLT, Int.reduceEq, Int.reduceLT, Int.reduceLE, Int.reduceGT, Int.reduceGE, Int.reduceAdd, Int.reduceSub, Int.reduceMul, Int.reduceNeg, Int.reduceToNat, reduceCtorEq, reduceIte, lenV_sl ho, elem_sl Ls.el ho, view_sl ho, scalar_sl ho, cells_sl ho, pure_sl ho, lenV_sl hw, elem_sl Wd.el hw, view_sl hw, scalar_sl hw, cells_sl hw, pure_sl hw, lenV_sl hL, elem_sl Ls.el hL, view_sl hL, scalar_sl hL, cells_sl hL, pure_sl hL, k0, k1, c28, c29, y0, y1, y2, y3, ← hz, Ls.e, lenV_sl z.is, elem_sl intE z.is, view_sl z.is, scalar_sl z.is, cells_sl z.is, pure_sl z.is, ← hn, s30, hso, r13, r1', r2', d19, gUn]
    · have r2 : ¬ r = 2 := fun e => by
        rcases J1 with ⟨h, _⟩ | ⟨_, h⟩ | ⟨h, _⟩
        · omega
        · exact h x tx (sy.2 hso)
        · omega
      have r2' : (r != 2) = true := by simpa using r2
      by_cases r1 : r = 1
      · subst r1
        simp (disch := first | assumption | omega | (simp only [az]; done)) only [ru, eq_self, if_true, if_false, BEq.rfl, binI, AO.row?, splice, fillL, mmAll, loadV, storeV, zeros, Am.rowAt, Am.part, addOff, Nat.reduceAdd, Nat.reduceMul, Nat.reduceLeDiff, Nat.reduceSub, Nat.reduceLT, Int.reduceEq, Int.reduceLT, Int.reduceLE, Int.reduceGT, Int.reduceGE, Int.reduceAdd, Int.reduceSub, Int.reduceMul, Int.reduceNeg, Int.reduceToNat, reduceCtorEq, reduceIte, lenV_sl ho, elem_sl Ls.el ho, view_sl ho, scalar_sl ho, cells_sl ho, pure_sl ho, lenV_sl hw, elem_sl Wd.el hw, view_sl hw, scalar_sl hw, cells_sl hw, pure_sl hw, lenV_sl hL, elem_sl Ls.el hL, view_sl hL, scalar_sl hL, cells_sl hL, pure_sl hL, k0, k1, c28, c29, y0, y1, y2, y3, ← hz, Ls.e, lenV_sl z.is, elem_sl intE z.is, view_sl z.is, scalar_sl z.is, cells_sl z.is, pure_sl z.is, ← hn, s30, hso, r13, d19, gUn]
      · have r1' : (r != 1) = true := by simpa using r1
        simp (disch := first | assumption | omega | (simp only [az]; done)) only [ru, eq_self, if_true, if_false, BEq.rfl, binI, AO.row?, splice, fillL, mmAll, loadV, storeV, zeros, Am.rowAt, Am.part, addOff, Nat.reduceAdd, Nat.reduceMul, Nat.reduceLeDiff, Nat.reduceSub, Nat.reduceLT, Int.reduceEq, Int.reduceLT, Int.reduceLE, Int.reduceGT, Int.reduceGE, Int.reduceAdd, Int.reduceSub, Int.reduceMul, Int.reduceNeg, Int.reduceToNat, reduceCtorEq, reduceIte, lenV_sl ho, elem_sl Ls.el ho, view_sl ho, scalar_sl ho, cells_sl ho, pure_sl ho, lenV_sl hw, elem_sl Wd.el hw, view_sl hw, scalar_sl hw, cells_sl hw, pure_sl hw, lenV_sl hL, elem_sl Ls.el hL, view_sl hL, scalar_sl hL, cells_sl hL, pure_sl hL, k0, k1, c28, c29, y0, y1, y2, y3, ← hz, Ls.e, lenV_sl z.is, elem_sl intE z.is, view_sl z.is, scalar_sl z.is, cells_sl z.is, pure_sl z.is, ← hn, s30, hso, r13, r1', r2', d19, gUn]
  have hi2 : i < t.T := by omega
  have i0 : (0 : Int) ≤ i := by omega
  have i1 : (i : Int) < (L.length : Nat) := by omega
  refine (whole_at H hv sv hi2).elim fun l1 h => h.elim fun u1 h => ?_
  have w1 := h.1
  have X1 := h.2
  clear h
  refine (came_at H hv sv (Nat.zero_le i) hi2).elim fun l2 h => h.elim fun u2 h => ?_
  have w2 : ∀ st, Iso E 24 [trV t o w, I 0, I i] st = some (.tup [.agg [I l2, I u2], I 0]) := h.1
  have X2 := h.2
  clear h
  simp only [trV] at w1 w2
  obtain ⟨xi, hxi⟩ : ∃ xi, xi = L.getD i default := ⟨_, rfl⟩
  have c25i := fun st => beh_at T hC4 hi2 (Nat.zero_le _) st
  rw [← hxi] at c25i
  have c25i' : ∀ st, Iso E 25 [xi.v, I 0] st = some (I (behN L i 0)) := c25i
  have B1 := bx i 0 hi2 (Nat.zero_le _)
  have B0 := bx 0 0 hT0 (Nat.zero_le _)
  have p1 := (xt_tr X1).1 x tx
  have p2 := (xt_tr X2).1 x tx
  try simp only at p1 p2
  have bi := bh i 0 hi2 (Nat.zero_le _)
  have b0 := bh 0 0 hT0 (Nat.zero_le _)
  have n1 : l1 ≤ behN L i 0 := by omega
  have n2 : behN L i 0 ≤ u1 := by omega
  have n3 : l2 ≤ behN L i 0 - behN L 0 0 := by omega
  have n4 : behN L i 0 - behN L 0 0 ≤ u2 := by omega
  have ws : wr .i64 (behN L i 0 - behN L 0 0) = behN L i 0 - behN L 0 0 := wr64 (by omega) (by omega)
  simp (disch := first | assumption | omega | (simp only [az]; done)) only [ru, eq_self, if_true, if_false, BEq.rfl, binI, AO.row?, splice, fillL, mmAll, loadV, storeV, zeros, Am.rowAt, Am.part, addOff, Nat.reduceAdd, Nat.reduceMul, Nat.reduceLeDiff, Nat.reduceSub, Nat.reduceLT, Int.reduceEq, Int.reduceLT, Int.reduceLE, Int.reduceGT, Int.reduceGE, Int.reduceAdd, Int.reduceSub, Int.reduceMul, Int.reduceNeg, Int.reduceToNat, reduceCtorEq, reduceIte, lenV_sl ho, elem_sl Ls.el ho, view_sl ho, scalar_sl ho, cells_sl ho, pure_sl ho, lenV_sl hw, elem_sl Wd.el hw, view_sl hw, scalar_sl hw, cells_sl hw, pure_sl hw, lenV_sl hL, elem_sl Ls.el hL, view_sl hL, scalar_sl hL, cells_sl hL, pure_sl hL, hlt, k0, k0J, w1, w2, i0, i1, l0, Int.toNat_natCast, ← hxi, ← hx0, Ls.e, lenV_sl xi.is, elem_sl intE xi.is, view_sl xi.is, scalar_sl xi.is, cells_sl xi.is, pure_sl xi.is, lenV_sl x0.is, elem_sl intE x0.is, view_sl x0.is, scalar_sl x0.is, cells_sl x0.is, pure_sl x0.is, c25i', c250', s26, n1, n2, n3, n4, ws, decide_true, Bool.and_self, gUn, List.append_assoc, List.cons_append, List.nil_append, lenE, setT, setT0, atT, atT0, getT, getT0, Nat.add_assoc]
  clear hll q1 q3 q5 q7 q11
  refine G_loop_ind (fun q ts hh mk => ∃ (c : Nat), c ≤ t.C ∧ q = t.C - c ∧ ts.length = 209 ∧ ts.getD 1 .undef = v ∧ ts.getD 3 .undef = .ptr 0 0 ∧ ts.getD 5 .undef = .ptr 1 0 ∧ ts.getD 7 .undef = pv ∧ ts.getD 11 .undef = I i ∧ ts.getD 17 .undef = I c ∧
    2 ≤ hh.length ∧ hh[0]? = some (.cells [I t.ch, I t.tm, o, w] false) ∧ hh[1]? = some (.cells [I y.time, I y.ch, I y.lo, I y.hi] false) ∧ mk = []) ?_ _ _ _ _
    ⟨0, Nat.zero_le _, rfl, rfl, rfl, rfl, rfl, rfl, rfl, rfl, by simp, k0J _, k1J _, rfl⟩
  rintro q ts hh mk ihC ⟨c, hc, rfl, hll, q1, q3, q5, q7, q11, q17, hgg, g0, g1, rfl⟩
  rw [lit_all hll]
  simp only [lit0, litS, Nat.reduceAdd, q1, q3, q5, q7, q11, q17]
  simp (disch := first | assumption | omega | (simp only [az]; done)) only [ru, eq_self, if_true, if_false, BEq.rfl, binI, AO.row?, splice, fillL, mmAll, loadV, storeV, zeros, Am.rowAt, Am.part, addOff, Nat.reduceAdd, Nat.reduceMul, Nat.reduceLeDiff, Nat.reduceSub, Nat.reduceLT, Int.reduceEq, Int.reduceLT, Int.reduceLE, Int.reduceGT, Int.reduceGE, Int.reduceAdd, Int.reduceSub, Int.reduceMul, Int.reduceNeg, Int.reduceToNat, reduceCtorEq, reduceIte, g0]
  by_cases hlc : (c : Int) < t.ch
  case neg =>
    simp (disch := first | assumption | omega | (simp only [az]; done)) only [ru, eq_self, if_true, if_false, BEq.rfl, binI, AO.row?, splice, fillL, mmAll, loadV, storeV, zeros, Am.rowAt, Am.part, addOff, Nat.reduceAdd, Nat.reduceMul, Nat.reduceLeDiff, Nat.reduceSub, Nat.reduceLT, Int.reduceEq, Int.reduceLT, Int.reduceLE, Int.reduceGT, Int.reduceGE, Int.reduceAdd, Int.reduceSub, Int.reduceMul, Int.reduceNeg, Int.reduceToNat, reduceCtorEq, reduceIte, hlc]
    exact ih (t.T - (i + 1)) _ _ _ (by omega) ⟨i + 1, by omega, rfl, rfl, rfl, rfl, rfl, rfl, rfl, hgg, g0, g1, rfl⟩
  have hc2 : c < t.C := by omega
  have c0 : (0 : Int) ≤ c := by omega
  have g0J : ∀ J, (hh ++ J)[0]? = some (.cells [I t.ch, I t.tm, o, w] false) := fun J => by rw [at_ap (by omega)]; exact g0
  have g1J : ∀ J, (hh ++ J)[1]? = some (.cells [I y.time, I y.ch, I y.lo, I y.hi] false) := fun J => by rw [at_ap (by omega)]; exact g1
  have ra := spR_at (C := t.C) (S := S) hi2
  have ca := spRow_at (i := i) (S := S) hc2
  have la : (i : Int) < ((spR t.C t.T S).length : Nat) := by rw [spR_len]; omega
  have ma : (c : Int) < ((spRow t.C S i).length : Nat) := by rw [spRow_len]; omega
  have rxi : rowN L i = xi.list := by rw [hxi]; rfl
  have lx : (c : Int) < (xi.list.length : Nat) := by have := (T.r i hi2).1; rw [rxi] at this; omega
  obtain ⟨n, hn⟩ : ∃ n, n = xi.list.getD c default := ⟨_, rfl⟩
  have nn : numN L i c = n := by unfold numN; rw [rxi, hn]; rfl
  have pn := (xt_tr (hS i c hi2 hc2).2).1 x tx
  try simp only at pn
  rw [← gx i c hi2 hc2, nn] at pn
  have m1 := pn.1
  have m2 := pn.2
  by_cases e : (i : Int) + 1 = t.tm
  · have e' : (((i : Int) + 1) == t.tm) = true := by simpa using e
    simp (disch := first | assumption | omega | (simp only [az]; done)) only [ru, eq_self, if_true, if_false, BEq.rfl, binI, AO.row?, splice, fillL, mmAll, loadV, storeV, zeros, Am.rowAt, Am.part, addOff, Nat.reduceAdd, Nat.reduceMul, Nat.reduceLeDiff, Nat.reduceSub, Nat.reduceLT, Int.reduceEq, Int.reduceLT, Int.reduceLE, Int.reduceGT, Int.reduceGE, Int.reduceAdd, Int.reduceSub, Int.reduceMul, Int.reduceNeg, Int.reduceToNat, reduceCtorEq, reduceIte, lenV_sl hL, elem_sl Ls.el hL, view_sl hL, scalar_sl hL, cells_sl hL, pure_sl hL, hlc, i0, i1, c0, elem_sl encR_len is, encR, el_sp, Int.toNat_natCast, ra, ca, la, ma, Spn.e, ← hxi, Ls.e, lenV_sl xi.is, elem_sl intE xi.is, view_sl xi.is, scalar_sl xi.is, cells_sl xi.is, pure_sl xi.is, lx, ← hn, s26, m1, m2, decide_true, Bool.and_self, g0, e']
    exact ihC (t.C - (c + 1)) _ _ _ (by omega) ⟨c + 1, by omega, rfl, rfl, rfl, rfl, rfl, rfl, rfl, rfl, hgg, g0, g1, rfl⟩
  · have e' : (((i : Int) + 1) == t.tm) = false := by simpa using e
    have hi3 : i + 1 < t.T := by omega
    refine (passed_at H hv sv hi3 hc2).elim fun l3 h => h.elim fun u3 h => ?_
    have w3 := h.1
    have X3 := h.2
    clear h
    simp only [trV] at w3
    have p3 := (xt_tr X3).1 x tx
    try simp only at p3
    unfold flow at p3
    have B2 := bx (i + 1) c hi3 (Nat.le_of_lt hc2)
    have B3 := bx i c hi2 (Nat.le_of_lt hc2)
    have bb2 := bh (i + 1) c hi3 (Nat.le_of_lt hc2)
    have bb3 := bh i c hi2 (Nat.le_of_lt hc2)
    obtain ⟨xj, hxj⟩ : ∃ xj, xj = L.getD (i + 1) default := ⟨_, rfl⟩
    have c25j := fun st => beh_at T hC4 hi3 (Nat.le_of_lt hc2) st
    have c25k := fun st => beh_at T hC4 hi2 (Nat.le_of_lt hc2) st
    rw [← hxj] at c25j
    rw [← hxi] at c25k
    have j0 : (0 : Int) ≤ (i : Int) + 1 := by omega
    have j1 : (i : Int) + 1 < (L.length : Nat) := by omega
    have j2 : ((i : Int) + 1).toNat = i + 1 := by omega
    have o1 : l3 ≤ behN L (i + 1) c - behN L i c := by omega
    have o2 : behN L (i + 1) c - behN L i c ≤ u3 := by omega
    have wq : wr .i64 (behN L (i + 1) c - behN L i c) = behN L (i + 1) c - behN L i c := wr64 (by omega) (by omega)
    simp (disch := first | assumption | omega | (simp only [az]; done)) only [ru, eq_self, if_true, if_false, BEq.rfl, binI, AO.row?, splice, fillL, mmAll, loadV, storeV, zeros, Am.rowAt, Am.part, addOff, Nat.reduceAdd, Nat.reduceMul, Nat.reduceLeDiff, Nat.reduceSub, Nat.reduceLT, Int.reduceEq, Int.reduceLT, Int.reduceLE, Int.reduceGT, Int.reduceGE, Int.reduceAdd, Int.reduceSub, Int.reduceMul, Int.reduceNeg, Int.reduceToNat, reduceCtorEq, reduceIte, lenV_sl hL, elem_sl Ls.el hL, view_sl hL, scalar_sl hL, cells_sl hL, pure_sl hL, hlc, i0, i1, c0, elem_sl encR_len is, encR, el_sp, Int.toNat_natCast, ra, ca, la, ma, Spn.e, ← hxi, Ls.e, lenV_sl xi.is, elem_sl intE xi.is, view_sl xi.is, scalar_sl xi.is, cells_sl xi.is, pure_sl xi.is, lx, ← hn, s26, m1, m2, decide_true, Bool.and_self, g0, e']
    simp (disch := first | assumption | omega | (simp only [az]; done)) only [ru, eq_self, if_true, if_false, BEq.rfl, binI, AO.row?, splice, fillL, mmAll, loadV, storeV, zeros, Am.rowAt, Am.part, addOff, Nat.reduceAdd, Nat.reduceMul, Nat.reduceLeDiff, Nat.reduceSub, Nat.reduceLT, Int.reduceEq, Int.reduceLT, Int.reduceLE, Int.reduceGT, Int.reduceGE, Int.reduceAdd, Int.reduceSub, Int.reduceMul, Int.reduceNeg, Int.reduceToNat, reduceCtorEq, reduceIte, lenV_sl ho, elem_sl Ls.el ho, view_sl ho, scalar_sl ho, cells_sl ho, pure_sl ho, lenV_sl hw, elem_sl Wd.el hw, view_sl hw, scalar_sl hw, cells_sl hw, pure_sl hw, lenV_sl hL, elem_sl Ls.el hL, view_sl hL, scalar_sl hL, cells_sl hL, pure_sl hL, g0, g0J, w3, i0, i1, j0, j1, j2, Int.toNat_natCast, ← hxi, ← hxj, Ls.e, lenV_sl xi.is, elem_sl intE xi.is, view_sl xi.is, scalar_sl xi.is, cells_sl xi.is, pure_sl xi.is, lenV_sl xj.is, elem_sl intE xj.is, view_sl xj.is, scalar_sl xj.is, cells_sl xj.is, pure_sl xj.is, c25j, c25k, s26, o1, o2, wq, decide_true, Bool.and_self, gUn, List.append_assoc, List.cons_append, List.nil_append, lenE, setT, setT0, atT, atT0, getT, getT0, Nat.add_assoc]
    exact ihC (t.C - (c + 1)) _ _ _ (by omega) ⟨c + 1, by omega, rfl, rfl, rfl, rfl, rfl, rfl, rfl, rfl, by simp <;> omega, g0J _, g1J _, rfl⟩
end Go.Proofs.Ytjaaefdhdggnkaa.S

/-
The reference's Truth runs; the law of Check, Holds and Truth.
-/
namespace Go.Proofs.Ytjaaefdhdggnkaa.S
open Go Go.Am Go.Proofs.Ytjaaefdhdggnkaa.T
set_option maxRecDepth 100000
set_option linter.unusedSimpArgs false
set_option linter.unusedVariables false

end Go.Proofs.Ytjaaefdhdggnkaa.S

/-
The law of Check, Holds and Truth.
-/
namespace Go.Proofs.Ytjaaefdhdggnkaa.S
open Go Go.Am Go.Proofs.Ytjaaefdhdggnkaa.T
set_option maxRecDepth 100000
set_option linter.unusedSimpArgs false
set_option linter.unusedVariables false

theorem trN_cp {t : Trap} {L : List Ls} : TruN t.cp L ↔ TruN t L := by
  have e4 : ∀ i c, PasK t.cp L i c ↔ PasK t L i c := fun i c => by
    have : ((t.cp.op).getD i default).list = (t.op.getD i default).list := cp_row (L := t.op) (i := i)
    unfold PasK; rw [this]
  constructor
  · intro h
    exact ⟨h.l, h.r, fun i hi c hc => (e4 i c).1 (h.p i hi c hc), h.w⟩
  · intro h
    exact ⟨h.l, h.r, fun i hi c hc => (e4 i c).2 (h.p i hi c hc), h.w⟩
end Go.Proofs.Ytjaaefdhdggnkaa.S

/-
One more open door: what it does to truths; a list in the heap that grows in a region of open order; views.
-/
namespace Go.Proofs.Ytjaaefdhdggnkaa.S
open Go Go.Am Go.Proofs.Ytjaaefdhdggnkaa.T
set_option maxRecDepth 100000
set_option linter.unusedSimpArgs false
set_option linter.unusedVariables false

/-- the doors of a step, with one more -/
def doorL (z : List Int) (d n : Nat) : List Int := List.map (fun c : Nat => (c : Int)) ((List.range n).filter fun c => decide (c = d) || hasI z c)
theorem doorL_succ {z : List Int} {d n : Nat} : doorL z d (n + 1) = doorL z d n ++ (if (decide (n = d) || hasI z n) then [(n : Int)] else []) := by
  unfold doorL
  rw [List.range_succ, List.filter_append, List.map_append]
  congr 1
  by_cases h : (decide (n = d) || hasI z n) = true
  · rw [if_pos h, List.filter_cons_of_pos (p := fun c => decide (c = d) || hasI z (c : Nat)) h]; rfl
  · rw [if_neg h, List.filter_cons_of_neg (p := fun c => decide (c = d) || hasI z (c : Nat)) h]; rfl
theorem doorL_len {z : List Int} {d n : Nat} : (doorL z d n).length ≤ n := by
  unfold doorL
  rw [List.length_map]
  have := List.length_filter_le (fun c => decide (c = d) || hasI z (c : Nat)) (List.range n)
  rwa [List.length_range] at this
theorem doorL_mem {z : List Int} {d n : Nat} {x : Int} : x ∈ doorL z d n ↔ ∃ c : Nat, x = c ∧ c < n ∧ (decide (c = d) || hasI z c) = true := by
  unfold doorL
  rw [List.mem_map]
  constructor
  · rintro ⟨c, hc, rfl⟩
    exact ⟨c, rfl, List.mem_range.1 (List.mem_filter.1 hc).1, (List.mem_filter.1 hc).2⟩
  · rintro ⟨c, rfl, h1, h2⟩
    exact ⟨c, List.mem_filter.2 ⟨List.mem_range.2 h1, h2⟩, rfl⟩
theorem has_mem {l : List Int} {n : Int} : hasI l n = true ↔ n ∈ l := by
  unfold hasI
  rw [List.any_eq_true]
  constructor
  · rintro ⟨i, hi, he⟩
    rw [List.mem_range] at hi
    rw [List.getD_eq_getElem?_getD, List.getElem?_eq_getElem hi, Option.getD_some, beq_iff_eq] at he
    rw [← he]; exact List.getElem_mem hi
  · intro h
    obtain ⟨i, hi, he⟩ := List.mem_iff_getElem.1 h
    exact ⟨i, List.mem_range.2 hi, by rw [List.getD_eq_getElem?_getD, List.getElem?_eq_getElem hi, Option.getD_some, beq_iff_eq]; exact he⟩
theorem ris_pair {l : List Int} {hi : Int} (hp : l.Pairwise (· < ·)) (hm : ∀ n ∈ l, 0 ≤ n ∧ n ≤ hi) : risL l hi = true := by
  unfold risL
  rw [List.all_eq_true]
  intro i hi
  rw [List.mem_range] at hi
  rw [ris_iff]
  have e1 : l.getD i 0 = l[i] := by rw [List.getD_eq_getElem?_getD, List.getElem?_eq_getElem hi, Option.getD_some]
  refine ⟨by rw [e1]; exact hm _ (List.getElem_mem hi), fun h0 => ?_⟩
  have hi' : i - 1 < l.length := by omega
  have e2 : l.getD (i - 1) 0 = l[i - 1] := by rw [List.getD_eq_getElem?_getD, List.getElem?_eq_getElem hi', Option.getD_some]
  rw [e1, e2]
  exact List.pairwise_iff_getElem.1 hp (i - 1) i hi' hi (by omega)
section
variable {t : Trap}
def Trap.opn (t : Trap) (s d : Nat) : Trap := ⟨t.ch, t.tm, t.op.set s ⟨doorL (t.op.getD s default).list d t.C, false⟩, t.ws⟩
theorem opn_len {s d : Nat} : (t.opn s d).op.length = t.op.length := by simp [Trap.opn]
theorem opn_at {s d : Nat} (hs : s < t.op.length) : (t.opn s d).op.getD s default = ⟨doorL (t.op.getD s default).list d t.C, false⟩ := by
  show (t.op.set s _).getD s default = _
  rw [List.getD_eq_getElem?_getD, List.getElem?_set_self hs]; rfl
theorem opn_ne {s d i : Nat} (h : i ≠ s) : (t.opn s d).op.getD i default = t.op.getD i default := by
  show (t.op.set s _).getD i default = _
  rw [List.getD_eq_getElem?_getD, List.getElem?_set_ne (fun e => h e.symm), ← List.getD_eq_getElem?_getD]
theorem opn_trb (V : TrB t) {s d : Nat} : TrB (t.opn s d) := by
  have eC := trC V
  refine ⟨V.c0, V.c1, V.t0, V.t1, by rw [opn_len]; exact V.o, V.w, fun x hx => ?_, V.fw⟩
  rcases List.mem_or_eq_of_mem_set hx with hx | rfl
  · exact V.ro x hx
  · show risL (doorL _ d t.C) (t.ch - 1) = true
    refine ris_pair ?_ fun n hn => ?_
    · unfold doorL
      rw [List.pairwise_map]
      refine List.Pairwise.imp (fun {a b} h => ?_) (List.Pairwise.filter _ List.pairwise_lt_range)
      omega
    · obtain ⟨c, rfl, h1, _⟩ := doorL_mem.1 hn
      omega
theorem opn_may {s d i j : Nat} (hj : j < t.C) : mayP t.op i j ≤ mayP (t.opn s d).op i j := by
  by_cases hs : i = s ∧ s < t.op.length
  · obtain ⟨rfl, hs⟩ := hs
    unfold mayP
    rw [opn_at hs]
    have e : (Ls.mk (doorL (t.op.getD i default).list d t.C) false).list = doorL (t.op.getD i default).list d t.C := rfl
    rw [e]
    split
    · rename_i h
      rw [if_pos (has_mem.2 (doorL_mem.2 ⟨j, rfl, hj, by rw [h, Bool.or_true]⟩))]
      exact Int.le_refl _
    · split <;> omega
  · have e : (t.opn s d).op.getD i default = t.op.getD i default := by
      by_cases h : i = s
      · subst h
        have h2 : ¬ i < t.op.length := fun h => hs ⟨rfl, h⟩
        rw [List.getD_eq_getElem?_getD, List.getD_eq_getElem?_getD, List.getElem?_eq_none (by rw [opn_len]; omega), List.getElem?_eq_none (by omega)]
      · exact opn_ne h
    unfold mayP
    rw [e]
    exact Int.le_refl _
theorem opn_tr {s d : Nat} {x : Nat → Int} (h : Tr t x) : Tr (t.opn s d) x := by
  refine ⟨h.1, h.2.f, fun i j hi hj => ?_, h.2.w⟩
  rw [opn_len] at hi
  have h1 := h.2.m i j hi hj
  have h2 := opn_may (t := t) (s := s) (d := d) (i := i) hj
  show 0 ≤ flow t.C x i j ∧ flow t.C x i j ≤ _
  omega
/-- through a closed door nothing passes -/
theorem shut {s d : Nat} (hs : s < t.op.length) (hd : d < t.C) (hn : hasI (t.op.getD s default).list d = false) {lo hi : Int} (X : Xt t (fun x => flow t.C x s d) lo hi) : lo = 0 ∧ hi = 0 := by
  obtain ⟨x0, ⟨u1, u2, u3⟩, y1, y2, y3⟩ := xt_tr X
  have z : ∀ x, Tr t x → flow t.C x s d = 0 := fun x hx => by
    have := hx.2.m s d hs hd
    unfold mayP at this
    rw [if_neg (by rw [hn]; simp)] at this
    omega
  have a := z _ u2
  have b := z _ y2
  try simp only at u3 y3
  rw [a] at u3
  rw [b] at y3
  exact ⟨u3.symm, y3.symm⟩
end

/-- a number more, in a region of open order; what the append leaves behind may be read -/
theorem door_app {h : List AO} {l : AV} {row : List Int} {n : Int} {b : Nat} (hl : (row = [] ∧ l = .nils) ∨ (row ≠ [] ∧ ∃ p sh, b ≤ p ∧ l = .ms 1 p 0 row.length ∧ h[p]? = some (.cells (row.flatMap intL) sh))) (hb : b ≤ h.length) (hr : row.length ≤ 100) :
    ∃ l' h', appG true 0 h.length 1 8 (h ++ [AO.tomb]) l (.cs 1 1 [I n]) = some (l', h') ∧ h.length + 1 = h'.length ∧ (∀ k, k < b → h'[k]? = h[k]?) ∧ ∃ p sh, b ≤ p ∧ l' = .ms 1 p 0 (row.length + 1) ∧ h'[p]? = some (.cells ((row ++ [n]).flatMap intL) sh) := by
  have hx : Am.rowOf (h ++ [AO.tomb]) (.cs 1 1 [I n]) = some [I n] := rfl
  rcases hl with ⟨rfl, rfl⟩ | ⟨h0, p, sh, hp, rfl, ho⟩
  · refine ⟨_, _, appG_nil (n := 1) (by omega) rfl hx rfl rfl (by omega) (by omega), by simp, fun k hk => ?_, h.length, false, hb, rfl, ?_⟩
    · rw [List.getElem?_set_ne (by omega), at_ap (by omega)]
    · rw [List.getElem?_set_self (by simp)]; rfl
  · have pl := (List.getElem?_eq_some_iff.1 ho).1
    have go : (h ++ [AO.tomb])[p]? = some (.cells (row.flatMap intL) sh) := by rw [at_ap pl]; exact ho
    have ev : appG true 0 h.length 1 8 (h ++ [AO.tomb]) (.ms 1 p 0 row.length) (.cs 1 1 [I n]) = some (.ms 1 h.length 0 (row.length + 1), ((h ++ [AO.tomb]).set p (.ro (row.flatMap intL))).set h.length (.cells (row.flatMap intL ++ [I n]) ((true && row.length != 0) || sh))) := by
      have f1 : row.length * 1 = (row.flatMap intL).length := by rw [flat1]; omega
      have f2 : (row.length + 1) * 8 ≤ 1099511627776 := by omega
      have f3 : lenOf (.cs 1 1 [I n]) = some 1 := rfl
      have f4 : [I n].length = 1 * 1 := rfl
      have f5 : [I n].all AV.scalar = true := rfl
      simp only [appG, exOp, lenOf_ms, f3, hx, f4, f5, go, f1, if_true, if_false, and_self, true_and, true_or, newObj', Option.getD_some, List.take_length, Nat.mul_one, Nat.zero_le, Nat.succ_ne_zero, Nat.one_ne_zero, show (1 : Nat) ≤ 8 by omega, f2]
    refine ⟨_, _, ev, by simp, fun k hk => ?_, h.length, ((true && row.length != 0) || sh), hb, rfl, ?_⟩
    · rw [List.getElem?_set_ne (by omega), List.getElem?_set_ne (by omega), at_ap (by omega)]
    · rw [List.getElem?_set_self (by simp), List.flatMap_append]; rfl
theorem row_view {h : List AO} {p n : Nat} {l : List Int} {sh : Bool} (hp : h[p]? = some (.cells (l.flatMap intL) sh)) (st : Bool) : view st h (n + 1) (.ms 1 p 0 l.length) = some (slV 1 intL l) := by
  rw [view_ms, rowOf_ms]
  simp only [Am.rowAt, hp, Option.bind_some, AO.row?, List.drop_zero]
  rw [List.take_of_length_le (by rw [flat1]; omega), if_pos (by rw [flat1]; omega)]
  simp only [ints_view, Option.map_some, slV]
theorem ov_view {h : List AO} {n o : Nat} {vs : List AV} {L : List Ls} (hne : L ≠ []) (ho : h[o]? = some (.cells vs false)) (hl : vs.length = L.length) (st : Bool) (hr : ∀ i, i < L.length → view st h (n + 1) (vs.getD i .undef) = some (slV 1 intL (L.getD i default).list)) : view st h (n + 2) (.ms 1 o 0 L.length) = some (cpO L) := by
  unfold cpO
  rw [if_neg hne, view_ms, rowOf_ms]
  simp only [Am.rowAt, ho, Option.bind_some, AO.row?, List.drop_zero]
  rw [List.take_of_length_le (by omega), if_pos (by omega)]
  have hf : ((cpL L).flatMap Ls.e).length = L.length := by rw [flat_len Ls.el, cpL_len, Nat.mul_one]
  have hm : vs.mapM (Am.view st h (n + 1)) = some ((cpL L).flatMap Ls.e) := by
    refine mapM_get (by omega) fun i hi => ?_
    have hi' : i < L.length := by omega
    rw [hr i hi']
    congr 1
    have hc : i < (cpL L).length := by rw [cpL_len]; exact hi'
    have := flat_at Ls.el (cpL L) i hc
    have e2 : (cpL L)[i] = ⟨(L.getD i default).list, false⟩ := by
      have := cpL_at hi'
      rwa [List.getD_eq_getElem?_getD, List.getElem?_eq_getElem hc, Option.getD_some] at this
    rw [e2] at this
    have e3 : ((cpL L).flatMap Ls.e).getD i .undef = slV 1 intL (L.getD i default).list := by
      rw [Nat.mul_one] at this
      have h4 : (((cpL L).flatMap Ls.e).drop i).head? = some (slV 1 intL (L.getD i default).list) := by
        have := congrArg List.head? this
        rw [List.head?_take] at this
        simpa [Ls.e, Ls.v] using this
      rw [List.head?_drop] at h4
      rw [List.getD_eq_getElem?_getD, h4]; rfl
    exact e3.symm
  simp only [hm, Option.map_some, slV, cpL_len]
end Go.Proofs.Ytjaaefdhdggnkaa.S

/-
The law of one more door.
-/
namespace Go.Proofs.Ytjaaefdhdggnkaa.S
open Go Go.Am Go.Proofs.Ytjaaefdhdggnkaa.T
set_option maxRecDepth 100000
set_option linter.unusedSimpArgs false
set_option linter.unusedVariables false

set_option maxHeartbeats 4000000 in
theorem s6 {t : Trap} {o w : AV} (H0 : TrIn t o w) (a b : Int) : Iso E 6 [trV t o w, I a, I b] false = some (Bo true) := by
  have ho := H0.o
  have hw := H0.w
  have c16 := fun st => s16 H0 st
  have d19 := s19
  simp only [trV] at c16
  cases hr : rdy t
  case false =>
    rw [hr] at c16
    refine Iso_of (es _ _ _ _) e6 ?_
    simp only [f6, trV]
    simp (disch := first | assumption | omega | (simp only [az]; done)) only [ru, eq_self, if_true, if_false, BEq.rfl, binI, AO.row?, splice, fillL, mmAll, loadV, storeV, zeros, Am.rowAt, Am.part, addOff, Nat.reduceAdd, Nat.reduceMul, Nat.reduceLeDiff, Nat.reduceSub, Nat.reduceLT, Int.reduceEq, Int.reduceLT, Int.reduceLE, Int.reduceGT, Int.reduceGE, Int.reduceAdd, Int.reduceSub, Int.reduceMul, Int.reduceNeg, Int.reduceToNat, reduceCtorEq, reduceIte, lenV_sl ho, elem_sl Ls.el ho, view_sl ho, scalar_sl ho, cells_sl ho, pure_sl ho, lenV_sl hw, elem_sl Wd.el hw, view_sl hw, scalar_sl hw, cells_sl hw, pure_sl hw, c16, d19, gUn]
  rw [hr] at c16
  obtain ⟨hg, hv⟩ := rdy_h hr
  have H := H0.ok hg
  have V := valid_trb hv
  have h8 := valid_w8 hv
  have v1 := V.c0; have v2 := V.c1; have v3 := V.t0; have v4 := V.t1; have vo := V.o
  have eC := trC V; have eT := trT V
  have c38 := fun st => s38 H a st
  have c39 := fun st => s39 H b st
  simp only [wrT2 hv, wrC hv, trV] at c38 c39
  cases hp : inR a 0 (t.tm - 2)
  · rw [hp] at c38
    refine Iso_of (es _ _ _ _) e6 ?_
    simp only [f6, trV]
    simp (disch := first | assumption | omega | (simp only [az]; done)) only [ru, eq_self, if_true, if_false, BEq.rfl, binI, AO.row?, splice, fillL, mmAll, loadV, storeV, zeros, Am.rowAt, Am.part, addOff, Nat.reduceAdd, Nat.reduceMul, Nat.reduceLeDiff, Nat.reduceSub, Nat.reduceLT, Int.reduceEq, Int.reduceLT, Int.reduceLE, Int.reduceGT, Int.reduceGE, Int.reduceAdd, Int.reduceSub, Int.reduceMul, Int.reduceNeg, Int.reduceToNat, reduceCtorEq, reduceIte, lenV_sl ho, elem_sl Ls.el ho, view_sl ho, scalar_sl ho, cells_sl ho, pure_sl ho, lenV_sl hw, elem_sl Wd.el hw, view_sl hw, scalar_sl hw, cells_sl hw, pure_sl hw, c16, c38, d19, gUn]
  rw [hp] at c38
  cases hp2 : inR b 0 (t.ch - 1)
  · rw [hp2] at c39
    refine Iso_of (es _ _ _ _) e6 ?_
    simp only [f6, trV]
    simp (disch := first | assumption | omega | (simp only [az]; done)) only [ru, eq_self, if_true, if_false, BEq.rfl, binI, AO.row?, splice, fillL, mmAll, loadV, storeV, zeros, Am.rowAt, Am.part, addOff, Nat.reduceAdd, Nat.reduceMul, Nat.reduceLeDiff, Nat.reduceSub, Nat.reduceLT, Int.reduceEq, Int.reduceLT, Int.reduceLE, Int.reduceGT, Int.reduceGE, Int.reduceAdd, Int.reduceSub, Int.reduceMul, Int.reduceNeg, Int.reduceToNat, reduceCtorEq, reduceIte, lenV_sl ho, elem_sl Ls.el ho, view_sl ho, scalar_sl ho, cells_sl ho, pure_sl ho, lenV_sl hw, elem_sl Wd.el hw, view_sl hw, scalar_sl hw, cells_sl hw, pure_sl hw, c16, c38, c39, d19, gUn]
  rw [hp2] at c39
  rw [inR_iff] at hp hp2
  obtain ⟨s, rfl⟩ : ∃ s : Nat, a = s := ⟨a.toNat, by omega⟩
  obtain ⟨d, rfl⟩ : ∃ d : Nat, b = d := ⟨b.toNat, by omega⟩
  have hs1 : s < t.op.length := by omega
  have hd1 : d < t.C := by omega
  have s0 : (0 : Int) ≤ s := by omega
  have s1 : (s : Int) < (t.op.length : Nat) := by omega
  have un := Ls.under H.sl hs1
  obtain ⟨z, hz⟩ : ∃ z, z = t.op.getD s default := ⟨_, rfl⟩
  rw [← hz] at un
  have c40 := fun (n : Int) st => s40 z.is (by omega) n st
  cases hh' : hasI z.list d
  case true =>
    refine Iso_of (es _ _ _ _) e6 ?_
    simp only [f6, trV]
    simp (disch := first | assumption | omega | (simp only [az]; done)) only [ru, eq_self, if_true, if_false, BEq.rfl, binI, AO.row?, splice, fillL, mmAll, loadV, storeV, zeros, Am.rowAt, Am.part, addOff, Nat.reduceAdd, Nat.reduceMul, Nat.reduceLeDiff, Nat.reduceSub, Nat.reduceLT, Int.reduceEq, Int.reduceLT, Int.reduceLE, Int.reduceGT, Int.reduceGE, Int.reduceAdd, Int.reduceSub, Int.reduceMul, Int.reduceNeg, Int.reduceToNat, reduceCtorEq, reduceIte, lenV_sl ho, elem_sl Ls.el ho, view_sl ho, scalar_sl ho, cells_sl ho, pure_sl ho, lenV_sl hw, elem_sl Wd.el hw, view_sl hw, scalar_sl hw, cells_sl hw, pure_sl hw, c16, c38, c39, s0, s1, Int.toNat_natCast, ← hz, Ls.e, lenV_sl z.is, elem_sl intE z.is, view_sl z.is, scalar_sl z.is, cells_sl z.is, pure_sl z.is, c40, hh', d19, gUn]
  obtain ⟨b1, c36, hb1⟩ := one_val H hv
  simp only [trV] at c36
  cases b1
  · refine Iso_of (es _ _ _ _) e6 ?_
    simp only [f6, trV]
    simp (disch := first | assumption | omega | (simp only [az]; done)) only [ru, eq_self, if_true, if_false, BEq.rfl, binI, AO.row?, splice, fillL, mmAll, loadV, storeV, zeros, Am.rowAt, Am.part, addOff, Nat.reduceAdd, Nat.reduceMul, Nat.reduceLeDiff, Nat.reduceSub, Nat.reduceLT, Int.reduceEq, Int.reduceLT, Int.reduceLE, Int.reduceGT, Int.reduceGE, Int.reduceAdd, Int.reduceSub, Int.reduceMul, Int.reduceNeg, Int.reduceToNat, reduceCtorEq, reduceIte, lenV_sl ho, elem_sl Ls.el ho, view_sl ho, scalar_sl ho, cells_sl ho, pure_sl ho, lenV_sl hw, elem_sl Wd.el hw, view_sl hw, scalar_sl hw, cells_sl hw, pure_sl hw, c16, c38, c39, s0, s1, Int.toNat_natCast, ← hz, Ls.e, lenV_sl z.is, elem_sl intE z.is, view_sl z.is, scalar_sl z.is, cells_sl z.is, pure_sl z.is, c40, hh', c36, d19, gUn]
  have sv := hb1.1 rfl
  obtain ⟨ow, ov0, wv0, K, q, hc⟩ := call41 H [.cells [I t.ch, I t.tm, o, w] false]
  simp only [List.length_cons, List.length_nil, Nat.zero_add] at q
  obtain ⟨G0, hG0⟩ : ∃ G0 : List AO, G0 = [.cells [I t.ch, I t.tm, o, w] false] ++ K.map (AO.shift 1) := ⟨_, rfl⟩
  rw [← hG0] at q
  have gl : G0.length = K.length + 1 := by rw [hG0]; simp
  have gK : ∀ k, G0[k + 1]? = (K[k]?).map (AO.shift 1) := fun k => by rw [hG0]; exact up_at (h := [.cells [I t.ch, I t.tm, o, w] false])
  have g0 : G0[0]? = some (.cells [I t.ch, I t.tm, o, w] false) := by rw [hG0]; rfl
  have hw0 := hc.w.1
  have hw1 := hc.w.2
  have ow1 := (List.getElem?_eq_some_iff.1 hw1).1
  have gow : G0[ow + 1]? = some (.cells (t.ws.flatMap Wd.e) false) := by
    rw [gK, hw1]; simp only [Option.map_some, AO.shift, wds_shift]
  have hO : OvH G0 (ow + 1) (ov0.shift 1) t.op := hc.o.up (fun k _ _ => gK k) (.inr rfl)
  have wv1 : wv0.shift 1 = .ms 4 (ow + 1) 0 t.ws.length := by rw [hw0]; rfl
  have hne : t.op ≠ [] := fun e => by rw [e] at hs1; simp at hs1
  rw [wv1] at q
  rcases hO with ⟨e, _⟩ | ⟨_, oo, vs, oo1, eov, hoo, hvl, hrow⟩
  · exact absurd e hne
  rw [eov] at q
  have oo2 := (List.getElem?_eq_some_iff.1 hoo).1
  have gp : ∀ J, (G0 ++ J)[oo]? = some (.cells vs false) := fun J => by rw [at_ap oo2]; exact hoo
  have gz : ∀ J, (G0 ++ J)[0]? = some (.cells [I t.ch, I t.tm, o, w] false) := fun J => by rw [at_ap (by omega)]; exact g0
  have vs1 : s + 1 ≤ vs.length := by omega
  refine Iso_of (es _ _ _ _) e6 ?_
  simp only [f6, trV] at q ⊢
  simp (disch := first | assumption | omega | (simp only [az]; done)) only [ru, eq_self, if_true, if_false, BEq.rfl, binI, AO.row?, splice, fillL, mmAll, loadV, storeV, zeros, Am.rowAt, Am.part, addOff, Nat.reduceAdd, Nat.reduceMul, Nat.reduceLeDiff, Nat.reduceSub, Nat.reduceLT, Int.reduceEq, Int.reduceLT, Int.reduceLE, Int.reduceGT, Int.reduceGE, Int.reduceAdd, Int.reduceSub, Int.reduceMul, Int.reduceNeg, Int.reduceToNat, reduceCtorEq, reduceIte, lenV_sl ho, elem_sl Ls.el ho, view_sl ho, scalar_sl ho, cells_sl ho, pure_sl ho, lenV_sl hw, elem_sl Wd.el hw, view_sl hw, scalar_sl hw, cells_sl hw, pure_sl hw, c16, c38, c39, s0, s1, Int.toNat_natCast, ← hz, Ls.e, lenV_sl z.is, elem_sl intE z.is, view_sl z.is, scalar_sl z.is, cells_sl z.is, pure_sl z.is, c40, hh', c36, d19, gUn]
  rw [q rfl]
  simp (disch := first | assumption | omega | (simp only [az]; done)) only [ru, eq_self, if_true, if_false, BEq.rfl, binI, AO.row?, splice, fillL, mmAll, loadV, storeV, zeros, Am.rowAt, Am.part, addOff, Nat.reduceAdd, Nat.reduceMul, Nat.reduceLeDiff, Nat.reduceSub, Nat.reduceLT, Int.reduceEq, Int.reduceLT, Int.reduceLE, Int.reduceGT, Int.reduceGE, Int.reduceAdd, Int.reduceSub, Int.reduceMul, Int.reduceNeg, Int.reduceToNat, reduceCtorEq, reduceIte, gz, gp, s0, s1, vs1, Int.toNat_natCast, Nat.mul_one, Nat.zero_add, List.append_assoc, lenE, setT, setT0, atT, atT0, getT, getT0, Nat.add_assoc]
  obtain ⟨VS, hVS⟩ : ∃ VS : AV → List AV, VS = fun x => List.take s vs ++ x :: List.drop (s + 1) vs := ⟨_, rfl⟩
  have hV : ∀ x, VS x = List.take s vs ++ x :: List.drop (s + 1) vs := fun x => by rw [hVS]
  have tl : (List.take s vs).length = s := by rw [List.length_take]; omega
  have VL : ∀ x, (VS x).length = t.op.length := fun x => by rw [hV]; simp; omega
  have V2 : ∀ x, s + 1 ≤ (VS x).length := fun x => by rw [VL]; omega
  have VH : ∀ x, (List.drop s (VS x)).head? = some x := fun x => by
    rw [hV, List.drop_append_of_le_length (by omega), List.drop_eq_nil_of_le (by omega)]; rfl
  have VP : ∀ x y, List.take s (VS x) ++ y :: List.drop (s + 1) (VS x) = VS y := fun x y => by
    rw [hV, hV]
    congr 1
    · rw [List.take_append_of_le_length (by omega), List.take_of_length_le (by omega)]
    · congr 1
      rw [List.drop_append, tl, List.drop_eq_nil_of_le (by omega), List.nil_append, show s + 1 - s = 1 by omega]
      rfl
  have VG : ∀ x, (VS x).getD s .undef = x := fun x => by
    have := VH x
    rw [List.head?_drop] at this
    rw [List.getD_eq_getElem?_getD, this]; rfl
  have VN : ∀ x i, i ≠ s → (VS x).getD i .undef = vs.getD i .undef := fun x i hi => by
    have e : VS x = vs.set s x := by
      rw [hV, List.set_eq_take_append_cons_drop, if_pos (by omega)]
    rw [e, List.getD_eq_getElem?_getD, List.getElem?_set_ne (fun h => hi h.symm), ← List.getD_eq_getElem?_getD]
  rw [← hV]
  obtain ⟨H0, hH0⟩ : ∃ H0 : List AO, H0 = (G0 ++ [AO.cells [I t.ch, I t.tm, .ms 1 oo 0 t.op.length, .ms 4 (ow + 1) 0 t.ws.length] false]) := ⟨_, rfl⟩
  rw [← hH0]
  have lH0 : H0.length = G0.length + 1 := by rw [hH0]; simp
  have h00 : H0[0]? = some (.cells [I t.ch, I t.tm, o, w] false) := by rw [hH0]; exact gz _
  have h0P : H0[G0.length]? = some (AO.cells [I t.ch, I t.tm, .ms 1 oo 0 t.op.length, .ms 4 (ow + 1) 0 t.ws.length] false) := by rw [hH0, atT0]; rfl
  have oo0 : oo ≠ 0 := fun e => by
    subst e
    rw [g0] at hoo
    simp only [Option.some.injEq, AO.cells.injEq, and_true] at hoo
    have h1 := hrow s hs1
    rw [← hoo] at h1
    obtain ⟨p, _, _, e2, _⟩ := h1
    have hlen := hvl
    rw [← hoo] at hlen
    simp only [List.length_cons, List.length_nil, Nat.zero_add, Nat.reduceAdd] at hlen
    have h2 := hrow 0 (by omega)
    rw [← hoo] at h2
    obtain ⟨p, _, _, e3, _⟩ := h2
    cases e3
  refine G_loop_ind (fun y ts hh mk => ∃ (c : Nat) (l : AV), c ≤ t.C ∧ y = t.C - c ∧ ts.length = 134 ∧ ts.getD 1 .undef = I s ∧ ts.getD 2 .undef = I d ∧ ts.getD 3 .undef = .ptr 0 0 ∧ ts.getD 7 .undef = .ptr G0.length 0 ∧ ts.getD 8 .undef = I c ∧
    H0.length ≤ hh.length ∧ (∀ k, k < H0.length → k ≠ oo → hh[k]? = H0[k]?) ∧ hh[oo]? = some (.cells (VS l) false) ∧
    ((doorL z.list d c = [] ∧ l = .nils) ∨ (doorL z.list d c ≠ [] ∧ ∃ p sh, H0.length ≤ p ∧ l = .ms 1 p 0 (doorL z.list d c).length ∧ hh[p]? = some (.cells ((doorL z.list d c).flatMap intL) sh))) ∧ mk = []) ?_ _ _ _ _
    ⟨0, .nils, Nat.zero_le _, rfl, rfl, rfl, rfl, rfl, rfl, rfl, by simp, fun k hk hn => by rw [List.getElem?_set_ne (by omega)], by rw [List.getElem?_set_self (by omega)], .inl ⟨rfl, rfl⟩, rfl⟩
  rintro y ts hh mk ih ⟨c, l, hc1, rfl, hl, q1, q2, q3, q7, q8, hg1, fr, hvo, HR, rfl⟩
  rw [lit_all hl]
  simp only [lit0, litS, Nat.reduceAdd, q1, q2, q3, q7, q8]
  have k0 : hh[0]? = some (.cells [I t.ch, I t.tm, o, w] false) := (fr 0 (by omega) (by omega)).trans h00
  have kP : hh[G0.length]? = some (AO.cells [I t.ch, I t.tm, .ms 1 oo 0 t.op.length, .ms 4 (ow + 1) 0 t.ws.length] false) := (fr _ (by omega) (by omega)).trans h0P
  have k0J : ∀ J, (hh ++ J)[0]? = some (.cells [I t.ch, I t.tm, o, w] false) := fun J => by rw [at_ap (by omega)]; exact k0
  have kPJ : ∀ J, (hh ++ J)[G0.length]? = some (AO.cells [I t.ch, I t.tm, .ms 1 oo 0 t.op.length, .ms 4 (ow + 1) 0 t.ws.length] false) := fun J => by rw [at_ap (by omega)]; exact kP
  have koJ : ∀ J, (hh ++ J)[oo]? = some (.cells (VS l) false) := fun J => by rw [at_ap (by omega)]; exact hvo
  simp (disch := first | assumption | omega | (simp only [az]; done)) only [ru, eq_self, if_true, if_false, BEq.rfl, binI, AO.row?, splice, fillL, mmAll, loadV, storeV, zeros, Am.rowAt, Am.part, addOff, Nat.reduceAdd, Nat.reduceMul, Nat.reduceLeDiff, Nat.reduceSub, Nat.reduceLT, Int.reduceEq, Int.reduceLT, Int.reduceLE, Int.reduceGT, Int.reduceGE, Int.reduceAdd, Int.reduceSub, Int.reduceMul, Int.reduceNeg, Int.reduceToNat, reduceCtorEq, reduceIte, k0]
  by_cases hlt : (c : Int) < t.ch
  case pos =>
    have hc2 : c < t.C := by omega
    have ld : (doorL z.list d c).length ≤ c := doorL_len
    have skip : (decide (c = d) || hasI z.list c) = false → doorL z.list d (c + 1) = doorL z.list d c := fun h => by
      rw [doorL_succ, if_neg (by rw [h]; simp), List.append_nil]
    refine (door_app (n := (c : Int)) HR (by omega) (by omega)).elim fun l' h => h.elim fun h' h => ?_
    have a1 := h.1
    have a2 := h.2.1
    have a3 := h.2.2.1
    have a4 := h.2.2.2
    clear h
    have ao : h'[oo]? = some (.cells (VS l) false) := by rw [a3 oo (by omega)]; exact hvo
    have lsc : l'.scalar = true ∧ l'.cells = [l'] := by
      obtain ⟨p, sh, _, e, _⟩ := a4
      rw [e]; exact ⟨rfl, rfl⟩
    have next : (decide (c = d) || hasI z.list c) = true → ∃ (c' : Nat) (l'' : AV), c' ≤ t.C ∧ t.C - (c + 1) = t.C - c' ∧ c' = c + 1 ∧ l'' = l' ∧
        H0.length ≤ (h'.set oo (.cells (VS l') false)).length ∧ (∀ k, k < H0.length → k ≠ oo → (h'.set oo (.cells (VS l') false))[k]? = H0[k]?) ∧ (h'.set oo (.cells (VS l') false))[oo]? = some (.cells (VS l'') false) ∧
        ((doorL z.list d c' = [] ∧ l'' = .nils) ∨ (doorL z.list d c' ≠ [] ∧ ∃ p sh, H0.length ≤ p ∧ l'' = .ms 1 p 0 (doorL z.list d c').length ∧ (h'.set oo (.cells (VS l') false))[p]? = some (.cells ((doorL z.list d c').flatMap intL) sh))) := by
      intro hq
      have e : doorL z.list d (c + 1) = doorL z.list d c ++ [(c : Int)] := by rw [doorL_succ, if_pos hq]
      refine ⟨c + 1, l', by omega, rfl, rfl, rfl, by simp; omega, fun k hk hn => ?_, by rw [List.getElem?_set_self (by omega)], .inr ⟨by rw [e]; simp, ?_⟩⟩
      · rw [List.getElem?_set_ne (by omega), a3 k hk]; exact fr k hk hn
      · obtain ⟨p, sh, b1, b2, b3⟩ := a4
        exact ⟨p, sh, b1, by rw [b2, e]; simp, by rw [List.getElem?_set_ne (by omega), e]; exact b3⟩
    by_cases hcd : c = d
    · have e1 : ((c : Int) == (d : Int)) = true := by rw [hcd]; simp
      simp (disch := first | assumption | omega | (simp only [az]; done)) only [ru, eq_self, if_true, if_false, BEq.rfl, binI, AO.row?, splice, fillL, mmAll, loadV, storeV, zeros, Am.rowAt, Am.part, addOff, Nat.reduceAdd, Nat.reduceMul, Nat.reduceLeDiff, Nat.reduceSub, Nat.reduceLT, Int.reduceEq, Int.reduceLT, Int.reduceLE, Int.reduceGT, Int.reduceGE, Int.reduceAdd, Int.reduceSub, Int.reduceMul, Int.reduceNeg, Int.reduceToNat, reduceCtorEq, reduceIte, hlt, e1, gUn, kPJ, koJ, s0, s1, VH, V2, VP, Int.toNat_natCast, Nat.mul_one, Nat.zero_add, List.append_assoc, lenE, setT, setT0, atT, atT0, getT, getT0, Nat.add_assoc, GO_mapp, hide, unhN, unhC, List.foldl_cons, List.foldl_nil, a1, ao, lsc.1, lsc.2]
      obtain ⟨c', l'', n1, n2, rfl, rfl, n3, n4, n5, n6⟩ := next (by rw [hcd]; simp)
      exact ih _ _ _ _ (by omega) ⟨c + 1, _, n1, rfl, rfl, rfl, rfl, rfl, rfl, rfl, n3, n4, n5, n6, rfl⟩
    · have e1 : ((c : Int) == (d : Int)) = false := by simp; omega
      cases hq : hasI z.list c
      · simp (disch := first | assumption | omega | (simp only [az]; done)) only [ru, eq_self, if_true, if_false, BEq.rfl, binI, AO.row?, splice, fillL, mmAll, loadV, storeV, zeros, Am.rowAt, Am.part, addOff, Nat.reduceAdd, Nat.reduceMul, Nat.reduceLeDiff, Nat.reduceSub, Nat.reduceLT, Int.reduceEq, Int.reduceLT, Int.reduceLE, Int.reduceGT, Int.reduceGE, Int.reduceAdd, Int.reduceSub, Int.reduceMul, Int.reduceNeg, Int.reduceToNat, reduceCtorEq, reduceIte, hlt, e1, gUn, k0, lenV_sl ho, elem_sl Ls.el ho, view_sl ho, scalar_sl ho, cells_sl ho, pure_sl ho, s0, s1, Int.toNat_natCast, ← hz, Ls.e, lenV_sl z.is, elem_sl intE z.is, view_sl z.is, scalar_sl z.is, cells_sl z.is, pure_sl z.is, c40, hq]
        rw [← skip (by rw [hq, decide_eq_false hcd]; rfl)] at HR
        exact ih (t.C - (c + 1)) _ _ _ (by omega) ⟨c + 1, l, by omega, rfl, rfl, rfl, rfl, rfl, rfl, rfl, hg1, fr, hvo, HR, rfl⟩
      · simp (disch := first | assumption | omega | (simp only [az]; done)) only [ru, eq_self, if_true, if_false, BEq.rfl, binI, AO.row?, splice, fillL, mmAll, loadV, storeV, zeros, Am.rowAt, Am.part, addOff, Nat.reduceAdd, Nat.reduceMul, Nat.reduceLeDiff, Nat.reduceSub, Nat.reduceLT, Int.reduceEq, Int.reduceLT, Int.reduceLE, Int.reduceGT, Int.reduceGE, Int.reduceAdd, Int.reduceSub, Int.reduceMul, Int.reduceNeg, Int.reduceToNat, reduceCtorEq, reduceIte, hlt, e1, gUn, k0, lenV_sl ho, elem_sl Ls.el ho, view_sl ho, scalar_sl ho, cells_sl ho, pure_sl ho, s0, s1, Int.toNat_natCast, ← hz, Ls.e, lenV_sl z.is, elem_sl intE z.is, view_sl z.is, scalar_sl z.is, cells_sl z.is, pure_sl z.is, c40, hq]
        simp (disch := first | assumption | omega | (simp only [az]; done)) only [ru, eq_self, if_true, if_false, BEq.rfl, binI, AO.row?, splice, fillL, mmAll, loadV, storeV, zeros, Am.rowAt, Am.part, addOff, Nat.reduceAdd, Nat.reduceMul, Nat.reduceLeDiff, Nat.reduceSub, Nat.reduceLT, Int.reduceEq, Int.reduceLT, Int.reduceLE, Int.reduceGT, Int.reduceGE, Int.reduceAdd, Int.reduceSub, Int.reduceMul, Int.reduceNeg, Int.reduceToNat, reduceCtorEq, reduceIte, kPJ, koJ, s0, s1, VH, V2, VP, Int.toNat_natCast, Nat.mul_one, Nat.zero_add, List.append_assoc, lenE, setT, setT0, atT, atT0, getT, getT0, Nat.add_assoc, GO_mapp, hide, unhN, unhC, List.foldl_cons, List.foldl_nil, a1, ao, lsc.1, lsc.2]
        obtain ⟨c', l'', n1, n2, rfl, rfl, n3, n4, n5, n6⟩ := next (by rw [hq, Bool.or_true])
        exact ih _ _ _ _ (by omega) ⟨c + 1, _, n1, rfl, rfl, rfl, rfl, rfl, rfl, rfl, n3, n4, n5, n6, rfl⟩
  have hc3 : c = t.C := by omega
  subst hc3
  clear ih hl q1 q2 q3 q7 q8
  -- the changed trap, as a value
  have dm : doorL z.list d t.C ≠ [] := fun e => by
    have : ((d : Nat) : Int) ∈ doorL z.list d t.C := doorL_mem.2 ⟨d, rfl, hd1, by simp⟩
    rw [e] at this; cases this
  obtain ⟨p, sh, p1, el, hp9⟩ : ∃ p sh, H0.length ≤ p ∧ l = .ms 1 p 0 (doorL z.list d t.C).length ∧ hh[p]? = some (.cells ((doorL z.list d t.C).flatMap intL) sh) := by
    rcases HR with ⟨e, _⟩ | ⟨_, h⟩
    · exact absurd e dm
    · exact h
  have p2 := (List.getElem?_eq_some_iff.1 hp9).1
  obtain ⟨tn, htn⟩ : ∃ tn, tn = t.opn s d := ⟨_, rfl⟩
  have nlen : tn.op.length = t.op.length := by rw [htn]; exact opn_len
  have nne : tn.op ≠ [] := fun e => by rw [e] at nlen; simp at nlen; omega
  have nat : tn.op.getD s default = ⟨doorL z.list d t.C, false⟩ := by rw [htn, opn_at hs1, hz]
  have vO : ∀ J, view false (hh ++ J) 7 (.ms 1 oo 0 t.op.length) = some (cpO tn.op) := fun J => by
    rw [← nlen]
    refine ov_view nne (vs := VS l) (koJ J) (by rw [VL, nlen]) false fun i hi => ?_
    by_cases e : i = s
    · subst e
      rw [VG, el, nat]
      exact row_view (by rw [at_ap p2]; exact hp9) false
    · rw [VN l i e, show tn.op.getD i default = t.op.getD i default by rw [htn]; exact opn_ne e]
      obtain ⟨p', r1, r2, r3, r4⟩ := hrow i (by omega)
      have r5 := (List.getElem?_eq_some_iff.1 r4).1
      rw [r3]
      refine row_view (sh := false) ?_ false
      rw [at_ap (by omega), fr p' (by omega) r1, hH0, at_ap r5]
      exact r4
  have vW : ∀ J, view false (hh ++ J) 7 (.ms 4 (ow + 1) 0 t.ws.length) = some (slV 4 Wd.e t.ws) := fun J => by
    refine WvH.view (ow := ow + 1) ⟨rfl, ?_⟩ false
    have r5 := (List.getElem?_eq_some_iff.1 gow).1
    rw [at_ap (by omega), fr _ (by omega) (by omega), hH0, at_ap r5]
    exact gow
  have HN : TrOk tn (slV 1 Ls.e tn.op) (slV 4 Wd.e tn.ws) := by
    refine ⟨slV_is, slV_is, by have := H.so; omega, by have := H.sw; rw [htn]; exact this, fun x hx => ?_⟩
    rw [htn] at hx
    rcases List.mem_or_eq_of_mem_set hx with hx | rfl
    · exact H.sl x hx
    · have : (doorL (t.op.getD s default).list d t.C).length ≤ t.C := doorL_len
      show (doorL (t.op.getD s default).list d t.C).length ≤ 40
      omega
  have HD : TrOk tn.cp (cpO tn.op) (slV 4 Wd.e tn.ws) := HN.cpv
  have nv : tn.valid = true := by rw [htn]; exact trb_valid (opn_trb V) h8
  have nvc : tn.cp.valid = true := cp_valid.trans nv
  have ntr : ∀ x, Tr t x → Tr tn x := fun x hx => by rw [htn]; exact opn_tr hx
  -- what is asked of the trap
  obtain ⟨lo, hi, e, c27, A⟩ := s27 H s d
  obtain ⟨rfl, X⟩ := A.val hv (by simp only [stepB, Bool.and_eq_true, decide_eq_true_eq]; omega) sv
  simp only [Int.toNat_natCast] at X
  obtain ⟨rfl, rfl⟩ := shut hs1 hd1 (by rw [← hz]; exact hh') X
  obtain ⟨kv, f, c33, A2⟩ := s33 H
  have hf : ∃ x, f = 0 ∧ kv = slV 1 Ls.e (numL t.C t.T x) ∧ Tr t x := by
    cases A2 with
    | bad h => rw [hv] at h; cases h
    | none _ h => exact absurd sv h
    | @ok x _ hx => exact ⟨x, rfl, rfl, hx⟩
  obtain ⟨x, rfl, rfl, tx⟩ := hf
  have is2 := @slV_is Ls 1 Ls.e (numL t.C t.T x)
  have nl : (numL t.C t.T x).length = t.T := numL_len
  have nu : ∀ u ∈ numL t.C t.T x, u.list.length ≤ 40 := by
    intro u hu
    unfold numL at hu
    obtain ⟨j, _, rfl⟩ := List.mem_map.1 hu
    rw [Ls.of_list, rowG_len]; omega
  obtain ⟨b18, c18, hb18⟩ := s18 H hv is2 (by omega) nu
  obtain rfl : b18 = true := hb18.2 (tr_num V tx)
  have c17 := fun st => s17 is2 st
  rw [num_huge (by omega) (by omega)] at c17
  have c22 := fun st => s22 is2 (by omega) nu st
  obtain ⟨b21, e21, c21, _, hb21⟩ := s21 HD (cpO_is (L := numL t.C t.T x)) (by rw [cpL_len]; omega) (cpL_under nu)
  obtain ⟨rfl, hb22⟩ := hb21 nvc
  obtain rfl : b21 = true := hb22.2 (tru_cp.2 (trN_cp.2 (by
    have := tr_num (t := tn) (valid_trb nv) (ntr x tx)
    rw [htn] at this ⊢
    exact this)))
  have c37 := fun st => s37 H HD hv nvc (by rw [htn]; rfl) (by rw [htn]; rfl) sv (fun x hx => tr_cp.2 (ntr x hx)) st
  have e1 : tn.cp.ch = t.ch := by rw [htn]; rfl
  have e2 : tn.cp.tm = t.tm := by rw [htn]; rfl
  have e3 : tn.ws = t.ws := by rw [htn]; rfl
  have isc := @cpO_is (numL t.C t.T x)
  simp only [trV, e1, e2, e3] at c27 c33 c18 c21 c37
  obtain ⟨kv, ek⟩ : ∃ kv, kv = slV 1 Ls.e (numL t.C t.T x) := ⟨_, rfl⟩
  obtain ⟨kc, ekc⟩ : ∃ kc, kc = cpO (numL t.C t.T x) := ⟨_, rfl⟩
  obtain ⟨o2, eo2⟩ : ∃ o2, o2 = cpO tn.op := ⟨_, rfl⟩
  obtain ⟨w2, ew2⟩ : ∃ w2, w2 = slV 4 Wd.e t.ws := ⟨_, rfl⟩
  obtain ⟨ov, eov⟩ : ∃ ov, ov = AV.ms 1 oo 0 t.op.length := ⟨_, rfl⟩
  obtain ⟨wv, ewv⟩ : ∃ wv, wv = AV.ms 4 (ow + 1) 0 t.ws.length := ⟨_, rfl⟩
  have pov : ov.pureV = false := by rw [eov]; rfl
  simp only [← ek, ← ekc, ← eo2, ← ew2, ← eov, ← ewv] at is2 isc c27 c33 c18 c17 c22 c21 c37 vO vW kPJ
  simp (disch := first | assumption | omega | (simp only [az]; done)) only [ru, eq_self, if_true, if_false, BEq.rfl, binI, AO.row?, splice, fillL, mmAll, loadV, storeV, zeros, Am.rowAt, Am.part, addOff, Nat.reduceAdd, Nat.reduceMul, Nat.reduceLeDiff, Nat.reduceSub, Nat.reduceLT, Int.reduceEq, Int.reduceLT, Int.reduceLE, Int.reduceGT, Int.reduceGE, Int.reduceAdd, Int.reduceSub, Int.reduceMul, Int.reduceNeg, Int.reduceToNat, reduceCtorEq, reduceIte, hlt, k0J, kPJ, lenV_sl ho, elem_sl Ls.el ho, view_sl ho, scalar_sl ho, cells_sl ho, pure_sl ho, lenV_sl hw, elem_sl Wd.el hw, view_sl hw, scalar_sl hw, cells_sl hw, pure_sl hw, c27, c33, gUn, lenV_sl is2, elem_sl Ls.el is2, view_sl is2, scalar_sl is2, cells_sl is2, pure_sl is2, c17, c18, pex_eqS, eqI2, decide_true, Bool.and_self, k0, c22, lenV_sl isc, elem_sl Ls.el isc, view_sl isc, scalar_sl isc, cells_sl isc, pure_sl isc, List.append_assoc, List.cons_append, List.nil_append, lenE, setT, setT0, atT, atT0, getT, getT0, Nat.add_assoc, vO, vW]
  simp (disch := first | assumption | omega | (simp only [az]; done)) only [ru, eq_self, if_true, if_false, BEq.rfl, binI, AO.row?, splice, fillL, mmAll, loadV, storeV, zeros, Am.rowAt, Am.part, addOff, Nat.reduceAdd, Nat.reduceMul, Nat.reduceLeDiff, Nat.reduceSub, Nat.reduceLT, Int.reduceEq, Int.reduceLT, Int.reduceLE, Int.reduceGT, Int.reduceGE, Int.reduceAdd, Int.reduceSub, Int.reduceMul, Int.reduceNeg, Int.reduceToNat, reduceCtorEq, reduceIte, k0J, kPJ, vO, vW, lenV_sl ho, elem_sl Ls.el ho, view_sl ho, scalar_sl ho, cells_sl ho, pure_sl ho, lenV_sl hw, elem_sl Wd.el hw, view_sl hw, scalar_sl hw, cells_sl hw, pure_sl hw, c21, c37, d19, gUn, List.append_assoc, List.cons_append, List.nil_append]
  done
end Go.Proofs.Ytjaaefdhdggnkaa.S

