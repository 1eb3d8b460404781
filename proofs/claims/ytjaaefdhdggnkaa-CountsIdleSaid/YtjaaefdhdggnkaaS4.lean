/-
The functions of both sides of stage 1, one after another (S4).
-/
import Derived.Test.YtjaaefdhdggnkaaS3

/-
The laws of stage 1 on Fish and Whole, and on Came and Passed.
-/
namespace Go.Proofs.Ytjaaefdhdggnkaa.S
open Go Go.Am Go.Proofs.Ytjaaefdhdggnkaa.T
set_option maxRecDepth 100000
set_option linter.unusedSimpArgs false
set_option linter.unusedVariables false

end Go.Proofs.Ytjaaefdhdggnkaa.S

/-
What the reference answers: Judge and Enough; the law on them.
-/
namespace Go.Proofs.Ytjaaefdhdggnkaa.S
open Go Go.Am Go.Proofs.Ytjaaefdhdggnkaa.T
set_option maxRecDepth 100000
set_option linter.unusedSimpArgs false
set_option linter.unusedVariables false

/-! what is asked of a copy -/
theorem cp_jud {t : Trap} {y : Wd} {k : Int} (J : JudP t.cp y k) : JudP t y k := by
  unfold JudP at *
  simp only [tr_cp, cp_C] at J
  exact J
theorem KnR.map {t : Trap} {fit fit' : Bool} {e : Int} (K : KnR t fit e) (h : t.valid = true → fit' = fit) : KnR t fit' e := by
  cases K with
  | bad hv => exact .bad hv
  | arg hv hf => exact .arg hv ((h hv).trans hf)
  | none hv hf hn => exact .none hv ((h hv).trans hf) hn
  | ok hv hf hs => exact .ok hv ((h hv).trans hf) hs
end Go.Proofs.Ytjaaefdhdggnkaa.S

/-
Whether a trap is ready; the law of time.
-/
namespace Go.Proofs.Ytjaaefdhdggnkaa.S
open Go Go.Am Go.Proofs.Ytjaaefdhdggnkaa.T
set_option maxRecDepth 100000
set_option linter.unusedSimpArgs false
set_option linter.unusedVariables false

def rdy (t : Trap) : Bool := !t.huge && t.valid
theorem s16 {t : Trap} {o w : AV} (H0 : TrIn t o w) (st : Bool) : Iso E 16 [trV t o w] st = some (Bo (rdy t)) := by
  have ho := H0.o
  have hw := H0.w
  have c53 := fun st => s53 H0 st
  unfold rdy
  cases hg : t.huge
  case true =>
    refine Iso_of (es _ _ _ _) e16 ?_
    simp only [f16, trV, hg] at c53 ⊢
    simp (disch := first | assumption | omega | (simp only [az]; done)) only [ru, eq_self, if_true, if_false, BEq.rfl, binI, AO.row?, splice, fillL, mmAll, loadV, storeV, zeros, Am.rowAt, Am.part, addOff, Nat.reduceAdd, Nat.reduceMul, Nat.reduceLeDiff, Nat.reduceSub, Nat.reduceLT, Int.reduceEq, Int.reduceLT, Int.reduceLE, Int.reduceGT, Int.reduceGE, Int.reduceAdd, Int.reduceSub, Int.reduceMul, Int.reduceNeg, Int.reduceToNat, reduceCtorEq, reduceIte, lenV_sl ho, elem_sl Ls.el ho, view_sl ho, scalar_sl ho, cells_sl ho, pure_sl ho, lenV_sl hw, elem_sl Wd.el hw, view_sl hw, scalar_sl hw, cells_sl hw, pure_sl hw, c53, gUn, Bool.not_true, Bool.false_and]
  have c55 := fun st => s55 (H0.ok hg) st
  refine Iso_of (es _ _ _ _) e16 ?_
  simp only [f16, trV, hg, chkE] at c53 c55 ⊢
  cases hv : t.valid
  · simp only [hv, Bool.false_eq_true, if_false] at c55
    simp (disch := first | assumption | omega | (simp only [az]; done)) only [ru, eq_self, if_true, if_false, BEq.rfl, binI, AO.row?, splice, fillL, mmAll, loadV, storeV, zeros, Am.rowAt, Am.part, addOff, Nat.reduceAdd, Nat.reduceMul, Nat.reduceLeDiff, Nat.reduceSub, Nat.reduceLT, Int.reduceEq, Int.reduceLT, Int.reduceLE, Int.reduceGT, Int.reduceGE, Int.reduceAdd, Int.reduceSub, Int.reduceMul, Int.reduceNeg, Int.reduceToNat, reduceCtorEq, reduceIte, lenV_sl ho, elem_sl Ls.el ho, view_sl ho, scalar_sl ho, cells_sl ho, pure_sl ho, lenV_sl hw, elem_sl Wd.el hw, view_sl hw, scalar_sl hw, cells_sl hw, pure_sl hw, c53, c55, Bool.not_false, Bool.true_and]
  · simp only [hv, if_true] at c55
    simp (disch := first | assumption | omega | (simp only [az]; done)) only [ru, eq_self, if_true, if_false, BEq.rfl, binI, AO.row?, splice, fillL, mmAll, loadV, storeV, zeros, Am.rowAt, Am.part, addOff, Nat.reduceAdd, Nat.reduceMul, Nat.reduceLeDiff, Nat.reduceSub, Nat.reduceLT, Int.reduceEq, Int.reduceLT, Int.reduceLE, Int.reduceGT, Int.reduceGE, Int.reduceAdd, Int.reduceSub, Int.reduceMul, Int.reduceNeg, Int.reduceToNat, reduceCtorEq, reduceIte, lenV_sl ho, elem_sl Ls.el ho, view_sl ho, scalar_sl ho, cells_sl ho, pure_sl ho, lenV_sl hw, elem_sl Wd.el hw, view_sl hw, scalar_sl hw, cells_sl hw, pure_sl hw, c53, c55, Bool.not_false, Bool.true_and]
theorem rdy_h {t : Trap} (h : rdy t = true) : t.huge = false ∧ t.valid = true := by
  unfold rdy at h
  simpa using h
set_option maxHeartbeats 2000000 in
theorem s42 (a b c d : Int) (st : Bool) : Iso E 42 [.agg [I a, I b], .agg [I c, I d]] st = some (Bo (decide (c ≤ a) && decide (a ≤ b) && decide (b ≤ d))) := by
  refine Iso_of (es _ _ _ _) e42 ?_
  simp only [f42]
  by_cases h1 : c ≤ a <;> by_cases h2 : a ≤ b <;> by_cases h3 : b ≤ d <;> simp (disch := first | assumption | omega | (simp only [az]; done)) only [ru, eq_self, if_true, if_false, BEq.rfl, binI, AO.row?, splice, fillL, mmAll, loadV, storeV, zeros, Am.rowAt, Am.part, addOff, Nat.reduceAdd, Nat.reduceMul, Nat.reduceLeDiff, Nat.reduceSub, Nat.reduceLT, Int.reduceEq, Int.reduceLT, Int.reduceLE, Int.reduceGT, Int.reduceGE, Int.reduceAdd, Int.reduceSub, Int.reduceMul, Int.reduceNeg, Int.reduceToNat, reduceCtorEq, reduceIte, h1, h2, h3, gUn, decide_true, decide_false, Bool.and_self, Bool.and_false, Bool.and_true, Bool.false_and]

section
variable {t : Trap} {fit : Bool} {f : (Nat → Int) → Int} {lo hi e : Int}
theorem Ans.val (A : Ans t fit f lo hi e) (hv : t.valid = true) (hf : fit = true) (hs : Solv t.C t.T t) : e = 0 ∧ Xt t f lo hi := by
  cases A with
  | bad h => rw [hv] at h; cases h
  | arg _ h => rw [hf] at h; cases h
  | none _ _ h => exact absurd hs h
  | ok _ _ _ h => exact ⟨rfl, h⟩
end

end Go.Proofs.Ytjaaefdhdggnkaa.S

/-
Fish of all chambers at all times.
-/
namespace Go.Proofs.Ytjaaefdhdggnkaa.S
open Go Go.Am Go.Proofs.Ytjaaefdhdggnkaa.T
set_option maxRecDepth 100000
set_option linter.unusedSimpArgs false
set_option linter.unusedVariables false

/-- spans, row by row -/
def spRow (C : Nat) (S : Nat → Nat → Spn) (i : Nat) : List Spn := (List.range C).map fun c => S i c
def encR (r : List Spn) : List AV := [slV 2 Spn.e r]
def spR (C T : Nat) (S : Nat → Nat → Spn) : List (List Spn) := (List.range T).map fun i => spRow C S i
def spV (C T : Nat) (S : Nat → Nat → Spn) : AV := slV 1 encR (spR C T S)
theorem spRow_len {C i : Nat} {S : Nat → Nat → Spn} : (spRow C S i).length = C := by simp [spRow]
theorem spR_len {C T : Nat} {S : Nat → Nat → Spn} : (spR C T S).length = T := by simp [spR]
theorem encR_len (r : List Spn) : (encR r).length = 1 := rfl
theorem spR_at {C T i : Nat} {S : Nat → Nat → Spn} (hi : i < T) : (spR C T S).getD i default = spRow C S i := by
  simp [spR, List.getD_eq_getElem?_getD, hi]
theorem spRow_at {C i c : Nat} {S : Nat → Nat → Spn} (hc : c < C) : (spRow C S i).getD c default = S i c := by
  simp [spRow, List.getD_eq_getElem?_getD, hc]
theorem spRow_succ {i c : Nat} {S : Nat → Nat → Spn} : (spRow (c + 1) S i).flatMap Spn.e = (spRow c S i).flatMap Spn.e ++ [I (S i c).lo, I (S i c).hi] := by
  unfold spRow
  rw [List.range_succ, List.map_append, List.flatMap_append]
  rfl
theorem sps_view {st : Bool} {h : List AO} {n : Nat} (l : List Spn) : (l.flatMap Spn.e).mapM (view st h n) = some (l.flatMap Spn.e) := by
  induction l with
  | nil => rfl
  | cons a l ih =>
    show (I a.lo :: I a.hi :: l.flatMap Spn.e).mapM (view st h n) = _
    simp only [List.mapM_cons, view_int, ih]; rfl
/-- as they lie in the heap -/
def SpsH (h : List AO) (v : AV) (C i : Nat) (S : Nat → Nat → Spn) : Prop :=
  (i = 0 ∧ v = .nils) ∨ (0 < i ∧ ∃ o vs, v = .ms 1 o 0 i ∧ h[o]? = some (.cells vs false) ∧ vs.length = i ∧ ∀ j, j < i → ∃ p, p ≠ o ∧ vs.getD j .undef = .ms 2 p 0 C ∧ h[p]? = some (.cells ((spRow C S j).flatMap Spn.e) false))
theorem SpsH.sc {h : List AO} {v : AV} {C i : Nat} {S : Nat → Nat → Spn} (H : SpsH h v C i S) : v.scalar = true ∧ v.cells = [v] := by
  rcases H with ⟨_, rfl⟩ | ⟨_, o, vs, rfl, _⟩ <;> exact ⟨rfl, rfl⟩
theorem SpsH.fr {h h' : List AO} {v : AV} {C i : Nat} {S : Nat → Nat → Spn} (H : SpsH h v C i S) (hf : ∀ k, k < h.length → h'[k]? = h[k]?) : SpsH h' v C i S := by
  rcases H with H | ⟨h0, o, vs, h1, ho, hl, hr⟩
  · exact .inl H
  · refine .inr ⟨h0, o, vs, h1, by rw [hf o (List.getElem?_eq_some_iff.1 ho).1]; exact ho, hl, fun j hj => ?_⟩
    obtain ⟨p, p1, e, hp⟩ := hr j hj
    exact ⟨p, p1, e, by rw [hf p (List.getElem?_eq_some_iff.1 hp).1]; exact hp⟩
theorem SpsH.view {h : List AO} {v : AV} {C T : Nat} {S : Nat → Nat → Spn} (H : SpsH h v C T S) (hT : 0 < T) (n : Nat) (st : Bool) : view st h (n + 2) v = some (spV C T S) := by
  rcases H with ⟨h0, _⟩ | ⟨h0, o, vs, rfl, ho, hl, hr⟩
  · omega
  rw [view_ms, rowOf_ms]
  simp only [Am.rowAt, ho, Option.bind_some, AO.row?, List.drop_zero]
  rw [List.take_of_length_le (by omega), if_pos (by omega)]
  have hf : ((spR C T S).flatMap encR).length = T := by rw [flat_len encR_len, spR_len, Nat.mul_one]
  have hm : vs.mapM (Am.view st h (n + 1)) = some ((spR C T S).flatMap encR) := by
    refine mapM_get (by omega) fun i hi => ?_
    have hi' : i < T := by omega
    obtain ⟨p, _, e, hp⟩ := hr i hi'
    rw [e, view_ms, rowOf_ms]
    simp only [Am.rowAt, hp, Option.bind_some, AO.row?, List.drop_zero]
    have fl : ((spRow C S i).flatMap Spn.e).length = C * 2 := by rw [flat_len Spn.el, spRow_len]
    rw [List.take_of_length_le (by omega), if_pos fl]
    simp only [sps_view, Option.map_some]
    have hc : i < (spR C T S).length := by rw [spR_len]; exact hi'
    have := flat_at encR_len (spR C T S) i hc
    have e2 : (spR C T S)[i] = spRow C S i := by
      have := spR_at (S := S) (C := C) hi'
      rwa [List.getD_eq_getElem?_getD, List.getElem?_eq_getElem hc, Option.getD_some] at this
    rw [e2, Nat.mul_one] at this
    have e3 : ((spR C T S).flatMap encR).getD i .undef = slV 2 Spn.e (spRow C S i) := by
      have h4 : (((spR C T S).flatMap encR).drop i).head? = some (slV 2 Spn.e (spRow C S i)) := by
        have := congrArg List.head? this
        rw [List.head?_take] at this
        simpa [encR] using this
      rw [List.head?_drop] at h4
      rw [List.getD_eq_getElem?_getD, h4]; rfl
    rw [e3]
    simp only [slV, spRow_len]
  simp only [hm, Option.map_some, spV, slV, spR_len]

/-- the answers of Fish, by place -/
theorem fish_all {t : Trap} {o w : AV} (H : TrOk t o w) (hv : t.valid = true) (hs : Solv t.C t.T t) : ∃ S : Nat → Nat → Spn, ∀ i c, i < t.T → c < t.C →
    (∀ st, Iso E 32 [trV t o w, I i, I c] st = some (.tup [.agg [I (S i c).lo, I (S i c).hi], I 0])) ∧ Xt t (fun x => gap t.C x i c) (S i c).lo (S i c).hi := by
  have eC := eqC hv; have eT := eqT hv
  have key : ∀ i c : Nat, ∃ s : Spn, i < t.T → c < t.C → (∀ st, Iso E 32 [trV t o w, I i, I c] st = some (.tup [.agg [I s.lo, I s.hi], I 0])) ∧ Xt t (fun x => gap t.C x i c) s.lo s.hi := by
    intro i c
    obtain ⟨lo, hi, e, h, A⟩ := s32 H i c
    by_cases hp : i < t.T ∧ c < t.C
    · have p1 : placeB t i c = true := by simp only [placeB, Bool.and_eq_true, decide_eq_true_eq]; omega
      obtain ⟨rfl, X⟩ := A.val hv p1 hs
      exact ⟨⟨lo, hi⟩, fun _ _ => ⟨h, X⟩⟩
    · exact ⟨⟨0, 0⟩, fun a b => absurd ⟨a, b⟩ hp⟩
  exact ⟨fun i c => (key i c).choose, fun i c hi hc => (key i c).choose_spec hi hc⟩

set_option maxHeartbeats 2000000 in
theorem s20 {t : Trap} {o w : AV} (H : TrOk t o w) (hv : t.valid = true) {S : Nat → Nat → Spn} (hS : ∀ i c, i < t.T → c < t.C →
    (∀ st, Iso E 32 [trV t o w, I i, I c] st = some (.tup [.agg [I (S i c).lo, I (S i c).hi], I 0])) ∧ Xt t (fun x => gap t.C x i c) (S i c).lo (S i c).hi) : ∀ st, Iso E 20 [trV t o w] st = some (.tup [spV t.C t.T S, Bo true]) := by
  have V := valid_trb hv
  have v1 := V.c0; have v2 := V.c1; have v3 := V.t0; have v4 := V.t1
  have eC := eqC hv; have eT := eqT hv
  intro st
  suffices hR : ∃ r h', R E (.fn 20) [trV t o w] [] 0 = some (r, h') ∧ ∃ v, r = .tup [v, Bo true] ∧ SpsH h' v t.C t.T S by
    obtain ⟨r, h', hr, v, rfl, hp⟩ := hR
    simp only [Iso, hr]
    show (([v, Bo true].mapM (view st h' 7)).map AV.tup) = _
    have := hp.view (by omega) 5 st
    simp only [List.mapM_cons, List.mapM_nil, this, view_bool]
    rfl
  refine R_of (f := 20) (fun r h' => ∃ v, r = .tup [v, Bo true] ∧ SpsH h' v t.C t.T S) (es _ _ _ _) e20 ?_
  simp only [f20, trV]
  simp (disch := first | assumption | omega | (simp only [az]; done)) only [ru, eq_self, if_true, if_false, BEq.rfl, binI, AO.row?, splice, fillL, mmAll, loadV, storeV, zeros, Am.rowAt, Am.part, addOff, Nat.reduceAdd, Nat.reduceMul, Nat.reduceLeDiff, Nat.reduceSub, Nat.reduceLT, Int.reduceEq, Int.reduceLT, Int.reduceLE, Int.reduceGT, Int.reduceGE, Int.reduceAdd, Int.reduceSub, Int.reduceMul, Int.reduceNeg, Int.reduceToNat, reduceCtorEq, reduceIte, lenV_sl H.o, lenV_sl H.w, elem_sl Ls.el H.o, elem_sl Wd.el H.w, view_sl H.o, view_sl H.w, scalar_sl H.o, scalar_sl H.w, cells_sl H.o, cells_sl H.w, pure_sl H.o, pure_sl H.w, Int.toNat_natCast]
  refine G_loop_ind (fun q ts hk mk => ∃ (i : Nat) (v : AV), i ≤ t.T ∧ q = t.T - i ∧ ts.length = 57 ∧ ts.getD 1 .undef = .ptr 0 0 ∧ ts.getD 4 .undef = v ∧ ts.getD 5 .undef = I i ∧ 1 ≤ hk.length ∧ hk[0]? = some (.cells [I t.ch, I t.tm, o, w] false) ∧ SpsH hk v t.C i S ∧ mk = []) ?_ _ _ _ _
    ⟨0, .nils, Nat.zero_le _, rfl, rfl, rfl, rfl, rfl, by simp, rfl, .inl ⟨rfl, rfl⟩, rfl⟩
  rintro q ts hk mk ih ⟨i, v, hi, rfl, hl, q1, q4, q5, hg, k0, HS, rfl⟩
  rw [lit_all hl]
  simp only [lit0, litS, Nat.reduceAdd, q1, q4, q5]
  simp (disch := first | assumption | omega | (simp only [az]; done)) only [ru, eq_self, if_true, if_false, BEq.rfl, binI, AO.row?, splice, fillL, mmAll, loadV, storeV, zeros, Am.rowAt, Am.part, addOff, Nat.reduceAdd, Nat.reduceMul, Nat.reduceLeDiff, Nat.reduceSub, Nat.reduceLT, Int.reduceEq, Int.reduceLT, Int.reduceLE, Int.reduceGT, Int.reduceGE, Int.reduceAdd, Int.reduceSub, Int.reduceMul, Int.reduceNeg, Int.reduceToNat, reduceCtorEq, reduceIte, k0]
  by_cases hlt : (i : Int) < t.tm
  case neg =>
    have hi3 : i = t.T := by omega
    subst hi3
    simp (disch := first | assumption | omega | (simp only [az]; done)) only [ru, eq_self, if_true, if_false, BEq.rfl, binI, AO.row?, splice, fillL, mmAll, loadV, storeV, zeros, Am.rowAt, Am.part, addOff, Nat.reduceAdd, Nat.reduceMul, Nat.reduceLeDiff, Nat.reduceSub, Nat.reduceLT, Int.reduceEq, Int.reduceLT, Int.reduceLE, Int.reduceGT, Int.reduceGE, Int.reduceAdd, Int.reduceSub, Int.reduceMul, Int.reduceNeg, Int.reduceToNat, reduceCtorEq, reduceIte, hlt]
    exact ⟨v, rfl, HS⟩
  have hi2 : i < t.T := by omega
  simp (disch := first | assumption | omega | (simp only [az]; done)) only [ru, eq_self, if_true, if_false, BEq.rfl, binI, AO.row?, splice, fillL, mmAll, loadV, storeV, zeros, Am.rowAt, Am.part, addOff, Nat.reduceAdd, Nat.reduceMul, Nat.reduceLeDiff, Nat.reduceSub, Nat.reduceLT, Int.reduceEq, Int.reduceLT, Int.reduceLE, Int.reduceGT, Int.reduceGE, Int.reduceAdd, Int.reduceSub, Int.reduceMul, Int.reduceNeg, Int.reduceToNat, reduceCtorEq, reduceIte, hlt]
  clear hl q1 q4 q5
  refine G_loop_ind (fun q ts hh mk => ∃ (c : Nat) (l : AV), c ≤ t.C ∧ q = t.C - c ∧ ts.length = 57 ∧ ts.getD 1 .undef = .ptr 0 0 ∧ ts.getD 4 .undef = v ∧ ts.getD 5 .undef = I i ∧ ts.getD 6 .undef = l ∧ ts.getD 7 .undef = I c ∧ hk.length ≤ hh.length ∧ (∀ k, k < hk.length → hh[k]? = hk[k]?) ∧
    ((c = 0 ∧ l = .nils) ∨ (0 < c ∧ ∃ p, hk.length ≤ p ∧ l = .ms 2 p 0 c ∧ hh[p]? = some (.cells ((spRow c S i).flatMap Spn.e) false))) ∧ mk = []) ?_ _ _ _ _
    ⟨0, .nils, Nat.zero_le _, rfl, rfl, rfl, rfl, rfl, rfl, rfl, Nat.le_refl _, fun _ _ => rfl, .inl ⟨rfl, rfl⟩, rfl⟩
  rintro q ts hh mk ihC ⟨c, l, hc, rfl, hl, q1, q4, q5, q6, q7, hgg, fr, hL, rfl⟩
  rw [lit_all hl]
  simp only [lit0, litS, Nat.reduceAdd, q1, q4, q5, q6, q7]
  have f0 : hh[0]? = some (.cells [I t.ch, I t.tm, o, w] false) := by rw [fr 0 (by omega)]; exact k0
  simp (disch := first | assumption | omega | (simp only [az]; done)) only [ru, eq_self, if_true, if_false, BEq.rfl, binI, AO.row?, splice, fillL, mmAll, loadV, storeV, zeros, Am.rowAt, Am.part, addOff, Nat.reduceAdd, Nat.reduceMul, Nat.reduceLeDiff, Nat.reduceSub, Nat.reduceLT, Int.reduceEq, Int.reduceLT, Int.reduceLE, Int.reduceGT, Int.reduceGE, Int.reduceAdd, Int.reduceSub, Int.reduceMul, Int.reduceNeg, Int.reduceToNat, reduceCtorEq, reduceIte, f0]
  by_cases hlc : (c : Int) < t.ch
  case neg =>
    have hc3 : c = t.C := by omega
    rcases hL with ⟨h1, _⟩ | ⟨h1, p, h2, rfl, h3⟩
    · omega
    subst hc3
    obtain ⟨z, hz⟩ : ∃ z, z = AV.ms 2 p 0 t.C := ⟨_, rfl⟩
    have zs : z.scalar = true ∧ z.cells = [z] := by rw [hz]; exact ⟨rfl, rfl⟩
    rw [← hz]
    have hr : Am.rowOf (hh ++ [AO.cells [z] false]) (.ms 1 hh.length 0 1) = some [z] := by rw [rowOf_ms]; simp only [Am.rowAt, atT0]; rfl
    have zs2 : [z].all AV.scalar = true := by simp [zs.1]
    have pl := (List.getElem?_eq_some_iff.1 h3).1
    have key : ∃ v' h', appV 0 (hh ++ [AO.cells [z] false]) 1 24 v (.ms 1 hh.length 0 1) = some (v', h') ∧ hh.length < h'.length ∧ h'[0]? = some (.cells [I t.ch, I t.tm, o, w] false) ∧ SpsH h' v' t.C (i + 1) S := by
      rcases HS with ⟨e1, rfl⟩ | ⟨e0, o', vs, rfl, a4, a5, a6⟩
      · subst e1
        have ev := appV_nil (lim := 0) (esz := 1) (eb := 24) (n := 1) (x := .ms 1 hh.length 0 1) rfl hr rfl zs2 (by omega) (by omega)
        rw [if_neg (by omega)] at ev
        refine ⟨_, _, ev, by simp <;> omega, ?_, .inr ⟨by omega, (hh ++ [AO.cells [z] false]).length, [z], rfl, by rw [atT0]; rfl, rfl, fun j hj => ?_⟩⟩
        · rw [at_ap (by simp), at_ap (by omega)]; exact f0
        · obtain rfl : j = 0 := by omega
          exact ⟨p, by simp; omega, hz, by rw [at_ap (by simp; omega), at_ap pl]; exact h3⟩
      · have o2 := (List.getElem?_eq_some_iff.1 a4).1
        have go : (hh ++ [AO.cells [z] false])[o']? = some (.cells vs false) := by rw [at_ap (by omega), fr o' o2]; exact a4
        have ev := appV_ms (lim := 0) (esz := 1) (eb := 24) (n := 1) (len := i) (x := .ms 1 hh.length 0 1) go (by omega) rfl hr rfl zs2 (by omega) (by omega) (Nat.zero_le _)
        rw [if_neg (by omega)] at ev
        have o0 : o' ≠ 0 := fun e => by
          subst e
          rw [k0] at a4
          simp only [Option.some.injEq, AO.cells.injEq, and_true] at a4
          obtain ⟨p', _, e2, _⟩ := a6 0 e0
          rw [← a4] at e2
          cases e2
        refine ⟨_, _, ev, by simp <;> omega, ?_, .inr ⟨by omega, (hh ++ [AO.cells [z] false]).length, vs ++ [z], rfl, by rw [show (hh ++ [AO.cells [z] false]).length = ((hh ++ [AO.cells [z] false]).set o' .tomb).length by simp, atT0]; rfl, by simp [a5], fun j hj => ?_⟩⟩
        · rw [at_ap (by simp), List.getElem?_set_ne (by omega), at_ap (by omega)]; exact f0
        · by_cases e : j = i
          · subst e
            refine ⟨p, by simp; omega, ?_, ?_⟩
            · rw [← hz, ← a5, getT0]; rfl
            · rw [at_ap (by simp; omega), List.getElem?_set_ne (by omega), at_ap pl]; exact h3
          · obtain ⟨p', b1, b2, b3⟩ := a6 j (by omega)
            have p2 := (List.getElem?_eq_some_iff.1 b3).1
            refine ⟨p', by simp; omega, ?_, ?_⟩
            · rw [← b2, List.getD_eq_getElem?_getD, List.getElem?_append_left (by omega), ← List.getD_eq_getElem?_getD]
            · rw [at_ap (by simp; omega), List.getElem?_set_ne (by omega), at_ap (by omega), fr p' p2]; exact b3
    refine key.elim fun v' hh' => hh'.elim fun h' hh' => ?_
    have c1 := hh'.1
    have c2 := hh'.2.1
    have c3 := hh'.2.2.1
    have c4 := hh'.2.2.2
    clear hh' key
    simp (disch := first | assumption | omega | (simp only [az]; done)) only [ru, eq_self, if_true, if_false, BEq.rfl, binI, AO.row?, splice, fillL, mmAll, loadV, storeV, zeros, Am.rowAt, Am.part, addOff, Nat.reduceAdd, Nat.reduceMul, Nat.reduceLeDiff, Nat.reduceSub, Nat.reduceLT, Int.reduceEq, Int.reduceLT, Int.reduceLE, Int.reduceGT, Int.reduceGE, Int.reduceAdd, Int.reduceSub, Int.reduceMul, Int.reduceNeg, Int.reduceToNat, reduceCtorEq, reduceIte, hlc, zs.1, zs.2, c1]
    exact ih (t.T - (i + 1)) _ _ _ (by omega) ⟨i + 1, v', by omega, rfl, rfl, rfl, rfl, rfl, by omega, c3, c4, rfl⟩
  have hc2 : c < t.C := by omega
  have c32 := (hS i c hi2 hc2).1
  have bd := xt_bd hi2 hc2 (hS i c hi2 hc2).2
  simp only [trV] at c32
  have b1 : ¬ (S i c).lo < 0 := by omega
  have b2 : ¬ (S i c).lo > (S i c).hi := by omega
  have b3 : ¬ (S i c).hi > 40 := by omega
  obtain ⟨lo, hlo⟩ : ∃ lo, lo = (S i c).lo := ⟨_, rfl⟩
  obtain ⟨hi', hhi⟩ : ∃ hi', hi' = (S i c).hi := ⟨_, rfl⟩
  have key : ∃ l' h', appV 0 (hh ++ [AO.cells [I lo, I hi'] false, AO.cells [I lo, I hi'] false]) 2 16 l (.ms 2 (hh.length + 1) 0 1) = some (l', h') ∧ hk.length ≤ h'.length ∧ (∀ k, k < hk.length → h'[k]? = hk[k]?) ∧
      ∃ p, hk.length ≤ p ∧ l' = .ms 2 p 0 (c + 1) ∧ h'[p]? = some (.cells ((spRow (c + 1) S i).flatMap Spn.e) false) := by
    obtain ⟨G0, hG0⟩ : ∃ G0 : List AO, G0 = hh ++ [AO.cells [I lo, I hi'] false, AO.cells [I lo, I hi'] false] := ⟨_, rfl⟩
    rw [← hG0]
    have gl : G0.length = hh.length + 2 := by rw [hG0]; simp
    have gk : ∀ k, k < hh.length → G0[k]? = hh[k]? := fun k hk' => by rw [hG0, at_ap hk']
    have g1 : G0[hh.length + 1]? = some (.cells [I lo, I hi'] false) := by rw [hG0, atT]; rfl
    have hr : Am.rowOf G0 (.ms 2 (hh.length + 1) 0 1) = some [I lo, I hi'] := by rw [rowOf_ms]; simp only [Am.rowAt, g1]; rfl
    rcases hL with ⟨e1, rfl⟩ | ⟨e0, p, p1, rfl, p3⟩
    · subst e1
      have ev := appV_nil (lim := 0) (esz := 2) (eb := 16) (n := 1) (x := .ms 2 (hh.length + 1) 0 1) rfl hr rfl rfl (by omega) (by omega)
      rw [if_neg (by omega)] at ev
      refine ⟨_, _, ev, by simp; omega, fun k hk' => ?_, G0.length, by omega, rfl, ?_⟩
      · rw [at_ap (by omega), gk k (by omega)]; exact fr k hk'
      · rw [atT0, spRow_succ, hlo, hhi]; rfl
    · have pl := (List.getElem?_eq_some_iff.1 p3).1
      have go : G0[p]? = some (.cells ((spRow c S i).flatMap Spn.e) false) := by rw [gk p pl]; exact p3
      have ev := appV_ms (lim := 0) (esz := 2) (eb := 16) (n := 1) (len := c) (x := .ms 2 (hh.length + 1) 0 1) go (by rw [flat_len Spn.el, spRow_len]) rfl hr rfl rfl (by omega) (by omega) (Nat.zero_le _)
      rw [if_neg (by omega)] at ev
      refine ⟨_, _, ev, by simp; omega, fun k hk' => ?_, G0.length, by omega, rfl, ?_⟩
      · rw [at_ap (by simp; omega), List.getElem?_set_ne (by omega), gk k (by omega)]; exact fr k hk'
      · rw [show G0.length = (G0.set p .tomb).length by simp, atT0, spRow_succ, hlo, hhi]; rfl
  refine key.elim fun l' hh' => hh'.elim fun h' hh' => ?_
  have d1 := hh'.1
  have d2 := hh'.2.1
  have d3 := hh'.2.2.1
  have d4 := hh'.2.2.2
  clear hh' key
  rw [← hlo, ← hhi] at b2
  rw [← hlo] at b1
  rw [← hhi] at b3
  simp only [← hlo, ← hhi] at c32
  simp (disch := first | assumption | omega | (simp only [az]; done)) only [ru, eq_self, if_true, if_false, BEq.rfl, binI, AO.row?, splice, fillL, mmAll, loadV, storeV, zeros, Am.rowAt, Am.part, addOff, Nat.reduceAdd, Nat.reduceMul, Nat.reduceLeDiff, Nat.reduceSub, Nat.reduceLT, Int.reduceEq, Int.reduceLT, Int.reduceLE, Int.reduceGT, Int.reduceGE, Int.reduceAdd, Int.reduceSub, Int.reduceMul, Int.reduceNeg, Int.reduceToNat, reduceCtorEq, reduceIte, lenV_sl H.o, lenV_sl H.w, elem_sl Ls.el H.o, elem_sl Wd.el H.w, view_sl H.o, view_sl H.w, scalar_sl H.o, scalar_sl H.w, cells_sl H.o, cells_sl H.w, pure_sl H.o, pure_sl H.w, Int.toNat_natCast, hlc, f0, c32, b1, b2, b3, gUn, List.append_assoc, List.cons_append, List.nil_append, lenE, setT, setT0, atT, atT0, getT, getT0, Nat.add_assoc, d1]
  exact ihC (t.C - (c + 1)) _ _ _ (by omega) ⟨c + 1, l', by omega, rfl, rfl, rfl, rfl, rfl, rfl, rfl, d2, d3, .inr ⟨by omega, d4⟩, rfl⟩
end Go.Proofs.Ytjaaefdhdggnkaa.S

/-
No span of a trap is wider than that of another one: narrower.
-/
namespace Go.Proofs.Ytjaaefdhdggnkaa.S
open Go Go.Am Go.Proofs.Ytjaaefdhdggnkaa.T
set_option maxRecDepth 100000
set_option linter.unusedSimpArgs false
set_option linter.unusedVariables false

theorem el_sp (l : List Spn) (i : Int) (h0 : 0 ≤ i) (h1 : i < l.length) : elemAt 2 (slV 2 Spn.e l) (I i) = some (.cptr (Spn.e (l.getD i.toNat default))) := elem_sl Spn.el slV_is i h0 h1
theorem xt_sub {a b : Trap} {f : (Nat → Int) → Int} {lo hi lo' hi' : Int} (X : Xt a f lo hi) (Y : Xt b f lo' hi') (sub : ∀ x, Tr a x → Tr b x) : lo' ≤ lo ∧ lo ≤ hi ∧ hi ≤ hi' := by
  obtain ⟨p, ⟨x, h1, h2⟩, y, h3, h4⟩ := xt_tr X
  obtain ⟨q, _⟩ := xt_tr Y
  have a1 := q x (sub x h1)
  have a2 := q y (sub y h3)
  have a3 := p x h1
  omega
/-- the answers of Whole and Passed, where there is a truth -/
theorem whole_at {t : Trap} {o w : AV} (H : TrOk t o w) (hv : t.valid = true) (hs : Solv t.C t.T t) {i : Nat} (hi : i < t.T) : ∃ lo hi, (∀ st, Iso E 23 [trV t o w, I i] st = some (.tup [.agg [I lo, I hi], I 0])) ∧ Xt t (fun x => x (sumN t.C i 0) - x 0) lo hi := by
  have eT := eqT hv
  obtain ⟨lo, hi, e, h, A⟩ := s23 H i
  obtain ⟨rfl, X⟩ := A.val hv (by simp only [timeB, Bool.and_eq_true, decide_eq_true_eq]; omega) hs
  exact ⟨lo, hi, h, X⟩
theorem passed_at {t : Trap} {o w : AV} (H : TrOk t o w) (hv : t.valid = true) (hs : Solv t.C t.T t) {i c : Nat} (hi : i + 1 < t.T) (hc : c < t.C) : ∃ lo hi, (∀ st, Iso E 27 [trV t o w, I i, I c] st = some (.tup [.agg [I lo, I hi], I 0])) ∧ Xt t (fun x => flow t.C x i c) lo hi := by
  have eC := eqC hv; have eT := eqT hv
  have vo := (valid_trb hv).o
  obtain ⟨lo, hi, e, h, A⟩ := s27 H i c
  obtain ⟨rfl, X⟩ := A.val hv (by simp only [stepB, Bool.and_eq_true, decide_eq_true_eq]; omega) hs
  exact ⟨lo, hi, h, X⟩

set_option maxHeartbeats 2000000 in
theorem s37 {a b : Trap} {oa wa ob wb : AV} (Ha : TrOk a oa wa) (Hb : TrOk b ob wb) (va : a.valid = true) (vb : b.valid = true) (hC : b.C = a.C) (hT : b.T = a.T) (sa : Solv a.C a.T a) (sub : ∀ x, Tr a x → Tr b x) (st : Bool) :
    Iso E 37 [trV a oa wa, trV b ob wb] st = some (Bo true) := by
  have sb : Solv b.C b.T b := by obtain ⟨x, hx⟩ := solv_tr.1 sa; exact solv_tr.2 ⟨x, sub x hx⟩
  have V := valid_trb va
  have v1 := V.c0; have v2 := V.c1; have v3 := V.t0; have v4 := V.t1
  have eC := eqC va; have eT := eqT va
  obtain ⟨Sa, hSa⟩ := fish_all Ha va sa
  obtain ⟨Sb, hSb⟩ := fish_all Hb vb sb
  have c20a := s20 Ha va hSa
  have c20b := s20 Hb vb hSb
  rw [hC, hT] at c20b
  have ia : IsSl 1 encR (spR a.C a.T Sa) (spV a.C a.T Sa) := slV_is
  have ib : IsSl 1 encR (spR a.C a.T Sb) (spV a.C a.T Sb) := slV_is
  obtain ⟨pa, hpa⟩ : ∃ pa, pa = spV a.C a.T Sa := ⟨_, rfl⟩
  obtain ⟨pb, hpb⟩ : ∃ pb, pb = spV a.C a.T Sb := ⟨_, rfl⟩
  rw [← hpa] at c20a ia
  rw [← hpb] at c20b ib
  have oa1 := Ha.o; have wa1 := Ha.w; have ob1 := Hb.o; have wb1 := Hb.w
  simp only [trV] at c20a c20b
  refine Iso_of (es _ _ _ _) e37 ?_
  simp only [f37, trV]
  simp (disch := first | assumption | omega | (simp only [az]; done)) only [ru, eq_self, if_true, if_false, BEq.rfl, binI, AO.row?, splice, fillL, mmAll, loadV, storeV, zeros, Am.rowAt, Am.part, addOff, Nat.reduceAdd, Nat.reduceMul, Nat.reduceLeDiff, Nat.reduceSub, Nat.reduceLT, Int.reduceEq, Int.reduceLT, Int.reduceLE, Int.reduceGT, Int.reduceGE, Int.reduceAdd, Int.reduceSub, Int.reduceMul, Int.reduceNeg, Int.reduceToNat, reduceCtorEq, reduceIte, lenV_sl oa1, elem_sl Ls.el oa1, view_sl oa1, scalar_sl oa1, cells_sl oa1, pure_sl oa1, lenV_sl wa1, elem_sl Wd.el wa1, view_sl wa1, scalar_sl wa1, cells_sl wa1, pure_sl wa1, lenV_sl ob1, elem_sl Ls.el ob1, view_sl ob1, scalar_sl ob1, cells_sl ob1, pure_sl ob1, lenV_sl wb1, elem_sl Wd.el wb1, view_sl wb1, scalar_sl wb1, cells_sl wb1, pure_sl wb1, c20a, c20b, gUn]
  refine G_loop_ind (fun q ts hk mk => ∃ (i : Nat), i ≤ a.T ∧ q = a.T - i ∧ ts.length = 118 ∧ ts.getD 2 .undef = .ptr 0 0 ∧ ts.getD 3 .undef = .ptr 1 0 ∧ ts.getD 5 .undef = pa ∧ ts.getD 7 .undef = pb ∧ ts.getD 9 .undef = I i ∧
    2 ≤ hk.length ∧ hk[0]? = some (.cells [I a.ch, I a.tm, oa, wa] false) ∧ hk[1]? = some (.cells [I b.ch, I b.tm, ob, wb] false) ∧ mk = []) ?_ _ _ _ _
    ⟨0, Nat.zero_le _, rfl, rfl, rfl, rfl, rfl, rfl, rfl, by simp, rfl, rfl, rfl⟩
  rintro q ts hk mk ih ⟨i, hi, rfl, hl, q2, q3, q5, q7, q9, hg, k0, k1, rfl⟩
  rw [lit_all hl]
  simp only [lit0, litS, Nat.reduceAdd, q2, q3, q5, q7, q9]
  simp (disch := first | assumption | omega | (simp only [az]; done)) only [ru, eq_self, if_true, if_false, BEq.rfl, binI, AO.row?, splice, fillL, mmAll, loadV, storeV, zeros, Am.rowAt, Am.part, addOff, Nat.reduceAdd, Nat.reduceMul, Nat.reduceLeDiff, Nat.reduceSub, Nat.reduceLT, Int.reduceEq, Int.reduceLT, Int.reduceLE, Int.reduceGT, Int.reduceGE, Int.reduceAdd, Int.reduceSub, Int.reduceMul, Int.reduceNeg, Int.reduceToNat, reduceCtorEq, reduceIte, k0]
  by_cases hlt : (i : Int) < a.tm
  case neg =>
    simp (disch := first | assumption | omega | (simp only [az]; done)) only [ru, eq_self, if_true, if_false, BEq.rfl, binI, AO.row?, splice, fillL, mmAll, loadV, storeV, zeros, Am.rowAt, Am.part, addOff, Nat.reduceAdd, Nat.reduceMul, Nat.reduceLeDiff, Nat.reduceSub, Nat.reduceLT, Int.reduceEq, Int.reduceLT, Int.reduceLE, Int.reduceGT, Int.reduceGE, Int.reduceAdd, Int.reduceSub, Int.reduceMul, Int.reduceNeg, Int.reduceToNat, reduceCtorEq, reduceIte, hlt]
  have hi2 : i < a.T := by omega
  have k0J : ∀ J, (hk ++ J)[0]? = some (.cells [I a.ch, I a.tm, oa, wa] false) := fun J => by rw [at_ap (by omega)]; exact k0
  have k1J : ∀ J, (hk ++ J)[1]? = some (.cells [I b.ch, I b.tm, ob, wb] false) := fun J => by rw [at_ap (by omega)]; exact k1
  refine (whole_at Ha va sa hi2).elim fun l1 h => h.elim fun u1 h => ?_
  have w1 := h.1
  have X1 := h.2
  clear h
  refine (whole_at Hb vb sb (i := i) (by omega)).elim fun l2 h => h.elim fun u2 h => ?_
  have w2 := h.1
  have X2 := h.2
  clear h
  rw [hC] at X2
  have in1 := xt_sub X1 X2 sub
  simp only [trV] at w1 w2
  have n1 := in1.1; have n2 := in1.2.1; have n3 := in1.2.2
  simp (disch := first | assumption | omega | (simp only [az]; done)) only [ru, eq_self, if_true, if_false, BEq.rfl, binI, AO.row?, splice, fillL, mmAll, loadV, storeV, zeros, Am.rowAt, Am.part, addOff, Nat.reduceAdd, Nat.reduceMul, Nat.reduceLeDiff, Nat.reduceSub, Nat.reduceLT, Int.reduceEq, Int.reduceLT, Int.reduceLE, Int.reduceGT, Int.reduceGE, Int.reduceAdd, Int.reduceSub, Int.reduceMul, Int.reduceNeg, Int.reduceToNat, reduceCtorEq, reduceIte, lenV_sl oa1, elem_sl Ls.el oa1, view_sl oa1, scalar_sl oa1, cells_sl oa1, pure_sl oa1, lenV_sl wa1, elem_sl Wd.el wa1, view_sl wa1, scalar_sl wa1, cells_sl wa1, pure_sl wa1, lenV_sl ob1, elem_sl Ls.el ob1, view_sl ob1, scalar_sl ob1, cells_sl ob1, pure_sl ob1, lenV_sl wb1, elem_sl Wd.el wb1, view_sl wb1, scalar_sl wb1, cells_sl wb1, pure_sl wb1, hlt, k0, k0J, k1J, k1, w1, w2, s42, n1, n2, n3, decide_true, Bool.and_self, gUn, List.append_assoc, List.cons_append, List.nil_append, lenE, setT, setT0, atT, atT0, getT, getT0, Nat.add_assoc]
  clear hl q2 q3 q5 q7 q9
  refine G_loop_ind (fun q ts hh mk => ∃ (c : Nat), c ≤ a.C ∧ q = a.C - c ∧ ts.length = 118 ∧ ts.getD 2 .undef = .ptr 0 0 ∧ ts.getD 3 .undef = .ptr 1 0 ∧ ts.getD 5 .undef = pa ∧ ts.getD 7 .undef = pb ∧ ts.getD 9 .undef = I i ∧ ts.getD 14 .undef = I c ∧
    2 ≤ hh.length ∧ hh[0]? = some (.cells [I a.ch, I a.tm, oa, wa] false) ∧ hh[1]? = some (.cells [I b.ch, I b.tm, ob, wb] false) ∧ mk = []) ?_ _ _ _ _
    ⟨0, Nat.zero_le _, rfl, rfl, rfl, rfl, rfl, rfl, rfl, rfl, by simp <;> omega, k0J _, k1J _, rfl⟩
  rintro q ts hh mk ihC ⟨c, hc, rfl, hl, q2, q3, q5, q7, q9, q14, hgg, g0, g1, rfl⟩
  rw [lit_all hl]
  simp only [lit0, litS, Nat.reduceAdd, q2, q3, q5, q7, q9, q14]
  simp (disch := first | assumption | omega | (simp only [az]; done)) only [ru, eq_self, if_true, if_false, BEq.rfl, binI, AO.row?, splice, fillL, mmAll, loadV, storeV, zeros, Am.rowAt, Am.part, addOff, Nat.reduceAdd, Nat.reduceMul, Nat.reduceLeDiff, Nat.reduceSub, Nat.reduceLT, Int.reduceEq, Int.reduceLT, Int.reduceLE, Int.reduceGT, Int.reduceGE, Int.reduceAdd, Int.reduceSub, Int.reduceMul, Int.reduceNeg, Int.reduceToNat, reduceCtorEq, reduceIte, g0]
  by_cases hlc : (c : Int) < a.ch
  case neg =>
    simp (disch := first | assumption | omega | (simp only [az]; done)) only [ru, eq_self, if_true, if_false, BEq.rfl, binI, AO.row?, splice, fillL, mmAll, loadV, storeV, zeros, Am.rowAt, Am.part, addOff, Nat.reduceAdd, Nat.reduceMul, Nat.reduceLeDiff, Nat.reduceSub, Nat.reduceLT, Int.reduceEq, Int.reduceLT, Int.reduceLE, Int.reduceGT, Int.reduceGE, Int.reduceAdd, Int.reduceSub, Int.reduceMul, Int.reduceNeg, Int.reduceToNat, reduceCtorEq, reduceIte, hlc]
    exact ih (a.T - (i + 1)) _ _ _ (by omega) ⟨i + 1, by omega, rfl, rfl, rfl, rfl, rfl, rfl, rfl, hgg, g0, g1, rfl⟩
  have hc2 : c < a.C := by omega
  have ra := spR_at (C := a.C) (S := Sa) hi2
  have rb := spR_at (C := a.C) (S := Sb) hi2
  have ca := spRow_at (i := i) (S := Sa) hc2
  have cb := spRow_at (i := i) (S := Sb) hc2
  have i0 : (0 : Int) ≤ i := by omega
  have c0 : (0 : Int) ≤ c := by omega
  have la : (i : Int) < ((spR a.C a.T Sa).length : Nat) := by rw [spR_len]; omega
  have lb : (i : Int) < ((spR a.C a.T Sb).length : Nat) := by rw [spR_len]; omega
  have ma : (c : Int) < ((spRow a.C Sa i).length : Nat) := by rw [spRow_len]; omega
  have mb : (c : Int) < ((spRow a.C Sb i).length : Nat) := by rw [spRow_len]; omega
  have Y2 := (hSb i c (by omega) (by omega)).2
  rw [hC] at Y2
  have in2 := xt_sub (hSa i c hi2 hc2).2 Y2 sub
  have m1 := in2.1; have m2 := in2.2.1; have m3 := in2.2.2
  have g0J : ∀ J, (hh ++ J)[0]? = some (.cells [I a.ch, I a.tm, oa, wa] false) := fun J => by rw [at_ap (by omega)]; exact g0
  have g1J : ∀ J, (hh ++ J)[1]? = some (.cells [I b.ch, I b.tm, ob, wb] false) := fun J => by rw [at_ap (by omega)]; exact g1
  by_cases e : (i : Int) + 1 = a.tm
  · have e' : (((i : Int) + 1) == a.tm) = true := by simpa using e
    simp (disch := first | assumption | omega | (simp only [az]; done)) only [ru, eq_self, if_true, if_false, BEq.rfl, binI, AO.row?, splice, fillL, mmAll, loadV, storeV, zeros, Am.rowAt, Am.part, addOff, Nat.reduceAdd, Nat.reduceMul, Nat.reduceLeDiff, Nat.reduceSub, Nat.reduceLT, Int.reduceEq, Int.reduceLT, Int.reduceLE, Int.reduceGT, Int.reduceGE, Int.reduceAdd, Int.reduceSub, Int.reduceMul, Int.reduceNeg, Int.reduceToNat, reduceCtorEq, reduceIte, hlc, i0, c0, elem_sl encR_len ia, elem_sl encR_len ib, encR, el_sp, Int.toNat_natCast, ra, rb, ca, cb, Spn.e, s42, m1, m2, m3, decide_true, Bool.and_self, g0, e']
    exact ihC (a.C - (c + 1)) _ _ _ (by omega) ⟨c + 1, by omega, rfl, rfl, rfl, rfl, rfl, rfl, rfl, rfl, hgg, g0, g1, rfl⟩
  · have e' : (((i : Int) + 1) == a.tm) = false := by simpa using e
    refine (passed_at Ha va sa (i := i) (c := c) (by omega) hc2).elim fun l3 h => h.elim fun u3 h => ?_
    have w3 := h.1
    have X3 := h.2
    clear h
    refine (passed_at Hb vb sb (i := i) (c := c) (by omega) (by omega)).elim fun l4 h => h.elim fun u4 h => ?_
    have w4 := h.1
    have X4 := h.2
    clear h
    rw [hC] at X4
    have in3 := xt_sub X3 X4 sub
    simp only [trV] at w3 w4
    have p1 := in3.1; have p2 := in3.2.1; have p3 := in3.2.2
    simp (disch := first | assumption | omega | (simp only [az]; done)) only [ru, eq_self, if_true, if_false, BEq.rfl, binI, AO.row?, splice, fillL, mmAll, loadV, storeV, zeros, Am.rowAt, Am.part, addOff, Nat.reduceAdd, Nat.reduceMul, Nat.reduceLeDiff, Nat.reduceSub, Nat.reduceLT, Int.reduceEq, Int.reduceLT, Int.reduceLE, Int.reduceGT, Int.reduceGE, Int.reduceAdd, Int.reduceSub, Int.reduceMul, Int.reduceNeg, Int.reduceToNat, reduceCtorEq, reduceIte, hlc, i0, c0, elem_sl encR_len ia, elem_sl encR_len ib, encR, el_sp, Int.toNat_natCast, ra, rb, ca, cb, Spn.e, s42, m1, m2, m3, decide_true, Bool.and_self, g0, e']
    simp (disch := first | assumption | omega | (simp only [az]; done)) only [ru, eq_self, if_true, if_false, BEq.rfl, binI, AO.row?, splice, fillL, mmAll, loadV, storeV, zeros, Am.rowAt, Am.part, addOff, Nat.reduceAdd, Nat.reduceMul, Nat.reduceLeDiff, Nat.reduceSub, Nat.reduceLT, Int.reduceEq, Int.reduceLT, Int.reduceLE, Int.reduceGT, Int.reduceGE, Int.reduceAdd, Int.reduceSub, Int.reduceMul, Int.reduceNeg, Int.reduceToNat, reduceCtorEq, reduceIte, lenV_sl oa1, elem_sl Ls.el oa1, view_sl oa1, scalar_sl oa1, cells_sl oa1, pure_sl oa1, lenV_sl wa1, elem_sl Wd.el wa1, view_sl wa1, scalar_sl wa1, cells_sl wa1, pure_sl wa1, lenV_sl ob1, elem_sl Ls.el ob1, view_sl ob1, scalar_sl ob1, cells_sl ob1, pure_sl ob1, lenV_sl wb1, elem_sl Wd.el wb1, view_sl wb1, scalar_sl wb1, cells_sl wb1, pure_sl wb1, g0, g1, g0J, g1J, w3, w4, s42, p1, p2, p3, decide_true, Bool.and_self, gUn, List.append_assoc, List.cons_append, List.nil_append, lenE, setT, setT0, atT, atT0, getT, getT0, Nat.add_assoc]
    exact ihC (a.C - (c + 1)) _ _ _ (by omega) ⟨c + 1, by omega, rfl, rfl, rfl, rfl, rfl, rfl, rfl, rfl, by simp <;> omega, g0J _, g1J _, rfl⟩
end Go.Proofs.Ytjaaefdhdggnkaa.S

/-
The law of enough fish.
-/
namespace Go.Proofs.Ytjaaefdhdggnkaa.S
open Go Go.Am Go.Proofs.Ytjaaefdhdggnkaa.T
set_option maxRecDepth 100000
set_option linter.unusedSimpArgs false
set_option linter.unusedVariables false

theorem AnsG.val {α : Type} {t : Trap} {fit : Bool} {D : Int → α} {P : α → Prop} {v : α} (A : AnsG t fit D P v) (hv : t.valid = true) (hf : fit = true) (hs : Solv t.C t.T t) : P v := by
  cases A with
  | bad h => rw [hv] at h; cases h
  | arg _ h => rw [hf] at h; cases h
  | none _ _ h => exact absurd hs h
  | ok _ _ _ h => exact h
/-- whether there is a truth, as a bool -/
theorem one_val {t : Trap} {o w : AV} (H : TrOk t o w) (hv : t.valid = true) : ∃ b, (∀ st, Iso E 36 [trV t o w] st = some (Bo b)) ∧ (b = true ↔ Solv t.C t.T t) := s36 H (valid_trb hv) (eqC hv) (eqT hv)
end Go.Proofs.Ytjaaefdhdggnkaa.S

/-
A trap with one word less: Without; words without one: slices.Concat.
-/
namespace Go.Proofs.Ytjaaefdhdggnkaa.S
open Go Go.Am Go.Proofs.Ytjaaefdhdggnkaa.T
set_option maxRecDepth 100000
set_option linter.unusedSimpArgs false
set_option linter.unusedVariables false

set_option maxHeartbeats 4000000 in
theorem s51 {t : Trap} {o w : AV} (H : TrOk t o w) {k : Nat} (hk : k < t.ws.length) (st : Bool) : Iso E 51 [trV t o w, I k] st = some (cpV (t.del k)) := by
  have sw := H.sw
  obtain ⟨ow, ov0, wv0, K, q, hc⟩ := call41 H [.cells [I t.ch, I t.tm, o, w] false, .cells [I 0, I 0, .nils, .nils] false]
  have sc := hc.o.sc 2
  have hw0 := hc.w.1
  have hw1 := hc.w.2
  have ow1 := (List.getElem?_eq_some_iff.1 hw1).1
  simp only [List.length_cons, List.length_nil, Nat.zero_add, Nat.reduceAdd] at q
  obtain ⟨G0, hG0⟩ : ∃ G0 : List AO, G0 = [.cells [I t.ch, I t.tm, o, w] false, .cells [I 0, I 0, .nils, .nils] false] ++ K.map (AO.shift 2) := ⟨_, rfl⟩
  rw [← hG0] at q
  have gl : G0.length = K.length + 2 := by rw [hG0]; simp
  have g0 : ∀ J, (G0 ++ J)[0]? = some (.cells [I t.ch, I t.tm, o, w] false) := fun J => by rw [at_ap (by omega), hG0]; rfl
  have gK : ∀ k, G0[k + 2]? = (K[k]?).map (AO.shift 2) := fun k => by rw [hG0]; exact up_at (h := [.cells [I t.ch, I t.tm, o, w] false, .cells [I 0, I 0, .nils, .nils] false])
  obtain ⟨ov, hov⟩ : ∃ ov, ov = ov0.shift 2 := ⟨_, rfl⟩
  obtain ⟨wv, hwv⟩ : ∃ wv, wv = wv0.shift 2 := ⟨_, rfl⟩
  have hwv2 : wv = .ms 4 (ow + 2) 0 t.ws.length := by rw [hwv, hw0]; rfl
  rw [← hov] at sc
  rw [← hov, ← hwv] at q
  have wsc : wv.scalar = true ∧ wv.cells = [wv] := by rw [hwv2]; exact ⟨rfl, rfl⟩
  obtain ⟨G1, hG1⟩ : ∃ G1 : List AO, G1 = G0 ++ [AO.cells [I t.ch, I t.tm, ov, wv] false] := ⟨_, rfl⟩
  have l1 : G1.length = G0.length + 1 := by rw [hG1]; simp
  obtain ⟨u1, su1, iu1⟩ := slice_lo Wd.el H.w (k := k) (by omega)
  obtain ⟨u2, su2, iu2⟩ := slice_hi Wd.el H.w (k := k + 1) (by omega)
  have su2' : sliceV 4 w (some (I ((k : Int) + 1))) none = some u2 := su2
  have lt : (t.ws.take k).length = k := by rw [List.length_take]; omega
  have ld : (t.ws.drop (k + 1)).length = t.ws.length - (k + 1) := List.length_drop
  obtain ⟨q', y0, y1, hq', hA, hy⟩ := app_one (lim := 0) (eb := 32) (h := G1) (J := [.tomb]) iu1 Wd.el Wd.sc (by omega) (by omega) (by omega)
  obtain ⟨p, J, hB, lJ, hp, hJ⟩ := app_two (lim := 0) (eb := 32) (h := G1) iu2 Wd.el Wd.sc hq' hy (by omega) (by omega) (by omega)
  rw [l1] at hA hB
  obtain ⟨z, hz⟩ : ∃ z, z = AV.ms 4 (G0.length + 1 + q') 0 (t.ws.take k).length := ⟨_, rfl⟩
  obtain ⟨wn, hwn⟩ : ∃ wn, wn = AV.ms 4 (G0.length + 1 + p) 0 ((t.ws.take k).length + (t.ws.drop (k + 1)).length) := ⟨_, rfl⟩
  rw [← hz] at hA hB
  rw [← hwn] at hB
  have wn1 : wn.scalar = true ∧ wn.cells = [wn] := by rw [hwn]; exact ⟨rfl, rfl⟩
  have g1 : ∀ J, (G1 ++ J)[0]? = some (.cells [I t.ch, I t.tm, o, w] false) := fun J => by rw [hG1, List.append_assoc]; exact g0 _
  obtain ⟨H2, hH2⟩ : ∃ H2 : List AO, H2 = G1 ++ J := ⟨_, rfl⟩
  rw [← hH2] at hB
  have l2 : H2.length = G0.length + 4 := by rw [hH2]; simp; omega
  have e0 : H2[G0.length]? = some (.cells [I t.ch, I t.tm, ov, wv] false) := by
    rw [hH2, at_ap (by omega), hG1, atT0]; rfl
  have e2 : H2[1]? = some (.cells [I 0, I 0, .nils, .nils] false) := by
    rw [hH2, at_ap (by omega), hG1, at_ap (by omega), hG0]; rfl
  have e9 : H2[G0.length + 1 + p]? = some (.cells ((t.ws.take k ++ t.ws.drop (k + 1)).flatMap Wd.e) false) := by
    rw [hH2, ← l1, atT]; exact hJ
  have ek : ∀ k, k < K.length → H2[k + 2]? = (K[k]?).map (AO.shift 2) := fun k hk' => by
    rw [hH2, at_ap (by omega), hG1, at_ap (by omega), gK]
  have e5 : ∀ c, (H2.set G0.length c)[1]? = some (.cells [I 0, I 0, .nils, .nils] false) := fun c => by rw [List.getElem?_set_ne (by omega)]; exact e2
  have e6 : ∀ c, (H2.set G0.length c)[G0.length]? = some c := fun c => by rw [List.getElem?_set_self (by omega)]
  have hA' : appG true 0 (G0.length + 2) 4 32 (G0 ++ [AO.cells [I t.ch, I t.tm, ov, wv] false, AO.cells [] false, AO.tomb, AO.tomb]) (.ms 4 (G0.length + 1) 0 0) u1 = some (z, G0 ++ [AO.cells [I t.ch, I t.tm, ov, wv] false, y0, y1, AO.tomb]) := by
    have := hA
    rw [hG1, List.append_assoc, List.append_assoc] at this
    exact this
  have hB' : appG false 0 (G0.length + 3) 4 32 (G0 ++ [AO.cells [I t.ch, I t.tm, ov, wv] false, y0, y1, AO.tomb]) z u2 = some (wn, H2) := by
    have := hB
    rw [hG1, List.append_assoc] at this
    exact this
  have c0 : (0 : Int) ≤ k := by omega
  refine Iso_of (es _ _ _ _) e51 ?_
  simp only [f51, trV] at q ⊢
  simp (disch := first | assumption | omega | (simp only [az]; done)) only [ru, eq_self, if_true, if_false, BEq.rfl, binI, AO.row?, splice, fillL, mmAll, loadV, storeV, zeros, Am.rowAt, Am.part, addOff, Nat.reduceAdd, Nat.reduceMul, Nat.reduceLeDiff, Nat.reduceSub, Nat.reduceLT, Int.reduceEq, Int.reduceLT, Int.reduceLE, Int.reduceGT, Int.reduceGE, Int.reduceAdd, Int.reduceSub, Int.reduceMul, Int.reduceNeg, Int.reduceToNat, reduceCtorEq, reduceIte, lenV_sl H.o, lenV_sl H.w, elem_sl Ls.el H.o, elem_sl Wd.el H.w, view_sl H.o, view_sl H.w, scalar_sl H.o, scalar_sl H.w, cells_sl H.o, cells_sl H.w, pure_sl H.o, pure_sl H.w, Int.toNat_natCast]
  rw [q rfl]
  simp (disch := first | assumption | omega | (simp only [az]; done)) only [ru, eq_self, if_true, if_false, BEq.rfl, binI, AO.row?, splice, fillL, mmAll, loadV, storeV, zeros, Am.rowAt, Am.part, addOff, Nat.reduceAdd, Nat.reduceMul, Nat.reduceLeDiff, Nat.reduceSub, Nat.reduceLT, Int.reduceEq, Int.reduceLT, Int.reduceLE, Int.reduceGT, Int.reduceGE, Int.reduceAdd, Int.reduceSub, Int.reduceMul, Int.reduceNeg, Int.reduceToNat, reduceCtorEq, reduceIte, lenV_sl H.o, lenV_sl H.w, elem_sl Ls.el H.o, elem_sl Wd.el H.w, view_sl H.o, view_sl H.w, scalar_sl H.o, scalar_sl H.w, cells_sl H.o, cells_sl H.w, pure_sl H.o, pure_sl H.w, Int.toNat_natCast, List.append_assoc, List.cons_append, List.nil_append, lenE, setT, setT0, atT, atT0, getT, getT0, Nat.add_assoc, sc.1, sc.2, wsc.1, wsc.2, Bool.and_self, g0, pex_slice, su1, su2', GO_mapp, unhN, unhC, hA', hB', wn1.1, wn1.2, e0, e5, e6]
  rw [finC]
  refine ⟨.agg [I t.ch, I t.tm, ov, wn], ?_, ?_⟩
  · simp only [getRes, List.getD_cons_zero, List.getD_cons_succ, Am.rowAt]
    rw [List.getElem?_set_self (by rw [List.length_set]; omega)]; rfl
  · have lw : (t.del k).ws.length = (t.ws.take k).length + (t.ws.drop (k + 1)).length := by simp [Trap.del]
    refine CpH.view (t := t.del k) (n := 5) (ow := G0.length + 1 + p) ⟨?_, ?_, ?_⟩ st
    · rw [hov]
      refine hc.o.up (fun k hk hn => ?_) (.inl (by omega))
      rw [List.getElem?_set_ne (by omega), List.getElem?_set_ne (by omega)]
      exact ek k hk
    · rw [hwn, lw]
    · rw [List.getElem?_set_ne (by omega), List.getElem?_set_ne (by omega), e9]
      rfl

/-! words one after another -/
def GrH (h : List AO) (v : AV) (L : List Wd) : Prop := (v = .nils ∧ L = []) ∨ ∃ o c, v = .ms 4 o 0 L.length ∧ h[o]? = some (.cells c false) ∧ c.take (L.length * 4) = L.flatMap Wd.e ∧ L.length * 4 ≤ c.length
theorem gr_app {h : List AO} {v x : AV} {L B : List Wd} (H : GrH h v L) (hx : IsSl 4 Wd.e B x) (hb : (L.length + B.length) * 32 ≤ 1099511627776) : ∃ v' h', appV 0 h 4 32 v x = some (v', h') ∧ GrH h' v' (L ++ B) := by
  by_cases hz : B.length = 0
  · have e : B = [] := List.eq_nil_of_length_eq_zero hz
    subst e
    refine ⟨v, h, ?_, by rw [List.append_nil]; exact H⟩
    have hr : Am.rowOf h x = some [] := rowOf_sl hx h
    have hl : lenOf x = some 0 := lenOf_sl hx
    rcases H with ⟨rfl, _⟩ | ⟨o, c, rfl, _⟩
    · simp only [appV, lenOf_nils, hl, hr, List.length_nil, Nat.zero_mul, if_true]
    · simp only [appV, lenOf_ms, hl, hr, List.length_nil, Nat.zero_mul, if_true]
  · have hr : Am.rowOf h x = some (B.flatMap Wd.e) := rowOf_sl hx h
    have hl : lenOf x = some B.length := lenOf_sl hx
    have fl := flat_len Wd.el B
    rcases H with ⟨rfl, rfl⟩ | ⟨o, c, rfl, ho, ht, hc⟩
    · have ev := appV_nil (lim := 0) (h := h) (esz := 4) (eb := 32) hl hr fl (scal_sl Wd.sc B) (by simpa using hb) (by omega)
      rw [if_neg hz] at ev
      refine ⟨_, _, ev, .inr ⟨h.length, B.flatMap Wd.e, by simp, by rw [atT0]; rfl, ?_, ?_⟩⟩
      · rw [List.nil_append, List.take_of_length_le (by omega)]
      · rw [List.nil_append, fl]; exact Nat.le_refl _
    · refine ⟨.ms 4 h.length 0 (L.length + B.length), h.set o .tomb ++ [.cells (c.take (L.length * 4) ++ B.flatMap Wd.e) false], ?_, .inr ⟨h.length, c.take (L.length * 4) ++ B.flatMap Wd.e, by rw [List.length_append], by rw [show h.length = (h.set o AO.tomb).length by simp, atT0]; rfl, ?_, ?_⟩⟩
      · simp only [appV, lenOf_ms, hl, hr, fl, if_true, hz, if_false, hb, scal_sl Wd.sc B, ho, Nat.zero_le, true_and, and_self, hc, or_true, Nat.le_refl, show (1 : Nat) ≤ 32 from by omega]
      · rw [ht, ← List.flatMap_append, List.take_of_length_le (by rw [flat_len Wd.el]; exact Nat.le_refl _)]
      · rw [ht, ← List.flatMap_append, flat_len Wd.el]; exact Nat.le_refl _
theorem GrH.view {h : List AO} {v : AV} {L : List Wd} (H : GrH h v L) (n : Nat) : ∃ u, (∀ st, Am.view st h (n + 1) v = some u) ∧ IsSl 4 Wd.e L u := by
  rcases H with ⟨rfl, rfl⟩ | ⟨o, c, rfl, ho, ht, hc⟩
  · exact ⟨.nils, fun st => view_nils, .inr ⟨rfl, rfl⟩⟩
  · refine ⟨_, fun st => ?_, .inl rfl⟩
    rw [view_ms, rowOf_ms]
    simp only [Am.rowAt, ho, Option.bind_some, AO.row?, List.drop_zero, ht]
    rw [if_pos (by rw [flat_len Wd.el])]
    simp only [wds_view, Option.map_some]
def apzV (h : List AO) (esz eb : Nat) (zero : List AV) (s x : AV) : Option (AV × List AO) :=
  match s, x with
  | .nils, .int .i64 n => if 1 ≤ n ∧ eb * n ≤ 1099511627776 ∧ 1 ≤ eb then some (.ms esz h.length 0 n.toNat, h ++ [.cells (zeros n.toNat zero) false]) else none
  | _, _ => none
theorem exOp_apz {call : Am.Callee} {lim : Nat} {ρ : Opd → AV} {h : List AO} {esz eb : Nat} {zero : List AV} {s x : Opd} :
    exOp call lim none ρ h (.appendZ esz eb zero s x) = apzV h esz eb zero (ρ s) (ρ x) := by
  simp only [exOp, apzV]
  rfl
theorem apzV_nil {h : List AO} {esz eb : Nat} {zero : List AV} {n : Int} (h1 : 1 ≤ n) (hb : eb * n ≤ 1099511627776) (heb : 1 ≤ eb) : apzV h esz eb zero .nils (I n) = some (.ms esz h.length 0 n.toNat, h ++ [.cells (zeros n.toNat zero) false]) := by
  simp only [apzV, h1, hb, heb, and_self, if_true]
def capV (x : AV) : Option AV := match x with
  | .nils => some (I 0)
  | _ => none
theorem pex_cap {ρ : Opd → AV} {x : Opd} : pex ρ (.capS x) = capV (ρ x) := by
  simp only [pex, capV]
  rfl
theorem capV_n : capV .nils = some (I 0) := rfl
theorem r105 (n : Nat) (hn : n ≤ 1000) : ∃ v K, R E (.fn 105) [.nils, I n] [] 0 = some (v, K) ∧ GrH K v [] := by
  refine R_of (f := 105) (fun v K => GrH K v []) (es _ _ _ _) e105 ?_
  simp only [f105]
  have h0 : ¬ (n : Int) < 0 := by omega
  by_cases hz : n = 0
  · subst hz
    simp (disch := first | assumption | omega | (simp only [az]; done)) only [ru, eq_self, if_true, if_false, BEq.rfl, binI, AO.row?, splice, fillL, mmAll, loadV, storeV, zeros, Am.rowAt, Am.part, addOff, Nat.reduceAdd, Nat.reduceMul, Nat.reduceLeDiff, Nat.reduceSub, Nat.reduceLT, Int.reduceEq, Int.reduceLT, Int.reduceLE, Int.reduceGT, Int.reduceGE, Int.reduceAdd, Int.reduceSub, Int.reduceMul, Int.reduceNeg, Int.reduceToNat, reduceCtorEq, reduceIte, pex_cap, capV_n, Int.sub_self, Int.natCast_zero]
    exact .inl ⟨rfl, rfl⟩
  · have h1 : (n : Int) > 0 := by omega
    have nn : (0 : Int) ≤ ((n : Int).toNat : Int) := by omega
    simp (disch := first | assumption | omega | (simp only [az]; done)) only [ru, eq_self, if_true, if_false, BEq.rfl, binI, AO.row?, splice, fillL, mmAll, loadV, storeV, zeros, Am.rowAt, Am.part, addOff, Nat.reduceAdd, Nat.reduceMul, Nat.reduceLeDiff, Nat.reduceSub, Nat.reduceLT, Int.reduceEq, Int.reduceLT, Int.reduceLE, Int.reduceGT, Int.reduceGE, Int.reduceAdd, Int.reduceSub, Int.reduceMul, Int.reduceNeg, Int.reduceToNat, reduceCtorEq, reduceIte, h0, pex_cap, capV_n, h1, Int.sub_self, Int.sub_zero, pex_slice, sliceV, sliceB, exOp_apz, apzV_nil, nn, or_true, Nat.sub_zero]
    exact .inr ⟨0, _, rfl, rfl, by simp, by simp⟩
/-- slices.Concat of two -/
theorem s89 {A B : List Wd} {u1 u2 : AV} (h1 : IsSl 4 Wd.e A u1) (h2 : IsSl 4 Wd.e B u2) (l1 : A.length ≤ 100) (l2 : B.length ≤ 100) : ∃ v, (∀ st, Iso E 89 [.cs 1 2 [u1, u2]] st = some v) ∧ IsSl 4 Wd.e (A ++ B) v := by
  suffices hR : ∃ r h', R E (.fn 89) [.cs 1 2 [u1, u2]] [] 0 = some (r, h') ∧ GrH h' r (A ++ B) by
    obtain ⟨r, h', hr, hp⟩ := hR
    obtain ⟨u, hv, hu⟩ := hp.view 7
    exact ⟨u, fun st => by simp only [Iso, hr]; exact hv st, hu⟩
  obtain ⟨v, K, hr, G⟩ := r105 (A.length + B.length) (by omega)
  have q : ∀ {lim : Nat} {ρ : Opd → AV} {x y : Opd}, ρ x = .nils → ρ y = I ((A.length : Int) + B.length) → exOp (R E) lim none ρ [] (.call 2 105 [x, y]) = some (v.shift 0, K.map (AO.shift 0)) := by
    intro lim ρ x y hx hy
    have e : AV.pureV.go [AV.nils, I ((A.length : Int) + B.length)] = true := rfl
    have hr' : R E (.fn 105) [.nils, I ((A.length : Int) + B.length)] [] 0 = some (v, K) := hr
    simp only [exOp, List.map_cons, List.map_nil, hx, hy, e, if_true, hr']
    rfl
  have G0 : GrH (K.map (AO.shift 0)) (v.shift 0) [] := by
    rcases G with ⟨rfl, _⟩ | ⟨o, c, rfl, ho, ht, hc⟩
    · exact .inl ⟨rfl, rfl⟩
    · exact .inr ⟨o, c.map (AV.shift 0), rfl, by rw [List.getElem?_map, ho]; rfl, by simp, by simp⟩
  obtain ⟨v1, K1, a1, G1⟩ := gr_app G0 h1 (by simp; omega)
  obtain ⟨v2, K2, a2, G2⟩ := gr_app G1 h2 (by simp; omega)
  obtain ⟨v0, hv0⟩ : ∃ v0, v0 = v.shift 0 := ⟨_, rfl⟩
  obtain ⟨K0, hK0⟩ : ∃ K0, K0 = K.map (AO.shift 0) := ⟨_, rfl⟩
  rw [← hv0, ← hK0] at a1
  simp only [← hv0, ← hK0] at q
  have w1 : wr .i64 (0 + (A.length : Int)) = A.length := by rw [Int.zero_add]; exact wr64 (by omega) (by omega)
  have w2 : wr .i64 ((A.length : Int) + B.length) = (A.length : Int) + B.length := wr64 (by omega) (by omega)
  have n1 : ¬ (A.length : Int) < 0 := by omega
  have n2 : ¬ (A.length : Int) + B.length < 0 := by omega
  have lS : lenV (.cs 1 2 [u1, u2]) = some (I 2) := rfl
  have eS0 : elemAt 1 (.cs 1 2 [u1, u2]) (I 0) = some (.cptr [u1]) := rfl
  have eS1 : elemAt 1 (.cs 1 2 [u1, u2]) (I 1) = some (.cptr [u2]) := rfl
  refine R_of (f := 89) (fun r h' => GrH h' r (A ++ B)) (es _ _ _ _) e89 ?_
  simp only [f89]
  obtain ⟨S, hS⟩ : ∃ S, S = AV.cs 1 2 [u1, u2] := ⟨_, rfl⟩
  rw [← hS] at lS eS0 eS1
  rw [← hS]
  simp (disch := first | assumption | omega | (simp only [az]; done)) only [ru, eq_self, if_true, if_false, BEq.rfl, binI, AO.row?, splice, fillL, mmAll, loadV, storeV, zeros, Am.rowAt, Am.part, addOff, Nat.reduceAdd, Nat.reduceMul, Nat.reduceLeDiff, Nat.reduceSub, Nat.reduceLT, Int.reduceEq, Int.reduceLT, Int.reduceLE, Int.reduceGT, Int.reduceGE, Int.reduceAdd, Int.reduceSub, Int.reduceMul, Int.reduceNeg, Int.reduceToNat, reduceCtorEq, reduceIte, lS]
  rw [G_loop]
  simp (disch := first | assumption | omega | (simp only [az]; done)) only [ru, eq_self, if_true, if_false, BEq.rfl, binI, AO.row?, splice, fillL, mmAll, loadV, storeV, zeros, Am.rowAt, Am.part, addOff, Nat.reduceAdd, Nat.reduceMul, Nat.reduceLeDiff, Nat.reduceSub, Nat.reduceLT, Int.reduceEq, Int.reduceLT, Int.reduceLE, Int.reduceGT, Int.reduceGE, Int.reduceAdd, Int.reduceSub, Int.reduceMul, Int.reduceNeg, Int.reduceToNat, reduceCtorEq, reduceIte, lS, eS0, lenV_sl h1, w1, n1]
  rw [G_loop]
  simp (disch := first | assumption | omega | (simp only [az]; done)) only [ru, eq_self, if_true, if_false, BEq.rfl, binI, AO.row?, splice, fillL, mmAll, loadV, storeV, zeros, Am.rowAt, Am.part, addOff, Nat.reduceAdd, Nat.reduceMul, Nat.reduceLeDiff, Nat.reduceSub, Nat.reduceLT, Int.reduceEq, Int.reduceLT, Int.reduceLE, Int.reduceGT, Int.reduceGE, Int.reduceAdd, Int.reduceSub, Int.reduceMul, Int.reduceNeg, Int.reduceToNat, reduceCtorEq, reduceIte, lS, eS1, lenV_sl h2, w2, n2]
  rw [G_loop]
  simp (disch := first | assumption | omega | (simp only [az]; done)) only [ru, eq_self, if_true, if_false, BEq.rfl, binI, AO.row?, splice, fillL, mmAll, loadV, storeV, zeros, Am.rowAt, Am.part, addOff, Nat.reduceAdd, Nat.reduceMul, Nat.reduceLeDiff, Nat.reduceSub, Nat.reduceLT, Int.reduceEq, Int.reduceLT, Int.reduceLE, Int.reduceGT, Int.reduceGE, Int.reduceAdd, Int.reduceSub, Int.reduceMul, Int.reduceNeg, Int.reduceToNat, reduceCtorEq, reduceIte, lS]
  rw [q rfl rfl]
  simp (disch := first | assumption | omega | (simp only [az]; done)) only [ru, eq_self, if_true, if_false, BEq.rfl, binI, AO.row?, splice, fillL, mmAll, loadV, storeV, zeros, Am.rowAt, Am.part, addOff, Nat.reduceAdd, Nat.reduceMul, Nat.reduceLeDiff, Nat.reduceSub, Nat.reduceLT, Int.reduceEq, Int.reduceLT, Int.reduceLE, Int.reduceGT, Int.reduceGE, Int.reduceAdd, Int.reduceSub, Int.reduceMul, Int.reduceNeg, Int.reduceToNat, reduceCtorEq, reduceIte, lS]
  rw [G_loop]
  simp (disch := first | assumption | omega | (simp only [az]; done)) only [ru, eq_self, if_true, if_false, BEq.rfl, binI, AO.row?, splice, fillL, mmAll, loadV, storeV, zeros, Am.rowAt, Am.part, addOff, Nat.reduceAdd, Nat.reduceMul, Nat.reduceLeDiff, Nat.reduceSub, Nat.reduceLT, Int.reduceEq, Int.reduceLT, Int.reduceLE, Int.reduceGT, Int.reduceGE, Int.reduceAdd, Int.reduceSub, Int.reduceMul, Int.reduceNeg, Int.reduceToNat, reduceCtorEq, reduceIte, lS, eS0, a1]
  rw [G_loop]
  simp (disch := first | assumption | omega | (simp only [az]; done)) only [ru, eq_self, if_true, if_false, BEq.rfl, binI, AO.row?, splice, fillL, mmAll, loadV, storeV, zeros, Am.rowAt, Am.part, addOff, Nat.reduceAdd, Nat.reduceMul, Nat.reduceLeDiff, Nat.reduceSub, Nat.reduceLT, Int.reduceEq, Int.reduceLT, Int.reduceLE, Int.reduceGT, Int.reduceGE, Int.reduceAdd, Int.reduceSub, Int.reduceMul, Int.reduceNeg, Int.reduceToNat, reduceCtorEq, reduceIte, lS, eS1, a2]
  rw [G_loop]
  simp (disch := first | assumption | omega | (simp only [az]; done)) only [ru, eq_self, if_true, if_false, BEq.rfl, binI, AO.row?, splice, fillL, mmAll, loadV, storeV, zeros, Am.rowAt, Am.part, addOff, Nat.reduceAdd, Nat.reduceMul, Nat.reduceLeDiff, Nat.reduceSub, Nat.reduceLT, Int.reduceEq, Int.reduceLT, Int.reduceLE, Int.reduceGT, Int.reduceGE, Int.reduceAdd, Int.reduceSub, Int.reduceMul, Int.reduceNeg, Int.reduceToNat, reduceCtorEq, reduceIte, lS]
  exact G2
end Go.Proofs.Ytjaaefdhdggnkaa.S

/-
What the program answers: Idle.
-/
namespace Go.Proofs.Ytjaaefdhdggnkaa.S
open Go Go.Am Go.Proofs.Ytjaaefdhdggnkaa.T
set_option maxRecDepth 100000
set_option linter.unusedSimpArgs false
set_option linter.unusedVariables false

/-- does a word say nothing more? -/
noncomputable def idleB (t : Trap) (k : Nat) : Bool := @decide (∀ x, Tr (t.del k) x → saysW t.C x (t.ws.getD k default)) (Classical.propDecidable _)
theorem idleB_iff {t : Trap} {k : Nat} : idleB t k = true ↔ ∀ x, Tr (t.del k) x → saysW t.C x (t.ws.getD k default) := by
  unfold idleB
  exact @decide_eq_true_iff _ (Classical.propDecidable _)
noncomputable def idleU (t : Trap) (n : Nat) : List Int := List.map (fun k : Nat => (k : Int)) ((List.range n).filter (idleB t))
noncomputable def idleL (t : Trap) : List Int := idleU t t.ws.length
theorem idleU_succ {t : Trap} {n : Nat} : idleU t (n + 1) = idleU t n ++ (if idleB t n then [(n : Int)] else []) := by
  unfold idleU
  rw [List.range_succ, List.filter_append, List.map_append]
  congr 1
  by_cases h : idleB t n = true
  · rw [if_pos h, List.filter_cons_of_pos h]; rfl
  · rw [if_neg h, List.filter_cons_of_neg h]; rfl
theorem idleU_len {t : Trap} {n : Nat} : (idleU t n).length ≤ n := by
  unfold idleU
  rw [List.length_map]
  have := List.length_filter_le (idleB t) (List.range n)
  rwa [List.length_range] at this
/-- a list of numbers that is made by appends -/
def LiN (h : List AO) (v : AV) (L : List Int) : Prop := (L = [] ∧ v = .nils) ∨ (L ≠ [] ∧ ∃ p, v = .ms 1 p 0 L.length ∧ h[p]? = some (.cells (L.flatMap intL) false))
theorem LiN.fr {h h' : List AO} {v : AV} {L : List Int} (H : LiN h v L) (hf : ∀ k, k < h.length → h'[k]? = h[k]?) : LiN h' v L := by
  rcases H with H | ⟨h0, p, e, hp⟩
  · exact .inl H
  · exact .inr ⟨h0, p, e, by rw [hf p (List.getElem?_eq_some_iff.1 hp).1]; exact hp⟩
theorem LiN.view {h : List AO} {v : AV} {L : List Int} (H : LiN h v L) (n : Nat) : ∃ u, (∀ st, Am.view st h (n + 1) v = some u) ∧ IsSl 1 intL L u := by
  rcases H with ⟨rfl, rfl⟩ | ⟨h0, p, rfl, hp⟩
  · exact ⟨.nils, fun st => view_nils, .inr ⟨rfl, rfl⟩⟩
  · refine ⟨_, fun st => ?_, .inl rfl⟩
    rw [view_ms, rowOf_ms]
    simp only [Am.rowAt, hp, Option.bind_some, AO.row?, List.drop_zero]
    rw [List.take_of_length_le (by rw [flat1]; omega), if_pos (by rw [flat1]; omega)]
    simp only [ints_view, Option.map_some]
/-- one number more -/
theorem liN_app {h : List AO} {v : AV} {L : List Int} (H : LiN h v L) (n : Int) (hb : (L.length + 1) * 8 ≤ 1099511627776) : ∃ v' h', appV 0 h 1 8 v (.cs 1 1 [I n]) = some (v', h') ∧ LiN h' v' (L ++ [n]) ∧ h.length ≤ h'.length ∧ ∀ k, k < h.length → (∀ p, v = .ms 1 p 0 L.length → k ≠ p) → h'[k]? = h[k]? := by
  have hr : Am.rowOf h (.cs 1 1 [I n]) = some [I n] := rfl
  rcases H with ⟨rfl, rfl⟩ | ⟨h0, p, rfl, hp⟩
  · have ev := appV_nil (lim := 0) (h := h) (esz := 1) (eb := 8) (n := 1) (x := .cs 1 1 [I n]) rfl hr rfl rfl (by omega) (by omega)
    rw [if_neg (by omega)] at ev
    exact ⟨_, _, ev, .inr ⟨by simp, h.length, rfl, by rw [atT0]; rfl⟩, by simp, fun k hk _ => at_ap hk⟩
  · have ev := appV_ms (lim := 0) (esz := 1) (eb := 8) (n := 1) (len := L.length) (x := .cs 1 1 [I n]) hp (by rw [flat1]; omega) rfl hr rfl rfl hb (by omega) (Nat.zero_le _)
    rw [if_neg (by omega)] at ev
    refine ⟨_, _, ev, .inr ⟨by simp, h.length, by simp, ?_⟩, by simp, fun k hk hn => ?_⟩
    · rw [show h.length = (h.set p AO.tomb).length by simp, atT0, List.flatMap_append]; rfl
    · rw [at_ap (by simp; omega), List.getElem?_set_ne (fun e => hn p rfl e.symm)]

inductive IdA (t : Trap) : AV → Int → Prop
  | bad (h : t.valid = false) : IdA t .nils 10
  | none (h : t.valid = true) (hn : ¬ Solv t.C t.T t) : IdA t .nils 3
  | ok {v : AV} (h : t.valid = true) (hs : Solv t.C t.T t) (hi : IsSl 1 intL (idleL t) v) : IdA t v 0

theorem del_ok {t : Trap} {o w : AV} (H : TrOk t o w) {k : Nat} {u : AV} (hu : IsSl 4 Wd.e (t.del k).ws u) : TrOk (t.del k) o u := by
  have := H.sw
  exact ⟨H.o, hu, H.so, by simp [Trap.del]; omega, H.sl⟩
theorem del_solv {t : Trap} {k : Nat} (hk : k < t.ws.length) (hs : Solv t.C t.T t) : Solv (t.del k).C (t.del k).T (t.del k) := by
  obtain ⟨x, hx⟩ := solv_tr.1 hs
  exact solv_tr.2 ⟨x, ((tr_del hk).1 hx).1⟩
theorem fit_getD {t : Trap} (V : TrB t) {k : Nat} (hk : k < t.ws.length) : fitB t (t.ws.getD k default) = true := V.fw _ (mem_getD hk)

set_option maxHeartbeats 2000000 in
theorem s50 {t : Trap} {o w : AV} (H : TrOk t o w) : ∃ v e, (∀ st, Iso E 50 [trV t o w] st = some (.tup [v, I e])) ∧ IdA t v e := by
  obtain ⟨p, e, K, q, hs⟩ := call73 H true [.cells [I t.ch, I t.tm, o, w] false]
  simp only [trV] at q ⊢
  cases hs with
  | bad hv =>
    refine ⟨.nils, 10, fun st => ?_, .bad hv⟩
    refine Iso_of (es _ _ _ _) e50 ?_
    simp only [f50]
    simp (disch := first | assumption | omega | (simp only [az]; done)) only [ru, eq_self, if_true, if_false, BEq.rfl, binI, AO.row?, splice, fillL, mmAll, loadV, storeV, zeros, Am.rowAt, Am.part, addOff, Nat.reduceAdd, Nat.reduceMul, Nat.reduceLeDiff, Nat.reduceSub, Nat.reduceLT, Int.reduceEq, Int.reduceLT, Int.reduceLE, Int.reduceGT, Int.reduceGE, Int.reduceAdd, Int.reduceSub, Int.reduceMul, Int.reduceNeg, Int.reduceToNat, reduceCtorEq, reduceIte, lenV_sl H.o, lenV_sl H.w, elem_sl Ls.el H.o, elem_sl Wd.el H.w, view_sl H.o, view_sl H.w, scalar_sl H.o, scalar_sl H.w, cells_sl H.o, cells_sl H.w, pure_sl H.o, pure_sl H.w, Int.toNat_natCast]
    rw [q rfl rfl]
    simp (disch := first | assumption | omega | (simp only [az]; done)) only [ru, eq_self, if_true, if_false, BEq.rfl, binI, AO.row?, splice, fillL, mmAll, loadV, storeV, zeros, Am.rowAt, Am.part, addOff, Nat.reduceAdd, Nat.reduceMul, Nat.reduceLeDiff, Nat.reduceSub, Nat.reduceLT, Int.reduceEq, Int.reduceLT, Int.reduceLE, Int.reduceGT, Int.reduceGE, Int.reduceAdd, Int.reduceSub, Int.reduceMul, Int.reduceNeg, Int.reduceToNat, reduceCtorEq, reduceIte, lenV_sl H.o, lenV_sl H.w, elem_sl Ls.el H.o, elem_sl Wd.el H.w, view_sl H.o, view_sl H.w, scalar_sl H.o, scalar_sl H.w, cells_sl H.o, cells_sl H.w, pure_sl H.o, pure_sl H.w, Int.toNat_natCast, List.cons_append, List.nil_append]
  | arg hv hf => cases hf
  | none hv hf hn =>
    refine ⟨.nils, 3, fun st => ?_, .none hv hn⟩
    refine Iso_of (es _ _ _ _) e50 ?_
    simp only [f50]
    simp (disch := first | assumption | omega | (simp only [az]; done)) only [ru, eq_self, if_true, if_false, BEq.rfl, binI, AO.row?, splice, fillL, mmAll, loadV, storeV, zeros, Am.rowAt, Am.part, addOff, Nat.reduceAdd, Nat.reduceMul, Nat.reduceLeDiff, Nat.reduceSub, Nat.reduceLT, Int.reduceEq, Int.reduceLT, Int.reduceLE, Int.reduceGT, Int.reduceGE, Int.reduceAdd, Int.reduceSub, Int.reduceMul, Int.reduceNeg, Int.reduceToNat, reduceCtorEq, reduceIte, lenV_sl H.o, lenV_sl H.w, elem_sl Ls.el H.o, elem_sl Wd.el H.w, view_sl H.o, view_sl H.w, scalar_sl H.o, scalar_sl H.w, cells_sl H.o, cells_sl H.w, pure_sl H.o, pure_sl H.w, Int.toNat_natCast]
    rw [q rfl rfl]
    simp (disch := first | assumption | omega | (simp only [az]; done)) only [ru, eq_self, if_true, if_false, BEq.rfl, binI, AO.row?, splice, fillL, mmAll, loadV, storeV, zeros, Am.rowAt, Am.part, addOff, Nat.reduceAdd, Nat.reduceMul, Nat.reduceLeDiff, Nat.reduceSub, Nat.reduceLT, Int.reduceEq, Int.reduceLT, Int.reduceLE, Int.reduceGT, Int.reduceGE, Int.reduceAdd, Int.reduceSub, Int.reduceMul, Int.reduceNeg, Int.reduceToNat, reduceCtorEq, reduceIte, lenV_sl H.o, lenV_sl H.w, elem_sl Ls.el H.o, elem_sl Wd.el H.w, view_sl H.o, view_sl H.w, scalar_sl H.o, scalar_sl H.w, cells_sl H.o, cells_sl H.w, pure_sl H.o, pure_sl H.w, Int.toNat_natCast, List.cons_append, List.nil_append]
  | @ok B hv hf hk hB hs =>
    have V := valid_trb hv
    have h8 := valid_w8 hv
    have eC := eqC hv; have eT := eqT hv
    have sv := hs.solv hB
    suffices hR : ∃ r h', R E (.fn 50) [.agg [I t.ch, I t.tm, o, w]] [] 0 = some (r, h') ∧ ∃ v, r = .tup [v, I 0] ∧ LiN h' v (idleL t) by
      obtain ⟨r, h', hr, v, rfl, hp⟩ := hR
      obtain ⟨u, hu, iu⟩ := hp.view 6
      refine ⟨u, 0, fun st => ?_, .ok hv sv iu⟩
      simp only [Iso, hr]
      show (([v, I 0].mapM (view st h' 7)).map AV.tup) = _
      simp only [List.mapM_cons, List.mapM_nil, hu st, view_int]
      rfl
    refine R_of (f := 50) (fun r h' => ∃ v, r = .tup [v, I 0] ∧ LiN h' v (idleL t)) (es _ _ _ _) e50 ?_
    simp only [f50]
    simp (disch := first | assumption | omega | (simp only [az]; done)) only [ru, eq_self, if_true, if_false, BEq.rfl, binI, AO.row?, splice, fillL, mmAll, loadV, storeV, zeros, Am.rowAt, Am.part, addOff, Nat.reduceAdd, Nat.reduceMul, Nat.reduceLeDiff, Nat.reduceSub, Nat.reduceLT, Int.reduceEq, Int.reduceLT, Int.reduceLE, Int.reduceGT, Int.reduceGE, Int.reduceAdd, Int.reduceSub, Int.reduceMul, Int.reduceNeg, Int.reduceToNat, reduceCtorEq, reduceIte, lenV_sl H.o, lenV_sl H.w, elem_sl Ls.el H.o, elem_sl Wd.el H.w, view_sl H.o, view_sl H.w, scalar_sl H.o, scalar_sl H.w, cells_sl H.o, cells_sl H.w, pure_sl H.o, pure_sl H.w, Int.toNat_natCast]
    rw [q rfl rfl]
    simp (disch := first | assumption | omega | (simp only [az]; done)) only [ru, eq_self, if_true, if_false, BEq.rfl, binI, AO.row?, splice, fillL, mmAll, loadV, storeV, zeros, Am.rowAt, Am.part, addOff, Nat.reduceAdd, Nat.reduceMul, Nat.reduceLeDiff, Nat.reduceSub, Nat.reduceLT, Int.reduceEq, Int.reduceLT, Int.reduceLE, Int.reduceGT, Int.reduceGE, Int.reduceAdd, Int.reduceSub, Int.reduceMul, Int.reduceNeg, Int.reduceToNat, reduceCtorEq, reduceIte, lenV_sl H.o, lenV_sl H.w, elem_sl Ls.el H.o, elem_sl Wd.el H.w, view_sl H.o, view_sl H.w, scalar_sl H.o, scalar_sl H.w, cells_sl H.o, cells_sl H.w, pure_sl H.o, pure_sl H.w, Int.toNat_natCast, List.cons_append, List.nil_append]
    refine G_loop_ind (fun z ts hk mk => ∃ (i : Nat) (v : AV), i ≤ t.ws.length ∧ z = t.ws.length - i ∧ ts.length = 59 ∧ ts.getD 1 .undef = .ptr 0 0 ∧ ts.getD 6 .undef = v ∧ ts.getD 21 .undef = w ∧ ts.getD 22 .undef = I t.ws.length ∧ ts.getD 23 .undef = I i ∧
      1 ≤ hk.length ∧ hk[0]? = some (.cells [I t.ch, I t.tm, o, w] false) ∧ LiN hk v (idleU t i) ∧ mk = []) ?_ _ _ _ _
      ⟨0, .nils, Nat.zero_le _, rfl, rfl, rfl, rfl, rfl, rfl, rfl, by simp, rfl, .inl ⟨by simp [idleU], rfl⟩, rfl⟩
    rintro z ts hk mk ih ⟨i, v, hi, rfl, hl, q1, q6, q21, q22, q23, hg, k0, HL, rfl⟩
    rw [lit_all hl]
    simp only [lit0, litS, Nat.reduceAdd, q1, q6, q21, q22, q23]
    simp (disch := first | assumption | omega | (simp only [az]; done)) only [ru, eq_self, if_true, if_false, BEq.rfl, binI, AO.row?, splice, fillL, mmAll, loadV, storeV, zeros, Am.rowAt, Am.part, addOff, Nat.reduceAdd, Nat.reduceMul, Nat.reduceLeDiff, Nat.reduceSub, Nat.reduceLT, Int.reduceEq, Int.reduceLT, Int.reduceLE, Int.reduceGT, Int.reduceGE, Int.reduceAdd, Int.reduceSub, Int.reduceMul, Int.reduceNeg, Int.reduceToNat, reduceCtorEq, reduceIte, k0]
    by_cases hlt : (i : Int) < t.ws.length
    case neg =>
      have hi3 : i = t.ws.length := by omega
      subst hi3
      simp (disch := first | assumption | omega | (simp only [az]; done)) only [ru, eq_self, if_true, if_false, BEq.rfl, binI, AO.row?, splice, fillL, mmAll, loadV, storeV, zeros, Am.rowAt, Am.part, addOff, Nat.reduceAdd, Nat.reduceMul, Nat.reduceLeDiff, Nat.reduceSub, Nat.reduceLT, Int.reduceEq, Int.reduceLT, Int.reduceLE, Int.reduceGT, Int.reduceGE, Int.reduceAdd, Int.reduceSub, Int.reduceMul, Int.reduceNeg, Int.reduceToNat, reduceCtorEq, reduceIte, hlt]
      exact ⟨v, rfl, HL⟩
    have hi2 : i < t.ws.length := by omega
    have i0 : (0 : Int) ≤ i := by omega
    have kJ : ∀ J, (hk ++ J)[0]? = some (.cells [I t.ch, I t.tm, o, w] false) := fun J => by rw [at_ap (by omega)]; exact k0
    refine (slice_lo Wd.el H.w (k := i) (by omega)).elim fun u1 hh => ?_
    have su1 := hh.1
    have iu1 := hh.2
    clear hh
    refine (slice_hi Wd.el H.w (k := i + 1) (by omega)).elim fun u2 hh => ?_
    have su2 : sliceV 4 w (some (I ((i : Int) + 1))) none = some u2 := hh.1
    have iu2 := hh.2
    clear hh
    refine (s89 iu1 iu2 (by rw [List.length_take]; omega) (by rw [List.length_drop]; omega)).elim fun u3 hh => ?_
    have c89 := hh.1
    have iu3 : IsSl 4 Wd.e (t.del i).ws u3 := hh.2
    clear hh
    obtain ⟨y, hy⟩ : ∃ y, y = t.ws.getD i default := ⟨_, rfl⟩
    have hyf : fitB t y = true := by rw [hy]; exact fit_getD V hi2
    have HD := del_ok H iu3
    obtain ⟨G1, hG1⟩ : ∃ G1 : List AO, G1 = hk ++ [AO.cells [I y.time, I y.ch, I y.lo, I y.hi] false, AO.cells [I t.ch, I t.tm, o, u3] false] := ⟨_, rfl⟩
    refine (call90 HD (del_trb V) (C := t.C) (T := t.T) eC eT G1).elim fun b hh => hh.elim fun B' hh => hh.elim fun K' hh => ?_
    have q90 : ∀ {lim : Nat} {ρ : Opd → AV} {x : Opd}, ρ x = .agg [I t.ch, I t.tm, o, u3] → exOp (R E) lim none ρ G1 (.call 2 90 [x]) = some (.tup [.ptr (1 + G1.length) 0, Bo b], G1 ++ K') := fun h => hh.1 h
    have k90 := hh.2.1
    have B90 := hh.2.2.1
    have y90 := hh.2.2.2.1
    have n90 := hh.2.2.2.2
    clear hh
    simp (disch := first | assumption | omega | (simp only [az]; done)) only [ru, eq_self, if_true, if_false, BEq.rfl, binI, AO.row?, splice, fillL, mmAll, loadV, storeV, zeros, Am.rowAt, Am.part, addOff, Nat.reduceAdd, Nat.reduceMul, Nat.reduceLeDiff, Nat.reduceSub, Nat.reduceLT, Int.reduceEq, Int.reduceLT, Int.reduceLE, Int.reduceGT, Int.reduceGE, Int.reduceAdd, Int.reduceSub, Int.reduceMul, Int.reduceNeg, Int.reduceToNat, reduceCtorEq, reduceIte, lenV_sl H.o, lenV_sl H.w, elem_sl Ls.el H.o, elem_sl Wd.el H.w, view_sl H.o, view_sl H.w, scalar_sl H.o, scalar_sl H.w, cells_sl H.o, cells_sl H.w, pure_sl H.o, pure_sl H.w, Int.toNat_natCast, lenV_sl iu1, elem_sl Wd.el iu1, view_sl iu1, scalar_sl iu1, cells_sl iu1, pure_sl iu1, lenV_sl iu2, elem_sl Wd.el iu2, view_sl iu2, scalar_sl iu2, cells_sl iu2, pure_sl iu2, lenV_sl iu3, elem_sl Wd.el iu3, view_sl iu3, scalar_sl iu3, cells_sl iu3, pure_sl iu3, kJ, k0, hlt, i0, ← hy, Wd.e, pex_slice, su1, su2, c89, List.append_assoc, List.cons_append, List.nil_append, lenE, setT, setT0, atT, atT0, getT, getT0, Nat.add_assoc]
    rw [← hG1, q90 rfl]
    cases b
    · exact absurd (del_solv hi2 sv) (n90 rfl)
    refine (s80 (t := t.del i) HD (del_trb V) (h := G1 ++ K') k90 B90 (y90 rfl) (y := y) hyf).elim fun r hh => ?_
    have c80 := hh.1 []
    have J80 := hh.2
    clear hh
    obtain ⟨G2, hG2⟩ : ∃ G2 : List AO, G2 = G1 ++ K' := ⟨_, rfl⟩
    rw [← hG2] at c80 ⊢
    rw [List.append_nil] at c80
    have l1 : G1.length = hk.length + 2 := by rw [hG1]; simp
    have g2k : ∀ k, k < hk.length → G2[k]? = hk[k]? := fun k hk' => by rw [hG2, at_ap (by omega), hG1, at_ap hk']
    have g2y : G2[hk.length]? = some (.cells [I y.time, I y.ch, I y.lo, I y.hi] false) := by rw [hG2, at_ap (by omega), hG1, atT0]; rfl
    have g2l : hk.length ≤ G2.length := by rw [hG2, List.length_append]; omega
    have g20 : G2[0]? = some (.cells [I t.ch, I t.tm, o, w] false) := by rw [g2k 0 (by omega)]; exact k0
    have HL2 : LiN G2 v (idleU t i) := HL.fr g2k
    have lu : (idleU t i).length ≤ i := idleU_len
    have eD : ∀ x, saysW t.C x y ↔ saysW t.C x (t.ws.getD i default) := fun x => by rw [hy]
    simp only [Wd.e] at c80
    by_cases e1 : r = 1
    · have idl : idleB t i = true := by
        rw [idleB_iff]
        rcases J80 with ⟨_, h⟩ | ⟨h, _⟩ | ⟨h, _⟩
        · exact fun x hx => (eD x).1 (h x hx)
        · omega
        · omega
      subst e1
      refine (liN_app HL2 (i : Int) (by omega)).elim fun v' hh => hh.elim fun h' hh => ?_
      have a1 := hh.1
      have a2 := hh.2.1
      have a3 := hh.2.2.1
      have a4 := hh.2.2.2
      clear hh
      simp (disch := first | assumption | omega | (simp only [az]; done)) only [ru, eq_self, if_true, if_false, BEq.rfl, binI, AO.row?, splice, fillL, mmAll, loadV, storeV, zeros, Am.rowAt, Am.part, addOff, Nat.reduceAdd, Nat.reduceMul, Nat.reduceLeDiff, Nat.reduceSub, Nat.reduceLT, Int.reduceEq, Int.reduceLT, Int.reduceLE, Int.reduceGT, Int.reduceGE, Int.reduceAdd, Int.reduceSub, Int.reduceMul, Int.reduceNeg, Int.reduceToNat, reduceCtorEq, reduceIte, g2y, c80, a1]
      refine ih (t.ws.length - (i + 1)) _ _ _ (by omega) ⟨i + 1, v', by omega, rfl, rfl, rfl, rfl, rfl, rfl, rfl, by omega, ?_, ?_, rfl⟩
      · rw [a4 0 (by omega) fun p hp e => ?_]
        · exact g20
        · subst e
          rcases HL with ⟨_, rfl⟩ | ⟨h0, p', e', hp'⟩
          · cases hp
          · rw [e'] at hp
            cases hp
            rw [k0] at hp'
            simp only [Option.some.injEq, AO.cells.injEq, and_true] at hp'
            have h4 := congrArg List.length hp'
            rw [flat1] at h4
            have h5 := congrArg (fun l : List AV => l.getD 2 .undef) hp'
            have h6 : (idleU t i).length = 4 := h4.symm
            obtain ⟨a, b, c, d, e4⟩ : ∃ a b c d, idleU t i = [a, b, c, d] := by
              match hL : idleU t i, h6 with
              | [a, b, c, d], _ => exact ⟨a, b, c, d, rfl⟩
            rw [e4] at h5
            have h7 : o = I c := h5
            have := H.o
            rw [h7] at this
            rcases this with h | ⟨h, _⟩ <;> cases h
      · rw [idleU_succ, if_pos idl]; exact a2
    · have idl : idleB t i = false := by
        rw [Bool.eq_false_iff]
        intro h
        rw [idleB_iff] at h
        rcases J80 with ⟨h1, _⟩ | ⟨_, h1⟩ | ⟨_, _, x, h1, h2⟩
        · exact e1 h1
        · obtain ⟨x, hx⟩ := solv_tr.1 (del_solv hi2 sv)
          exact h1 x hx ((eD x).2 (h x hx))
        · exact h2 ((eD x).2 (h x h1))
      have ne : (r == 1) = false := by simpa using e1
      simp (disch := first | assumption | omega | (simp only [az]; done)) only [ru, eq_self, if_true, if_false, BEq.rfl, binI, AO.row?, splice, fillL, mmAll, loadV, storeV, zeros, Am.rowAt, Am.part, addOff, Nat.reduceAdd, Nat.reduceMul, Nat.reduceLeDiff, Nat.reduceSub, Nat.reduceLT, Int.reduceEq, Int.reduceLT, Int.reduceLE, Int.reduceGT, Int.reduceGE, Int.reduceAdd, Int.reduceSub, Int.reduceMul, Int.reduceNeg, Int.reduceToNat, reduceCtorEq, reduceIte, g2y, c80, ne, e1]
      refine ih (t.ws.length - (i + 1)) _ _ _ (by omega) ⟨i + 1, v, by omega, rfl, rfl, rfl, rfl, rfl, rfl, rfl, by omega, g20, ?_, rfl⟩
      rw [idleU_succ, if_neg (by rw [idl]; simp), List.append_nil]; exact HL2
end Go.Proofs.Ytjaaefdhdggnkaa.S

/-
The law of the idle words.
-/
namespace Go.Proofs.Ytjaaefdhdggnkaa.S
open Go Go.Am Go.Proofs.Ytjaaefdhdggnkaa.T
set_option maxRecDepth 100000
set_option linter.unusedSimpArgs false
set_option linter.unusedVariables false

theorem hasI_iff {l : List Int} {n : Int} : hasI l n = true ↔ n ∈ l := by
  unfold hasI
  rw [List.any_eq_true]
  constructor
  · rintro ⟨i, hi, he⟩
    rw [List.mem_range] at hi
    rw [List.getD_eq_getElem?_getD, List.getElem?_eq_getElem hi, Option.getD_some, beq_iff_eq] at he
    rw [← he]; exact List.getElem_mem hi
  · intro h
    obtain ⟨i, hi, he⟩ := List.mem_iff_getElem.1 h
    exact ⟨i, List.mem_range.2 hi, by rw [List.getD_eq_getElem?_getD, List.getElem?_eq_getElem hi, Option.getD_some, beq_iff_eq]; exact he⟩
theorem idle_has {t : Trap} {k : Nat} (hk : k < t.ws.length) : hasI (idleL t) k = idleB t k := by
  rw [Bool.eq_iff_iff, hasI_iff]
  unfold idleL idleU
  rw [List.mem_map]
  constructor
  · rintro ⟨a, ha, e⟩
    have : a = k := by omega
    subst this
    exact (List.mem_filter.1 ha).2
  · intro h
    exact ⟨k, List.mem_filter.2 ⟨List.mem_range.2 hk, h⟩, rfl⟩
theorem idle_ris {t : Trap} : ((List.range (idleL t).length).all fun i => risR (idleL t) 0 ((t.ws.length : Int) - 1) i) = true := by
  have hp : (idleL t).Pairwise (· < ·) := by
    unfold idleL idleU
    rw [List.pairwise_map]
    refine List.Pairwise.imp (fun {a b} h => ?_) (List.Pairwise.filter (idleB t) List.pairwise_lt_range)
    omega
  have hm : ∀ n ∈ idleL t, 0 ≤ n ∧ n ≤ (t.ws.length : Int) - 1 := by
    intro n hn
    unfold idleL idleU at hn
    obtain ⟨a, ha, rfl⟩ := List.mem_map.1 hn
    have := List.mem_range.1 (List.mem_filter.1 ha).1
    omega
  rw [List.all_eq_true]
  intro i hi
  rw [List.mem_range] at hi
  rw [ris_iff]
  have e1 : (idleL t).getD i 0 = (idleL t)[i] := by rw [List.getD_eq_getElem?_getD, List.getElem?_eq_getElem hi, Option.getD_some]
  refine ⟨by rw [e1]; exact hm _ (List.getElem_mem hi), fun h0 => ?_⟩
  have hi' : i - 1 < (idleL t).length := by omega
  have e2 : (idleL t).getD (i - 1) 0 = (idleL t)[i - 1] := by rw [List.getD_eq_getElem?_getD, List.getElem?_eq_getElem hi', Option.getD_some]
  rw [e1, e2]
  exact List.pairwise_iff_getElem.1 hp (i - 1) i hi' hi (by omega)
theorem del_valid {t : Trap} (hv : t.valid = true) {k : Nat} (hk : k < t.ws.length) : (t.del k).valid = true := by
  have h8 := valid_w8 hv
  have := del_len hk
  exact trb_valid (del_trb (valid_trb hv)) (by omega)

set_option maxHeartbeats 2000000 in
theorem s10 {t : Trap} {o w : AV} (H0 : TrIn t o w) (a : Int) : Iso E 10 [trV t o w, I a] false = some (Bo true) := by
  have ho := H0.o
  have hw := H0.w
  have c16 := fun st => s16 H0 st
  have d19 := s19
  cases hr : rdy t
  case false =>
    refine Iso_of (es _ _ _ _) e10 ?_
    simp only [f10, trV, hr] at c16 ⊢
    simp (disch := first | assumption | omega | (simp only [az]; done)) only [ru, eq_self, if_true, if_false, BEq.rfl, binI, AO.row?, splice, fillL, mmAll, loadV, storeV, zeros, Am.rowAt, Am.part, addOff, Nat.reduceAdd, Nat.reduceMul, Nat.reduceLeDiff, Nat.reduceSub, Nat.reduceLT, Int.reduceEq, Int.reduceLT, Int.reduceLE, Int.reduceGT, Int.reduceGE, Int.reduceAdd, Int.reduceSub, Int.reduceMul, Int.reduceNeg, Int.reduceToNat, reduceCtorEq, reduceIte, lenV_sl ho, elem_sl Ls.el ho, view_sl ho, scalar_sl ho, cells_sl ho, pure_sl ho, lenV_sl hw, elem_sl Wd.el hw, view_sl hw, scalar_sl hw, cells_sl hw, pure_sl hw, c16, d19]
  obtain ⟨hg, hv⟩ := rdy_h hr
  have H := H0.ok hg
  have V := valid_trb hv
  have h8 := valid_w8 hv
  obtain ⟨b1, c36, hb1⟩ := one_val H hv
  simp only [trV, hr] at c16 c36
  cases b1
  · refine Iso_of (es _ _ _ _) e10 ?_
    simp only [f10, trV]
    simp (disch := first | assumption | omega | (simp only [az]; done)) only [ru, eq_self, if_true, if_false, BEq.rfl, binI, AO.row?, splice, fillL, mmAll, loadV, storeV, zeros, Am.rowAt, Am.part, addOff, Nat.reduceAdd, Nat.reduceMul, Nat.reduceLeDiff, Nat.reduceSub, Nat.reduceLT, Int.reduceEq, Int.reduceLT, Int.reduceLE, Int.reduceGT, Int.reduceGE, Int.reduceAdd, Int.reduceSub, Int.reduceMul, Int.reduceNeg, Int.reduceToNat, reduceCtorEq, reduceIte, lenV_sl ho, elem_sl Ls.el ho, view_sl ho, scalar_sl ho, cells_sl ho, pure_sl ho, lenV_sl hw, elem_sl Wd.el hw, view_sl hw, scalar_sl hw, cells_sl hw, pure_sl hw, c16, c36, d19, gUn]
  have hs := hb1.1 rfl
  have wl : wr .i64 ((t.ws.length : Int) - 1) = (t.ws.length : Int) - 1 := wr64 (by omega) (by omega)
  cases hin : inR a 0 ((t.ws.length : Int) - 1)
  · refine Iso_of (es _ _ _ _) e10 ?_
    simp only [f10, trV]
    simp (disch := first | assumption | omega | (simp only [az]; done)) only [ru, eq_self, if_true, if_false, BEq.rfl, binI, AO.row?, splice, fillL, mmAll, loadV, storeV, zeros, Am.rowAt, Am.part, addOff, Nat.reduceAdd, Nat.reduceMul, Nat.reduceLeDiff, Nat.reduceSub, Nat.reduceLT, Int.reduceEq, Int.reduceLT, Int.reduceLE, Int.reduceGT, Int.reduceGE, Int.reduceAdd, Int.reduceSub, Int.reduceMul, Int.reduceNeg, Int.reduceToNat, reduceCtorEq, reduceIte, lenV_sl ho, elem_sl Ls.el ho, view_sl ho, scalar_sl ho, cells_sl ho, pure_sl ho, lenV_sl hw, elem_sl Wd.el hw, view_sl hw, scalar_sl hw, cells_sl hw, pure_sl hw, c16, c36, wl, s30, hin, d19, gUn]
  have hin2 := inR_iff.1 hin
  obtain ⟨k, rfl⟩ : ∃ k : Nat, a = k := ⟨a.toNat, by omega⟩
  have hk : k < t.ws.length := by omega
  have hk' : (k : Int) < t.ws.length := by omega
  have k0 : (0 : Int) ≤ k := by omega
  obtain ⟨v, e, c50, A⟩ := s50 H
  obtain ⟨rfl, iv⟩ : e = 0 ∧ IsSl 1 intL (idleL t) v := by
    cases A with
    | bad h => rw [hv] at h; cases h
    | none _ h => exact absurd hs h
    | ok _ _ h => exact ⟨rfl, h⟩
  have c51 := fun st => s51 H hk st
  have HD : TrOk (t.del k).cp (cpO (t.del k).op) (slV 4 Wd.e (t.del k).ws) := (del_ok H (k := k) slV_is).cpv
  have dv := del_valid hv hk
  have dvc : (t.del k).cp.valid = true := cp_valid.trans dv
  have ds := del_solv hk hs
  have dsc : Solv (t.del k).cp.C (t.del k).cp.T (t.del k).cp := cp_solv.2 ds
  obtain ⟨y, hy⟩ : ∃ y, y = t.ws.getD k default := ⟨_, rfl⟩
  have hyf : fitB t y = true := by rw [hy]; exact fit_getD V hk
  obtain ⟨r, e, c29, A2⟩ := s29 HD y
  have J := A2.val dvc hyf dsc
  obtain ⟨J, rfl⟩ : JudP (t.del k).cp y r ∧ e = 0 := J
  have J2 : JudP (t.del k) y r := cp_jud J
  have rid : r = 1 ↔ idleB t k = true := by
    rw [idleB_iff, ← hy]
    rcases J2 with ⟨h, h1⟩ | ⟨h, h1⟩ | ⟨h, _, x, h1, h2⟩
    · exact ⟨fun _ => h1, fun _ => h⟩
    · obtain ⟨x, hx⟩ := solv_tr.1 ds
      exact ⟨fun e => by omega, fun g => absurd (g x hx) (h1 x hx)⟩
    · exact ⟨fun e => by omega, fun g => absurd (g x h1) h2⟩
  have li : ¬ ((idleL t).length : Int) > t.ws.length := by
    have : (idleL t).length ≤ t.ws.length := idleU_len
    omega
  have c52 := fun st => s52 iv (by have : (idleL t).length ≤ t.ws.length := idleU_len; omega) 0 ((t.ws.length : Int) - 1) st
  rw [idle_ris] at c52
  have c40 := fun st => s40 iv (by have : (idleL t).length ≤ t.ws.length := idleU_len; omega) k st
  rw [idle_has hk] at c40
  have hq := HD.o
  have hq' := HD.w
  obtain ⟨o', eo⟩ : ∃ o', o' = cpO (t.del k).op := ⟨_, rfl⟩
  obtain ⟨w', ew⟩ : ∃ w', w' = slV 4 Wd.e (t.del k).ws := ⟨_, rfl⟩
  rw [← eo] at hq
  rw [← ew] at hq'
  have n1 := fun (h : idleB t k = true) (st : Bool) => s37 H HD hv dvc rfl rfl hs (fun x hx => tr_cp.2 ((tr_del hk).1 hx).1) st
  have n2 := fun (h : idleB t k = true) (st : Bool) => s37 HD H dvc hv rfl rfl dsc (fun x hx => (tr_del hk).2 ⟨tr_cp.1 hx, idleB_iff.1 h x (tr_cp.1 hx)⟩) st
  have c51' : ∀ st, Iso E 51 [.agg [I t.ch, I t.tm, o, w], I k] st = some (.agg [I t.ch, I t.tm, o', w']) := by rw [eo, ew]; exact c51
  have c29' : ∀ st, Iso E 29 [.agg [I t.ch, I t.tm, o', w'], .agg y.e] st = some (.tup [I r, I 0]) := by rw [eo, ew]; exact c29
  have n1' : idleB t k = true → ∀ st, Iso E 37 [.agg [I t.ch, I t.tm, o, w], .agg [I t.ch, I t.tm, o', w']] st = some (Bo true) := by rw [eo, ew]; exact n1
  have n2' : idleB t k = true → ∀ st, Iso E 37 [.agg [I t.ch, I t.tm, o', w'], .agg [I t.ch, I t.tm, o, w]] st = some (Bo true) := by rw [eo, ew]; exact n2
  clear n1 n2 c51 c29
  simp only [trV, Wd.e] at c50 c29'
  refine Iso_of (es _ _ _ _) e10 ?_
  simp only [f10, trV]
  cases hb : idleB t k
  · have nr : ¬ r = 1 := fun h => by rw [rid.1 h] at hb; cases hb
    have nr' : (r == 1) = false := by simpa using nr
    have nr2 : (r != 1) = true := by simpa using nr
    rw [hb] at c40
    simp (disch := first | assumption | omega | (simp only [az]; done)) only [ru, eq_self, if_true, if_false, BEq.rfl, binI, AO.row?, splice, fillL, mmAll, loadV, storeV, zeros, Am.rowAt, Am.part, addOff, Nat.reduceAdd, Nat.reduceMul, Nat.reduceLeDiff, Nat.reduceSub, Nat.reduceLT, Int.reduceEq, Int.reduceLT, Int.reduceLE, Int.reduceGT, Int.reduceGE, Int.reduceAdd, Int.reduceSub, Int.reduceMul, Int.reduceNeg, Int.reduceToNat, reduceCtorEq, reduceIte, lenV_sl ho, elem_sl Ls.el ho, view_sl ho, scalar_sl ho, cells_sl ho, pure_sl ho, lenV_sl hw, elem_sl Wd.el hw, view_sl hw, scalar_sl hw, cells_sl hw, pure_sl hw, c16, c36, wl, s30, hin, c50, c51', lenV_sl hq', elem_sl Wd.el hq', view_sl hq', scalar_sl hq', cells_sl hq', pure_sl hq', lenV_sl hq, elem_sl Ls.el hq, view_sl hq, scalar_sl hq, cells_sl hq, pure_sl hq, k0, hk', Int.toNat_natCast, ← hy, Wd.e, c29', gUn]
    simp (disch := first | assumption | omega | (simp only [az]; done)) only [ru, eq_self, if_true, if_false, BEq.rfl, binI, AO.row?, splice, fillL, mmAll, loadV, storeV, zeros, Am.rowAt, Am.part, addOff, Nat.reduceAdd, Nat.reduceMul, Nat.reduceLeDiff, Nat.reduceSub, Nat.reduceLT, Int.reduceEq, Int.reduceLT, Int.reduceLE, Int.reduceGT, Int.reduceGE, Int.reduceAdd, Int.reduceSub, Int.reduceMul, Int.reduceNeg, Int.reduceToNat, reduceCtorEq, reduceIte, lenV_sl ho, elem_sl Ls.el ho, view_sl ho, scalar_sl ho, cells_sl ho, pure_sl ho, lenV_sl hw, elem_sl Wd.el hw, view_sl hw, scalar_sl hw, cells_sl hw, pure_sl hw, lenV_sl iv, elem_sl intE iv, view_sl iv, scalar_sl iv, cells_sl iv, pure_sl iv, li, wl, c52, c40, nr, nr', nr2, d19, gUn]
  · obtain rfl := rid.2 hb
    have m1 := n1' hb
    have m2 := n2' hb
    rw [hb] at c40
    simp (disch := first | assumption | omega | (simp only [az]; done)) only [ru, eq_self, if_true, if_false, BEq.rfl, binI, AO.row?, splice, fillL, mmAll, loadV, storeV, zeros, Am.rowAt, Am.part, addOff, Nat.reduceAdd, Nat.reduceMul, Nat.reduceLeDiff, Nat.reduceSub, Nat.reduceLT, Int.reduceEq, Int.reduceLT, Int.reduceLE, Int.reduceGT, Int.reduceGE, Int.reduceAdd, Int.reduceSub, Int.reduceMul, Int.reduceNeg, Int.reduceToNat, reduceCtorEq, reduceIte, lenV_sl ho, elem_sl Ls.el ho, view_sl ho, scalar_sl ho, cells_sl ho, pure_sl ho, lenV_sl hw, elem_sl Wd.el hw, view_sl hw, scalar_sl hw, cells_sl hw, pure_sl hw, c16, c36, wl, s30, hin, c50, c51', lenV_sl hq', elem_sl Wd.el hq', view_sl hq', scalar_sl hq', cells_sl hq', pure_sl hq', lenV_sl hq, elem_sl Ls.el hq, view_sl hq, scalar_sl hq, cells_sl hq, pure_sl hq, k0, hk', Int.toNat_natCast, ← hy, Wd.e, c29', gUn]
    simp (disch := first | assumption | omega | (simp only [az]; done)) only [ru, eq_self, if_true, if_false, BEq.rfl, binI, AO.row?, splice, fillL, mmAll, loadV, storeV, zeros, Am.rowAt, Am.part, addOff, Nat.reduceAdd, Nat.reduceMul, Nat.reduceLeDiff, Nat.reduceSub, Nat.reduceLT, Int.reduceEq, Int.reduceLT, Int.reduceLE, Int.reduceGT, Int.reduceGE, Int.reduceAdd, Int.reduceSub, Int.reduceMul, Int.reduceNeg, Int.reduceToNat, reduceCtorEq, reduceIte, lenV_sl ho, elem_sl Ls.el ho, view_sl ho, scalar_sl ho, cells_sl ho, pure_sl ho, lenV_sl hw, elem_sl Wd.el hw, view_sl hw, scalar_sl hw, cells_sl hw, pure_sl hw, lenV_sl iv, elem_sl intE iv, view_sl iv, scalar_sl iv, cells_sl iv, pure_sl iv, li, wl, c52, c40, d19, gUn]
    simp (disch := first | assumption | omega | (simp only [az]; done)) only [ru, eq_self, if_true, if_false, BEq.rfl, binI, AO.row?, splice, fillL, mmAll, loadV, storeV, zeros, Am.rowAt, Am.part, addOff, Nat.reduceAdd, Nat.reduceMul, Nat.reduceLeDiff, Nat.reduceSub, Nat.reduceLT, Int.reduceEq, Int.reduceLT, Int.reduceLE, Int.reduceGT, Int.reduceGE, Int.reduceAdd, Int.reduceSub, Int.reduceMul, Int.reduceNeg, Int.reduceToNat, reduceCtorEq, reduceIte, lenV_sl ho, elem_sl Ls.el ho, view_sl ho, scalar_sl ho, cells_sl ho, pure_sl ho, lenV_sl hw, elem_sl Wd.el hw, view_sl hw, scalar_sl hw, cells_sl hw, pure_sl hw, lenV_sl hq, elem_sl Ls.el hq, view_sl hq, scalar_sl hq, cells_sl hq, pure_sl hq, lenV_sl hq', elem_sl Wd.el hq', view_sl hq', scalar_sl hq', cells_sl hq', pure_sl hq', m1, m2, d19, gUn]
end Go.Proofs.Ytjaaefdhdggnkaa.S

