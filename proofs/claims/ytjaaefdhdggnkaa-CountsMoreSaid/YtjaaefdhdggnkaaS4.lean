/-
The functions of both sides of stage 1, one after another (S4).
-/
import Derived.Test.YtjaaefdhdggnkaaS3

/-
The laws of stage 1 on Fish and Whole, and on Came and Passed.
-/
namespace Go.Proofs.Ytjaaefdhdggnkaa.S
open Go Go.Am Go.Proofs.Ytjaaefdhdggnkaa.T
set_option maxRecDepth 100000
set_option linter.unusedSimpArgs false
set_option linter.unusedVariables false

end Go.Proofs.Ytjaaefdhdggnkaa.S

/-
What the reference answers: Judge and Enough; the law on them.
-/
namespace Go.Proofs.Ytjaaefdhdggnkaa.S
open Go Go.Am Go.Proofs.Ytjaaefdhdggnkaa.T
set_option maxRecDepth 100000
set_option linter.unusedSimpArgs false
set_option linter.unusedVariables false

/-! what is asked of a copy -/
theorem cp_jud {t : Trap} {y : Wd} {k : Int} (J : JudP t.cp y k) : JudP t y k := by
  unfold JudP at *
  simp only [tr_cp, cp_C] at J
  exact J
theorem KnR.map {t : Trap} {fit fit' : Bool} {e : Int} (K : KnR t fit e) (h : t.valid = true → fit' = fit) : KnR t fit' e := by
  cases K with
  | bad hv => exact .bad hv
  | arg hv hf => exact .arg hv ((h hv).trans hf)
  | none hv hf hn => exact .none hv ((h hv).trans hf) hn
  | ok hv hf hs => exact .ok hv ((h hv).trans hf) hs
theorem isW_val {t : Trap} (hv : t.valid = true) (y : Wd) : fitB t y = isW t y := by
  have V := valid_trb hv
  exact (isW_fit (inR_iff.2 ⟨V.c0, V.c1⟩) (inR_iff.2 ⟨V.t0, V.t1⟩)).symm

end Go.Proofs.Ytjaaefdhdggnkaa.S

/-
Whether a trap is ready; the law of time.
-/
namespace Go.Proofs.Ytjaaefdhdggnkaa.S
open Go Go.Am Go.Proofs.Ytjaaefdhdggnkaa.T
set_option maxRecDepth 100000
set_option linter.unusedSimpArgs false
set_option linter.unusedVariables false

def rdy (t : Trap) : Bool := !t.huge && t.valid
theorem s16 {t : Trap} {o w : AV} (H0 : TrIn t o w) (st : Bool) : Iso E 16 [trV t o w] st = some (Bo (rdy t)) := by
  have ho := H0.o
  have hw := H0.w
  have c53 := fun st => s53 H0 st
  unfold rdy
  cases hg : t.huge
  case true =>
    refine Iso_of (es _ _ _ _) e16 ?_
    simp only [f16, trV, hg] at c53 ⊢
    simp (disch := first | assumption | omega | (simp only [az]; done)) only [ru, eq_self, if_true, if_false, BEq.rfl, binI, AO.row?, splice, fillL, mmAll, loadV, storeV, zeros, Am.rowAt, Am.part, addOff, Nat.reduceAdd, Nat.reduceMul, Nat.reduceLeDiff, Nat.reduceSub, Nat.reduceLT, Int.reduceEq, Int.reduceLT, Int.reduceLE, Int.reduceGT, Int.reduceGE, Int.reduceAdd, Int.reduceSub, Int.reduceMul, Int.reduceNeg, Int.reduceToNat, reduceCtorEq, reduceIte, lenV_sl ho, elem_sl Ls.el ho, view_sl ho, scalar_sl ho, cells_sl ho, pure_sl ho, lenV_sl hw, elem_sl Wd.el hw, view_sl hw, scalar_sl hw, cells_sl hw, pure_sl hw, c53, gUn, Bool.not_true, Bool.false_and]
  have c55 := fun st => s55 (H0.ok hg) st
  refine Iso_of (es _ _ _ _) e16 ?_
  simp only [f16, trV, hg, chkE] at c53 c55 ⊢
  cases hv : t.valid
  · simp only [hv, Bool.false_eq_true, if_false] at c55
    simp (disch := first | assumption | omega | (simp only [az]; done)) only [ru, eq_self, if_true, if_false, BEq.rfl, binI, AO.row?, splice, fillL, mmAll, loadV, storeV, zeros, Am.rowAt, Am.part, addOff, Nat.reduceAdd, Nat.reduceMul, Nat.reduceLeDiff, Nat.reduceSub, Nat.reduceLT, Int.reduceEq, Int.reduceLT, Int.reduceLE, Int.reduceGT, Int.reduceGE, Int.reduceAdd, Int.reduceSub, Int.reduceMul, Int.reduceNeg, Int.reduceToNat, reduceCtorEq, reduceIte, lenV_sl ho, elem_sl Ls.el ho, view_sl ho, scalar_sl ho, cells_sl ho, pure_sl ho, lenV_sl hw, elem_sl Wd.el hw, view_sl hw, scalar_sl hw, cells_sl hw, pure_sl hw, c53, c55, Bool.not_false, Bool.true_and]
  · simp only [hv, if_true] at c55
    simp (disch := first | assumption | omega | (simp only [az]; done)) only [ru, eq_self, if_true, if_false, BEq.rfl, binI, AO.row?, splice, fillL, mmAll, loadV, storeV, zeros, Am.rowAt, Am.part, addOff, Nat.reduceAdd, Nat.reduceMul, Nat.reduceLeDiff, Nat.reduceSub, Nat.reduceLT, Int.reduceEq, Int.reduceLT, Int.reduceLE, Int.reduceGT, Int.reduceGE, Int.reduceAdd, Int.reduceSub, Int.reduceMul, Int.reduceNeg, Int.reduceToNat, reduceCtorEq, reduceIte, lenV_sl ho, elem_sl Ls.el ho, view_sl ho, scalar_sl ho, cells_sl ho, pure_sl ho, lenV_sl hw, elem_sl Wd.el hw, view_sl hw, scalar_sl hw, cells_sl hw, pure_sl hw, c53, c55, Bool.not_false, Bool.true_and]
theorem rdy_h {t : Trap} (h : rdy t = true) : t.huge = false ∧ t.valid = true := by
  unfold rdy at h
  simpa using h
set_option maxHeartbeats 2000000 in
theorem s42 (a b c d : Int) (st : Bool) : Iso E 42 [.agg [I a, I b], .agg [I c, I d]] st = some (Bo (decide (c ≤ a) && decide (a ≤ b) && decide (b ≤ d))) := by
  refine Iso_of (es _ _ _ _) e42 ?_
  simp only [f42]
  by_cases h1 : c ≤ a <;> by_cases h2 : a ≤ b <;> by_cases h3 : b ≤ d <;> simp (disch := first | assumption | omega | (simp only [az]; done)) only [ru, eq_self, if_true, if_false, BEq.rfl, binI, AO.row?, splice, fillL, mmAll, loadV, storeV, zeros, Am.rowAt, Am.part, addOff, Nat.reduceAdd, Nat.reduceMul, Nat.reduceLeDiff, Nat.reduceSub, Nat.reduceLT, Int.reduceEq, Int.reduceLT, Int.reduceLE, Int.reduceGT, Int.reduceGE, Int.reduceAdd, Int.reduceSub, Int.reduceMul, Int.reduceNeg, Int.reduceToNat, reduceCtorEq, reduceIte, h1, h2, h3, gUn, decide_true, decide_false, Bool.and_self, Bool.and_false, Bool.and_true, Bool.false_and]

section
variable {t : Trap} {fit : Bool} {f : (Nat → Int) → Int} {lo hi e : Int}
theorem Ans.val (A : Ans t fit f lo hi e) (hv : t.valid = true) (hf : fit = true) (hs : Solv t.C t.T t) : e = 0 ∧ Xt t f lo hi := by
  cases A with
  | bad h => rw [hv] at h; cases h
  | arg _ h => rw [hf] at h; cases h
  | none _ _ h => exact absurd hs h
  | ok _ _ _ h => exact ⟨rfl, h⟩
end

end Go.Proofs.Ytjaaefdhdggnkaa.S

/-
Fish of all chambers at all times.
-/
namespace Go.Proofs.Ytjaaefdhdggnkaa.S
open Go Go.Am Go.Proofs.Ytjaaefdhdggnkaa.T
set_option maxRecDepth 100000
set_option linter.unusedSimpArgs false
set_option linter.unusedVariables false

/-- spans, row by row -/
def spRow (C : Nat) (S : Nat → Nat → Spn) (i : Nat) : List Spn := (List.range C).map fun c => S i c
def encR (r : List Spn) : List AV := [slV 2 Spn.e r]
def spR (C T : Nat) (S : Nat → Nat → Spn) : List (List Spn) := (List.range T).map fun i => spRow C S i
def spV (C T : Nat) (S : Nat → Nat → Spn) : AV := slV 1 encR (spR C T S)
theorem spRow_len {C i : Nat} {S : Nat → Nat → Spn} : (spRow C S i).length = C := by simp [spRow]
theorem spR_len {C T : Nat} {S : Nat → Nat → Spn} : (spR C T S).length = T := by simp [spR]
theorem encR_len (r : List Spn) : (encR r).length = 1 := rfl
theorem spR_at {C T i : Nat} {S : Nat → Nat → Spn} (hi : i < T) : (spR C T S).getD i default = spRow C S i := by
  simp [spR, List.getD_eq_getElem?_getD, hi]
theorem spRow_at {C i c : Nat} {S : Nat → Nat → Spn} (hc : c < C) : (spRow C S i).getD c default = S i c := by
  simp [spRow, List.getD_eq_getElem?_getD, hc]
theorem spRow_succ {i c : Nat} {S : Nat → Nat → Spn} : (spRow (c + 1) S i).flatMap Spn.e = (spRow c S i).flatMap Spn.e ++ [I (S i c).lo, I (S i c).hi] := by
  unfold spRow
  rw [List.range_succ, List.map_append, List.flatMap_append]
  rfl
theorem sps_view {st : Bool} {h : List AO} {n : Nat} (l : List Spn) : (l.flatMap Spn.e).mapM (view st h n) = some (l.flatMap Spn.e) := by
  induction l with
  | nil => rfl
  | cons a l ih =>
    show (I a.lo :: I a.hi :: l.flatMap Spn.e).mapM (view st h n) = _
    simp only [List.mapM_cons, view_int, ih]; rfl
/-- as they lie in the heap -/
def SpsH (h : List AO) (v : AV) (C i : Nat) (S : Nat → Nat → Spn) : Prop :=
  (i = 0 ∧ v = .nils) ∨ (0 < i ∧ ∃ o vs, v = .ms 1 o 0 i ∧ h[o]? = some (.cells vs false) ∧ vs.length = i ∧ ∀ j, j < i → ∃ p, p ≠ o ∧ vs.getD j .undef = .ms 2 p 0 C ∧ h[p]? = some (.cells ((spRow C S j).flatMap Spn.e) false))
theorem SpsH.sc {h : List AO} {v : AV} {C i : Nat} {S : Nat → Nat → Spn} (H : SpsH h v C i S) : v.scalar = true ∧ v.cells = [v] := by
  rcases H with ⟨_, rfl⟩ | ⟨_, o, vs, rfl, _⟩ <;> exact ⟨rfl, rfl⟩
theorem SpsH.fr {h h' : List AO} {v : AV} {C i : Nat} {S : Nat → Nat → Spn} (H : SpsH h v C i S) (hf : ∀ k, k < h.length → h'[k]? = h[k]?) : SpsH h' v C i S := by
  rcases H with H | ⟨h0, o, vs, h1, ho, hl, hr⟩
  · exact .inl H
  · refine .inr ⟨h0, o, vs, h1, by rw [hf o (List.getElem?_eq_some_iff.1 ho).1]; exact ho, hl, fun j hj => ?_⟩
    obtain ⟨p, p1, e, hp⟩ := hr j hj
    exact ⟨p, p1, e, by rw [hf p (List.getElem?_eq_some_iff.1 hp).1]; exact hp⟩
theorem SpsH.view {h : List AO} {v : AV} {C T : Nat} {S : Nat → Nat → Spn} (H : SpsH h v C T S) (hT : 0 < T) (n : Nat) (st : Bool) : view st h (n + 2) v = some (spV C T S) := by
  rcases H with ⟨h0, _⟩ | ⟨h0, o, vs, rfl, ho, hl, hr⟩
  · omega
  rw [view_ms, rowOf_ms]
  simp only [Am.rowAt, ho, Option.bind_some, AO.row?, List.drop_zero]
  rw [List.take_of_length_le (by omega), if_pos (by omega)]
  have hf : ((spR C T S).flatMap encR).length = T := by rw [flat_len encR_len, spR_len, Nat.mul_one]
  have hm : vs.mapM (Am.view st h (n + 1)) = some ((spR C T S).flatMap encR) := by
    refine mapM_get (by omega) fun i hi => ?_
    have hi' : i < T := by omega
    obtain ⟨p, _, e, hp⟩ := hr i hi'
    rw [e, view_ms, rowOf_ms]
    simp only [Am.rowAt, hp, Option.bind_some, AO.row?, List.drop_zero]
    have fl : ((spRow C S i).flatMap Spn.e).length = C * 2 := by rw [flat_len Spn.el, spRow_len]
    rw [List.take_of_length_le (by omega), if_pos fl]
    simp only [sps_view, Option.map_some]
    have hc : i < (spR C T S).length := by rw [spR_len]; exact hi'
    have := flat_at encR_len (spR C T S) i hc
    have e2 : (spR C T S)[i] = spRow C S i := by
      have := spR_at (S := S) (C := C) hi'
      rwa [List.getD_eq_getElem?_getD, List.getElem?_eq_getElem hc, Option.getD_some] at this
    rw [e2, Nat.mul_one] at this
    have e3 : ((spR C T S).flatMap encR).getD i .undef = slV 2 Spn.e (spRow C S i) := by
      have h4 : (((spR C T S).flatMap encR).drop i).head? = some (slV 2 Spn.e (spRow C S i)) := by
        have := congrArg List.head? this
        rw [List.head?_take] at this
        simpa [encR] using this
      rw [List.head?_drop] at h4
      rw [List.getD_eq_getElem?_getD, h4]; rfl
    rw [e3]
    simp only [slV, spRow_len]
  simp only [hm, Option.map_some, spV, slV, spR_len]

/-- the answers of Fish, by place -/
theorem fish_all {t : Trap} {o w : AV} (H : TrOk t o w) (hv : t.valid = true) (hs : Solv t.C t.T t) : ∃ S : Nat → Nat → Spn, ∀ i c, i < t.T → c < t.C →
    (∀ st, Iso E 32 [trV t o w, I i, I c] st = some (.tup [.agg [I (S i c).lo, I (S i c).hi], I 0])) ∧ Xt t (fun x => gap t.C x i c) (S i c).lo (S i c).hi := by
  have eC := eqC hv; have eT := eqT hv
  have key : ∀ i c : Nat, ∃ s : Spn, i < t.T → c < t.C → (∀ st, Iso E 32 [trV t o w, I i, I c] st = some (.tup [.agg [I s.lo, I s.hi], I 0])) ∧ Xt t (fun x => gap t.C x i c) s.lo s.hi := by
    intro i c
    obtain ⟨lo, hi, e, h, A⟩ := s32 H i c
    by_cases hp : i < t.T ∧ c < t.C
    · have p1 : placeB t i c = true := by simp only [placeB, Bool.and_eq_true, decide_eq_true_eq]; omega
      obtain ⟨rfl, X⟩ := A.val hv p1 hs
      exact ⟨⟨lo, hi⟩, fun _ _ => ⟨h, X⟩⟩
    · exact ⟨⟨0, 0⟩, fun a b => absurd ⟨a, b⟩ hp⟩
  exact ⟨fun i c => (key i c).choose, fun i c hi hc => (key i c).choose_spec hi hc⟩

set_option maxHeartbeats 2000000 in
theorem s20 {t : Trap} {o w : AV} (H : TrOk t o w) (hv : t.valid = true) {S : Nat → Nat → Spn} (hS : ∀ i c, i < t.T → c < t.C →
    (∀ st, Iso E 32 [trV t o w, I i, I c] st = some (.tup [.agg [I (S i c).lo, I (S i c).hi], I 0])) ∧ Xt t (fun x => gap t.C x i c) (S i c).lo (S i c).hi) : ∀ st, Iso E 20 [trV t o w] st = some (.tup [spV t.C t.T S, Bo true]) := by
  have V := valid_trb hv
  have v1 := V.c0; have v2 := V.c1; have v3 := V.t0; have v4 := V.t1
  have eC := eqC hv; have eT := eqT hv
  intro st
  suffices hR : ∃ r h', R E (.fn 20) [trV t o w] [] 0 = some (r, h') ∧ ∃ v, r = .tup [v, Bo true] ∧ SpsH h' v t.C t.T S by
    obtain ⟨r, h', hr, v, rfl, hp⟩ := hR
    simp only [Iso, hr]
    show (([v, Bo true].mapM (view st h' 7)).map AV.tup) = _
    have := hp.view (by omega) 5 st
    simp only [List.mapM_cons, List.mapM_nil, this, view_bool]
    rfl
  refine R_of (f := 20) (fun r h' => ∃ v, r = .tup [v, Bo true] ∧ SpsH h' v t.C t.T S) (es _ _ _ _) e20 ?_
  simp only [f20, trV]
  simp (disch := first | assumption | omega | (simp only [az]; done)) only [ru, eq_self, if_true, if_false, BEq.rfl, binI, AO.row?, splice, fillL, mmAll, loadV, storeV, zeros, Am.rowAt, Am.part, addOff, Nat.reduceAdd, Nat.reduceMul, Nat.reduceLeDiff, Nat.reduceSub, Nat.reduceLT, Int.reduceEq, Int.reduceLT, Int.reduceLE, Int.reduceGT, Int.reduceGE, Int.reduceAdd, Int.reduceSub, Int.reduceMul, Int.reduceNeg, Int.reduceToNat, reduceCtorEq, reduceIte, lenV_sl H.o, lenV_sl H.w, elem_sl Ls.el H.o, elem_sl Wd.el H.w, view_sl H.o, view_sl H.w, scalar_sl H.o, scalar_sl H.w, cells_sl H.o, cells_sl H.w, pure_sl H.o, pure_sl H.w, Int.toNat_natCast]
  refine G_loop_ind (fun q ts hk mk => ∃ (i : Nat) (v : AV), i ≤ t.T ∧ q = t.T - i ∧ ts.length = 57 ∧ ts.getD 1 .undef = .ptr 0 0 ∧ ts.getD 4 .undef = v ∧ ts.getD 5 .undef = I i ∧ 1 ≤ hk.length ∧ hk[0]? = some (.cells [I t.ch, I t.tm, o, w] false) ∧ SpsH hk v t.C i S ∧ mk = []) ?_ _ _ _ _
    ⟨0, .nils, Nat.zero_le _, rfl, rfl, rfl, rfl, rfl, by simp, rfl, .inl ⟨rfl, rfl⟩, rfl⟩
  rintro q ts hk mk ih ⟨i, v, hi, rfl, hl, q1, q4, q5, hg, k0, HS, rfl⟩
  rw [lit_all hl]
  simp only [lit0, litS, Nat.reduceAdd, q1, q4, q5]
  simp (disch := first | assumption | omega | (simp only [az]; done)) only [ru, eq_self, if_true, if_false, BEq.rfl, binI, AO.row?, splice, fillL, mmAll, loadV, storeV, zeros, Am.rowAt, Am.part, addOff, Nat.reduceAdd, Nat.reduceMul, Nat.reduceLeDiff, Nat.reduceSub, Nat.reduceLT, Int.reduceEq, Int.reduceLT, Int.reduceLE, Int.reduceGT, Int.reduceGE, Int.reduceAdd, Int.reduceSub, Int.reduceMul, Int.reduceNeg, Int.reduceToNat, reduceCtorEq, reduceIte, k0]
  by_cases hlt : (i : Int) < t.tm
  case neg =>
    have hi3 : i = t.T := by omega
    subst hi3
    simp (disch := first | assumption | omega | (simp only [az]; done)) only [ru, eq_self, if_true, if_false, BEq.rfl, binI, AO.row?, splice, fillL, mmAll, loadV, storeV, zeros, Am.rowAt, Am.part, addOff, Nat.reduceAdd, Nat.reduceMul, Nat.reduceLeDiff, Nat.reduceSub, Nat.reduceLT, Int.reduceEq, Int.reduceLT, Int.reduceLE, Int.reduceGT, Int.reduceGE, Int.reduceAdd, Int.reduceSub, Int.reduceMul, Int.reduceNeg, Int.reduceToNat, reduceCtorEq, reduceIte, hlt]
    exact ⟨v, rfl, HS⟩
  have hi2 : i < t.T := by omega
  simp (disch := first | assumption | omega | (simp only [az]; done)) only [ru, eq_self, if_true, if_false, BEq.rfl, binI, AO.row?, splice, fillL, mmAll, loadV, storeV, zeros, Am.rowAt, Am.part, addOff, Nat.reduceAdd, Nat.reduceMul, Nat.reduceLeDiff, Nat.reduceSub, Nat.reduceLT, Int.reduceEq, Int.reduceLT, Int.reduceLE, Int.reduceGT, Int.reduceGE, Int.reduceAdd, Int.reduceSub, Int.reduceMul, Int.reduceNeg, Int.reduceToNat, reduceCtorEq, reduceIte, hlt]
  clear hl q1 q4 q5
  refine G_loop_ind (fun q ts hh mk => ∃ (c : Nat) (l : AV), c ≤ t.C ∧ q = t.C - c ∧ ts.length = 57 ∧ ts.getD 1 .undef = .ptr 0 0 ∧ ts.getD 4 .undef = v ∧ ts.getD 5 .undef = I i ∧ ts.getD 6 .undef = l ∧ ts.getD 7 .undef = I c ∧ hk.length ≤ hh.length ∧ (∀ k, k < hk.length → hh[k]? = hk[k]?) ∧
    ((c = 0 ∧ l = .nils) ∨ (0 < c ∧ ∃ p, hk.length ≤ p ∧ l = .ms 2 p 0 c ∧ hh[p]? = some (.cells ((spRow c S i).flatMap Spn.e) false))) ∧ mk = []) ?_ _ _ _ _
    ⟨0, .nils, Nat.zero_le _, rfl, rfl, rfl, rfl, rfl, rfl, rfl, Nat.le_refl _, fun _ _ => rfl, .inl ⟨rfl, rfl⟩, rfl⟩
  rintro q ts hh mk ihC ⟨c, l, hc, rfl, hl, q1, q4, q5, q6, q7, hgg, fr, hL, rfl⟩
  rw [lit_all hl]
  simp only [lit0, litS, Nat.reduceAdd, q1, q4, q5, q6, q7]
  have f0 : hh[0]? = some (.cells [I t.ch, I t.tm, o, w] false) := by rw [fr 0 (by omega)]; exact k0
  simp (disch := first | assumption | omega | (simp only [az]; done)) only [ru, eq_self, if_true, if_false, BEq.rfl, binI, AO.row?, splice, fillL, mmAll, loadV, storeV, zeros, Am.rowAt, Am.part, addOff, Nat.reduceAdd, Nat.reduceMul, Nat.reduceLeDiff, Nat.reduceSub, Nat.reduceLT, Int.reduceEq, Int.reduceLT, Int.reduceLE, Int.reduceGT, Int.reduceGE, Int.reduceAdd, Int.reduceSub, Int.reduceMul, Int.reduceNeg, Int.reduceToNat, reduceCtorEq, reduceIte, f0]
  by_cases hlc : (c : Int) < t.ch
  case neg =>
    have hc3 : c = t.C := by omega
    rcases hL with ⟨h1, _⟩ | ⟨h1, p, h2, rfl, h3⟩
    · omega
    subst hc3
    obtain ⟨z, hz⟩ : ∃ z, z = AV.ms 2 p 0 t.C := ⟨_, rfl⟩
    have zs : z.scalar = true ∧ z.cells = [z] := by rw [hz]; exact ⟨rfl, rfl⟩
    rw [← hz]
    have hr : Am.rowOf (hh ++ [AO.cells [z] false]) (.ms 1 hh.length 0 1) = some [z] := by rw [rowOf_ms]; simp only [Am.rowAt, atT0]; rfl
    have zs2 : [z].all AV.scalar = true := by simp [zs.1]
    have pl := (List.getElem?_eq_some_iff.1 h3).1
    have key : ∃ v' h', appV 0 (hh ++ [AO.cells [z] false]) 1 24 v (.ms 1 hh.length 0 1) = some (v', h') ∧ hh.length < h'.length ∧ h'[0]? = some (.cells [I t.ch, I t.tm, o, w] false) ∧ SpsH h' v' t.C (i + 1) S := by
      rcases HS with ⟨e1, rfl⟩ | ⟨e0, o', vs, rfl, a4, a5, a6⟩
      · subst e1
        have ev := appV_nil (lim := 0) (esz := 1) (eb := 24) (n := 1) (x := .ms 1 hh.length 0 1) rfl hr rfl zs2 (by omega) (by omega)
        rw [if_neg (by omega)] at ev
        refine ⟨_, _, ev, by simp <;> omega, ?_, .inr ⟨by omega, (hh ++ [AO.cells [z] false]).length, [z], rfl, by rw [atT0]; rfl, rfl, fun j hj => ?_⟩⟩
        · rw [at_ap (by simp), at_ap (by omega)]; exact f0
        · obtain rfl : j = 0 := by omega
          exact ⟨p, by simp; omega, hz, by rw [at_ap (by simp; omega), at_ap pl]; exact h3⟩
      · have o2 := (List.getElem?_eq_some_iff.1 a4).1
        have go : (hh ++ [AO.cells [z] false])[o']? = some (.cells vs false) := by rw [at_ap (by omega), fr o' o2]; exact a4
        have ev := appV_ms (lim := 0) (esz := 1) (eb := 24) (n := 1) (len := i) (x := .ms 1 hh.length 0 1) go (by omega) rfl hr rfl zs2 (by omega) (by omega) (Nat.zero_le _)
        rw [if_neg (by omega)] at ev
        have o0 : o' ≠ 0 := fun e => by
          subst e
          rw [k0] at a4
          simp only [Option.some.injEq, AO.cells.injEq, and_true] at a4
          obtain ⟨p', _, e2, _⟩ := a6 0 e0
          rw [← a4] at e2
          cases e2
        refine ⟨_, _, ev, by simp <;> omega, ?_, .inr ⟨by omega, (hh ++ [AO.cells [z] false]).length, vs ++ [z], rfl, by rw [show (hh ++ [AO.cells [z] false]).length = ((hh ++ [AO.cells [z] false]).set o' .tomb).length by simp, atT0]; rfl, by simp [a5], fun j hj => ?_⟩⟩
        · rw [at_ap (by simp), List.getElem?_set_ne (by omega), at_ap (by omega)]; exact f0
        · by_cases e : j = i
          · subst e
            refine ⟨p, by simp; omega, ?_, ?_⟩
            · rw [← hz, ← a5, getT0]; rfl
            · rw [at_ap (by simp; omega), List.getElem?_set_ne (by omega), at_ap pl]; exact h3
          · obtain ⟨p', b1, b2, b3⟩ := a6 j (by omega)
            have p2 := (List.getElem?_eq_some_iff.1 b3).1
            refine ⟨p', by simp; omega, ?_, ?_⟩
            · rw [← b2, List.getD_eq_getElem?_getD, List.getElem?_append_left (by omega), ← List.getD_eq_getElem?_getD]
            · rw [at_ap (by simp; omega), List.getElem?_set_ne (by omega), at_ap (by omega), fr p' p2]; exact b3
    refine key.elim fun v' hh' => hh'.elim fun h' hh' => ?_
    have c1 := hh'.1
    have c2 := hh'.2.1
    have c3 := hh'.2.2.1
    have c4 := hh'.2.2.2
    clear hh' key
    simp (disch := first | assumption | omega | (simp only [az]; done)) only [ru, eq_self, if_true, if_false, BEq.rfl, binI, AO.row?, splice, fillL, mmAll, loadV, storeV, zeros, Am.rowAt, Am.part, addOff, Nat.reduceAdd, Nat.reduceMul, Nat.reduceLeDiff, Nat.reduceSub, Nat.reduceLT, Int.reduceEq, Int.reduceLT, Int.reduceLE, Int.reduceGT, Int.reduceGE, Int.reduceAdd, Int.reduceSub, Int.reduceMul, Int.reduceNeg, Int.reduceToNat, reduceCtorEq, reduceIte, hlc, zs.1, zs.2, c1]
    exact ih (t.T - (i + 1)) _ _ _ (by omega) ⟨i + 1, v', by omega, rfl, rfl, rfl, rfl, rfl, by omega, c3, c4, rfl⟩
  have hc2 : c < t.C := by omega
  have c32 := (hS i c hi2 hc2).1
  have bd := xt_bd hi2 hc2 (hS i c hi2 hc2).2
  simp only [trV] at c32
  have b1 : ¬ (S i c).lo < 0 := by omega
  have b2 : ¬ (S i c).lo > (S i c).hi := by omega
  have b3 : ¬ (S i c).hi > 40 := by omega
  obtain ⟨lo, hlo⟩ : ∃ lo, lo = (S i c).lo := ⟨_, rfl⟩
  obtain ⟨hi', hhi⟩ : ∃ hi', hi' = (S i c).hi := ⟨_, rfl⟩
  have key : ∃ l' h', appV 0 (hh ++ [AO.cells [I lo, I hi'] false, AO.cells [I lo, I hi'] false]) 2 16 l (.ms 2 (hh.length + 1) 0 1) = some (l', h') ∧ hk.length ≤ h'.length ∧ (∀ k, k < hk.length → h'[k]? = hk[k]?) ∧
      ∃ p, hk.length ≤ p ∧ l' = .ms 2 p 0 (c + 1) ∧ h'[p]? = some (.cells ((spRow (c + 1) S i).flatMap Spn.e) false) := by
    obtain ⟨G0, hG0⟩ : ∃ G0 : List AO, G0 = hh ++ [AO.cells [I lo, I hi'] false, AO.cells [I lo, I hi'] false] := ⟨_, rfl⟩
    rw [← hG0]
    have gl : G0.length = hh.length + 2 := by rw [hG0]; simp
    have gk : ∀ k, k < hh.length → G0[k]? = hh[k]? := fun k hk' => by rw [hG0, at_ap hk']
    have g1 : G0[hh.length + 1]? = some (.cells [I lo, I hi'] false) := by rw [hG0, atT]; rfl
    have hr : Am.rowOf G0 (.ms 2 (hh.length + 1) 0 1) = some [I lo, I hi'] := by rw [rowOf_ms]; simp only [Am.rowAt, g1]; rfl
    rcases hL with ⟨e1, rfl⟩ | ⟨e0, p, p1, rfl, p3⟩
    · subst e1
      have ev := appV_nil (lim := 0) (esz := 2) (eb := 16) (n := 1) (x := .ms 2 (hh.length + 1) 0 1) rfl hr rfl rfl (by omega) (by omega)
      rw [if_neg (by omega)] at ev
      refine ⟨_, _, ev, by simp; omega, fun k hk' => ?_, G0.length, by omega, rfl, ?_⟩
      · rw [at_ap (by omega), gk k (by omega)]; exact fr k hk'
      · rw [atT0, spRow_succ, hlo, hhi]; rfl
    · have pl := (List.getElem?_eq_some_iff.1 p3).1
      have go : G0[p]? = some (.cells ((spRow c S i).flatMap Spn.e) false) := by rw [gk p pl]; exact p3
      have ev := appV_ms (lim := 0) (esz := 2) (eb := 16) (n := 1) (len := c) (x := .ms 2 (hh.length + 1) 0 1) go (by rw [flat_len Spn.el, spRow_len]) rfl hr rfl rfl (by omega) (by omega) (Nat.zero_le _)
      rw [if_neg (by omega)] at ev
      refine ⟨_, _, ev, by simp; omega, fun k hk' => ?_, G0.length, by omega, rfl, ?_⟩
      · rw [at_ap (by simp; omega), List.getElem?_set_ne (by omega), gk k (by omega)]; exact fr k hk'
      · rw [show G0.length = (G0.set p .tomb).length by simp, atT0, spRow_succ, hlo, hhi]; rfl
  refine key.elim fun l' hh' => hh'.elim fun h' hh' => ?_
  have d1 := hh'.1
  have d2 := hh'.2.1
  have d3 := hh'.2.2.1
  have d4 := hh'.2.2.2
  clear hh' key
  rw [← hlo, ← hhi] at b2
  rw [← hlo] at b1
  rw [← hhi] at b3
  simp only [← hlo, ← hhi] at c32
  simp (disch := first | assumption | omega | (simp only [az]; done)) only [ru, eq_self, if_true, if_false, BEq.rfl, binI, AO.row?, splice, fillL, mmAll, loadV, storeV, zeros, Am.rowAt, Am.part, addOff, Nat.reduceAdd, Nat.reduceMul, Nat.reduceLeDiff, Nat.reduceSub, Nat.reduceLT, Int.reduceEq, Int.reduceLT, Int.reduceLE, Int.reduceGT, Int.reduceGE, Int.reduceAdd, Int.reduceSub, Int.reduceMul, Int.reduceNeg, Int.reduceToNat, reduceCtorEq, reduceIte, lenV_sl H.o, lenV_sl H.w, elem_sl Ls.el H.o, elem_sl Wd.el H.w, view_sl H.o, view_sl H.w, scalar_sl H.o, scalar_sl H.w, cells_sl H.o, cells_sl H.w, pure_sl H.o, pure_sl H.w, Int.toNat_natCast, hlc, f0, c32, b1, b2, b3, gUn, List.append_assoc, List.cons_append, List.nil_append, lenE, setT, setT0, atT, atT0, getT, getT0, Nat.add_assoc, d1]
  exact ihC (t.C - (c + 1)) _ _ _ (by omega) ⟨c + 1, l', by omega, rfl, rfl, rfl, rfl, rfl, rfl, rfl, d2, d3, .inr ⟨by omega, d4⟩, rfl⟩
end Go.Proofs.Ytjaaefdhdggnkaa.S

/-
No span of a trap is wider than that of another one: narrower.
-/
namespace Go.Proofs.Ytjaaefdhdggnkaa.S
open Go Go.Am Go.Proofs.Ytjaaefdhdggnkaa.T
set_option maxRecDepth 100000
set_option linter.unusedSimpArgs false
set_option linter.unusedVariables false

theorem el_sp (l : List Spn) (i : Int) (h0 : 0 ≤ i) (h1 : i < l.length) : elemAt 2 (slV 2 Spn.e l) (I i) = some (.cptr (Spn.e (l.getD i.toNat default))) := elem_sl Spn.el slV_is i h0 h1
theorem xt_sub {a b : Trap} {f : (Nat → Int) → Int} {lo hi lo' hi' : Int} (X : Xt a f lo hi) (Y : Xt b f lo' hi') (sub : ∀ x, Tr a x → Tr b x) : lo' ≤ lo ∧ lo ≤ hi ∧ hi ≤ hi' := by
  obtain ⟨p, ⟨x, h1, h2⟩, y, h3, h4⟩ := xt_tr X
  obtain ⟨q, _⟩ := xt_tr Y
  have a1 := q x (sub x h1)
  have a2 := q y (sub y h3)
  have a3 := p x h1
  omega
/-- the answers of Whole and Passed, where there is a truth -/
theorem whole_at {t : Trap} {o w : AV} (H : TrOk t o w) (hv : t.valid = true) (hs : Solv t.C t.T t) {i : Nat} (hi : i < t.T) : ∃ lo hi, (∀ st, Iso E 23 [trV t o w, I i] st = some (.tup [.agg [I lo, I hi], I 0])) ∧ Xt t (fun x => x (sumN t.C i 0) - x 0) lo hi := by
  have eT := eqT hv
  obtain ⟨lo, hi, e, h, A⟩ := s23 H i
  obtain ⟨rfl, X⟩ := A.val hv (by simp only [timeB, Bool.and_eq_true, decide_eq_true_eq]; omega) hs
  exact ⟨lo, hi, h, X⟩
theorem passed_at {t : Trap} {o w : AV} (H : TrOk t o w) (hv : t.valid = true) (hs : Solv t.C t.T t) {i c : Nat} (hi : i + 1 < t.T) (hc : c < t.C) : ∃ lo hi, (∀ st, Iso E 27 [trV t o w, I i, I c] st = some (.tup [.agg [I lo, I hi], I 0])) ∧ Xt t (fun x => flow t.C x i c) lo hi := by
  have eC := eqC hv; have eT := eqT hv
  have vo := (valid_trb hv).o
  obtain ⟨lo, hi, e, h, A⟩ := s27 H i c
  obtain ⟨rfl, X⟩ := A.val hv (by simp only [stepB, Bool.and_eq_true, decide_eq_true_eq]; omega) hs
  exact ⟨lo, hi, h, X⟩

set_option maxHeartbeats 2000000 in
theorem s37 {a b : Trap} {oa wa ob wb : AV} (Ha : TrOk a oa wa) (Hb : TrOk b ob wb) (va : a.valid = true) (vb : b.valid = true) (hC : b.C = a.C) (hT : b.T = a.T) (sa : Solv a.C a.T a) (sub : ∀ x, Tr a x → Tr b x) (st : Bool) :
    Iso E 37 [trV a oa wa, trV b ob wb] st = some (Bo true) := by
  have sb : Solv b.C b.T b := by obtain ⟨x, hx⟩ := solv_tr.1 sa; exact solv_tr.2 ⟨x, sub x hx⟩
  have V := valid_trb va
  have v1 := V.c0; have v2 := V.c1; have v3 := V.t0; have v4 := V.t1
  have eC := eqC va; have eT := eqT va
  obtain ⟨Sa, hSa⟩ := fish_all Ha va sa
  obtain ⟨Sb, hSb⟩ := fish_all Hb vb sb
  have c20a := s20 Ha va hSa
  have c20b := s20 Hb vb hSb
  rw [hC, hT] at c20b
  have ia : IsSl 1 encR (spR a.C a.T Sa) (spV a.C a.T Sa) := slV_is
  have ib : IsSl 1 encR (spR a.C a.T Sb) (spV a.C a.T Sb) := slV_is
  obtain ⟨pa, hpa⟩ : ∃ pa, pa = spV a.C a.T Sa := ⟨_, rfl⟩
  obtain ⟨pb, hpb⟩ : ∃ pb, pb = spV a.C a.T Sb := ⟨_, rfl⟩
  rw [← hpa] at c20a ia
  rw [← hpb] at c20b ib
  have oa1 := Ha.o; have wa1 := Ha.w; have ob1 := Hb.o; have wb1 := Hb.w
  simp only [trV] at c20a c20b
  refine Iso_of (es _ _ _ _) e37 ?_
  simp only [f37, trV]
  simp (disch := first | assumption | omega | (simp only [az]; done)) only [ru, eq_self, if_true, if_false, BEq.rfl, binI, AO.row?, splice, fillL, mmAll, loadV, storeV, zeros, Am.rowAt, Am.part, addOff, Nat.reduceAdd, Nat.reduceMul, Nat.reduceLeDiff, Nat.reduceSub, Nat.reduceLT, Int.reduceEq, Int.reduceLT, Int.reduceLE, Int.reduceGT, Int.reduceGE, Int.reduceAdd, Int.reduceSub, Int.reduceMul, Int.reduceNeg, Int.reduceToNat, reduceCtorEq, reduceIte, lenV_sl oa1, elem_sl Ls.el oa1, view_sl oa1, scalar_sl oa1, cells_sl oa1, pure_sl oa1, lenV_sl wa1, elem_sl Wd.el wa1, view_sl wa1, scalar_sl wa1, cells_sl wa1, pure_sl wa1, lenV_sl ob1, elem_sl Ls.el ob1, view_sl ob1, scalar_sl ob1, cells_sl ob1, pure_sl ob1, lenV_sl wb1, elem_sl Wd.el wb1, view_sl wb1, scalar_sl wb1, cells_sl wb1, pure_sl wb1, c20a, c20b, gUn]
  refine G_loop_ind (fun q ts hk mk => ∃ (i : Nat), i ≤ a.T ∧ q = a.T - i ∧ ts.length = 118 ∧ ts.getD 2 .undef = .ptr 0 0 ∧ ts.getD 3 .undef = .ptr 1 0 ∧ ts.getD 5 .undef = pa ∧ ts.getD 7 .undef = pb ∧ ts.getD 9 .undef = I i ∧
    2 ≤ hk.length ∧ hk[0]? = some (.cells [I a.ch, I a.tm, oa, wa] false) ∧ hk[1]? = some (.cells [I b.ch, I b.tm, ob, wb] false) ∧ mk = []) ?_ _ _ _ _
    ⟨0, Nat.zero_le _, rfl, rfl, rfl, rfl, rfl, rfl, rfl, by simp, rfl, rfl, rfl⟩
  rintro q ts hk mk ih ⟨i, hi, rfl, hl, q2, q3, q5, q7, q9, hg, k0, k1, rfl⟩
  rw [lit_all hl]
  simp only [lit0, litS, Nat.reduceAdd, q2, q3, q5, q7, q9]
  simp (disch := first | assumption | omega | (simp only [az]; done)) only [ru, eq_self, if_true, if_false, BEq.rfl, binI, AO.row?, splice, fillL, mmAll, loadV, storeV, zeros, Am.rowAt, Am.part, addOff, Nat.reduceAdd, Nat.reduceMul, Nat.reduceLeDiff, Nat.reduceSub, Nat.reduceLT, Int.reduceEq, Int.reduceLT, Int.reduceLE, Int.reduceGT, Int.reduceGE, Int.reduceAdd, Int.reduceSub, Int.reduceMul, Int.reduceNeg, Int.reduceToNat, reduceCtorEq, reduceIte, k0]
  by_cases hlt : (i : Int) < a.tm
  case neg =>
    simp (disch := first | assumption | omega | (simp only [az]; done)) only [ru, eq_self, if_true, if_false, BEq.rfl, binI, AO.row?, splice, fillL, mmAll, loadV, storeV, zeros, Am.rowAt, Am.part, addOff, Nat.reduceAdd, Nat.reduceMul, Nat.reduceLeDiff, Nat.reduceSub, Nat.reduceLT, Int.reduceEq, Int.reduceLT, Int.reduceLE, Int.reduceGT, Int.reduceGE, Int.reduceAdd, Int.reduceSub, Int.reduceMul, Int.reduceNeg, Int.reduceToNat, reduceCtorEq, reduceIte, hlt]
  have hi2 : i < a.T := by omega
  have k0J : ∀ J, (hk ++ J)[0]? = some (.cells [I a.ch, I a.tm, oa, wa] false) := fun J => by rw [at_ap (by omega)]; exact k0
  have k1J : ∀ J, (hk ++ J)[1]? = some (.cells [I b.ch, I b.tm, ob, wb] false) := fun J => by rw [at_ap (by omega)]; exact k1
  refine (whole_at Ha va sa hi2).elim fun l1 h => h.elim fun u1 h => ?_
  have w1 := h.1
  have X1 := h.2
  clear h
  refine (whole_at Hb vb sb (i := i) (by omega)).elim fun l2 h => h.elim fun u2 h => ?_
  have w2 := h.1
  have X2 := h.2
  clear h
  rw [hC] at X2
  have in1 := xt_sub X1 X2 sub
  simp only [trV] at w1 w2
  have n1 := in1.1; have n2 := in1.2.1; have n3 := in1.2.2
  simp (disch := first | assumption | omega | (simp only [az]; done)) only [ru, eq_self, if_true, if_false, BEq.rfl, binI, AO.row?, splice, fillL, mmAll, loadV, storeV, zeros, Am.rowAt, Am.part, addOff, Nat.reduceAdd, Nat.reduceMul, Nat.reduceLeDiff, Nat.reduceSub, Nat.reduceLT, Int.reduceEq, Int.reduceLT, Int.reduceLE, Int.reduceGT, Int.reduceGE, Int.reduceAdd, Int.reduceSub, Int.reduceMul, Int.reduceNeg, Int.reduceToNat, reduceCtorEq, reduceIte, lenV_sl oa1, elem_sl Ls.el oa1, view_sl oa1, scalar_sl oa1, cells_sl oa1, pure_sl oa1, lenV_sl wa1, elem_sl Wd.el wa1, view_sl wa1, scalar_sl wa1, cells_sl wa1, pure_sl wa1, lenV_sl ob1, elem_sl Ls.el ob1, view_sl ob1, scalar_sl ob1, cells_sl ob1, pure_sl ob1, lenV_sl wb1, elem_sl Wd.el wb1, view_sl wb1, scalar_sl wb1, cells_sl wb1, pure_sl wb1, hlt, k0, k0J, k1J, k1, w1, w2, s42, n1, n2, n3, decide_true, Bool.and_self, gUn, List.append_assoc, List.cons_append, List.nil_append, lenE, setT, setT0, atT, atT0, getT, getT0, Nat.add_assoc]
  clear hl q2 q3 q5 q7 q9
  refine G_loop_ind (fun q ts hh mk => ∃ (c : Nat), c ≤ a.C ∧ q = a.C - c ∧ ts.length = 118 ∧ ts.getD 2 .undef = .ptr 0 0 ∧ ts.getD 3 .undef = .ptr 1 0 ∧ ts.getD 5 .undef = pa ∧ ts.getD 7 .undef = pb ∧ ts.getD 9 .undef = I i ∧ ts.getD 14 .undef = I c ∧
    2 ≤ hh.length ∧ hh[0]? = some (.cells [I a.ch, I a.tm, oa, wa] false) ∧ hh[1]? = some (.cells [I b.ch, I b.tm, ob, wb] false) ∧ mk = []) ?_ _ _ _ _
    ⟨0, Nat.zero_le _, rfl, rfl, rfl, rfl, rfl, rfl, rfl, rfl, by simp <;> omega, k0J _, k1J _, rfl⟩
  rintro q ts hh mk ihC ⟨c, hc, rfl, hl, q2, q3, q5, q7, q9, q14, hgg, g0, g1, rfl⟩
  rw [lit_all hl]
  simp only [lit0, litS, Nat.reduceAdd, q2, q3, q5, q7, q9, q14]
  simp (disch := first | assumption | omega | (simp only [az]; done)) only [ru, eq_self, if_true, if_false, BEq.rfl, binI, AO.row?, splice, fillL, mmAll, loadV, storeV, zeros, Am.rowAt, Am.part, addOff, Nat.reduceAdd, Nat.reduceMul, Nat.reduceLeDiff, Nat.reduceSub, Nat.reduceLT, Int.reduceEq, Int.reduceLT, Int.reduceLE, Int.reduceGT, Int.reduceGE, Int.reduceAdd, Int.reduceSub, Int.reduceMul, Int.reduceNeg, Int.reduceToNat, reduceCtorEq, reduceIte, g0]
  by_cases hlc : (c : Int) < a.ch
  case neg =>
    simp (disch := first | assumption | omega | (simp only [az]; done)) only [ru, eq_self, if_true, if_false, BEq.rfl, binI, AO.row?, splice, fillL, mmAll, loadV, storeV, zeros, Am.rowAt, Am.part, addOff, Nat.reduceAdd, Nat.reduceMul, Nat.reduceLeDiff, Nat.reduceSub, Nat.reduceLT, Int.reduceEq, Int.reduceLT, Int.reduceLE, Int.reduceGT, Int.reduceGE, Int.reduceAdd, Int.reduceSub, Int.reduceMul, Int.reduceNeg, Int.reduceToNat, reduceCtorEq, reduceIte, hlc]
    exact ih (a.T - (i + 1)) _ _ _ (by omega) ⟨i + 1, by omega, rfl, rfl, rfl, rfl, rfl, rfl, rfl, hgg, g0, g1, rfl⟩
  have hc2 : c < a.C := by omega
  have ra := spR_at (C := a.C) (S := Sa) hi2
  have rb := spR_at (C := a.C) (S := Sb) hi2
  have ca := spRow_at (i := i) (S := Sa) hc2
  have cb := spRow_at (i := i) (S := Sb) hc2
  have i0 : (0 : Int) ≤ i := by omega
  have c0 : (0 : Int) ≤ c := by omega
  have la : (i : Int) < ((spR a.C a.T Sa).length : Nat) := by rw [spR_len]; omega
  have lb : (i : Int) < ((spR a.C a.T Sb).length : Nat) := by rw [spR_len]; omega
  have ma : (c : Int) < ((spRow a.C Sa i).length : Nat) := by rw [spRow_len]; omega
  have mb : (c : Int) < ((spRow a.C Sb i).length : Nat) := by rw [spRow_len]; omega
  have Y2 := (hSb i c (by omega) (by omega)).2
  rw [hC] at Y2
  have in2 := xt_sub (hSa i c hi2 hc2).2 Y2 sub
  have m1 := in2.1; have m2 := in2.2.1; have m3 := in2.2.2
  have g0J : ∀ J, (hh ++ J)[0]? = some (.cells [I a.ch, I a.tm, oa, wa] false) := fun J => by rw [at_ap (by omega)]; exact g0
  have g1J : ∀ J, (hh ++ J)[1]? = some (.cells [I b.ch, I b.tm, ob, wb] false) := fun J => by rw [at_ap (by omega)]; exact g1
  by_cases e : (i : Int) + 1 = a.tm
  · have e' : (((i : Int) + 1) == a.tm) = true := by simpa using e
    simp (disch := first | assumption | omega | (simp only [az]; done)) only [ru, eq_self, if_true, if_false, BEq.rfl, binI, AO.row?, splice, fillL, mmAll, loadV, storeV, zeros, Am.rowAt, Am.part, addOff, Nat.reduceAdd, Nat.reduceMul, Nat.reduceLeDiff, Nat.reduceSub, Nat.reduceLT, Int.reduceEq, Int.reduceLT, Int.reduceLE, Int.reduceGT, Int.reduceGE, Int.reduceAdd, Int.reduceSub, Int.reduceMul, Int.reduceNeg, Int.reduceToNat, reduceCtorEq, reduceIte, hlc, i0, c0, elem_sl encR_len ia, elem_sl encR_len ib, encR, el_sp, Int.toNat_natCast, ra, rb, ca, cb, Spn.e, s42, m1, m2, m3, decide_true, Bool.and_self, g0, e']
    exact ihC (a.C - (c + 1)) _ _ _ (by omega) ⟨c + 1, by omega, rfl, rfl, rfl, rfl, rfl, rfl, rfl, rfl, hgg, g0, g1, rfl⟩
  · have e' : (((i : Int) + 1) == a.tm) = false := by simpa using e
    refine (passed_at Ha va sa (i := i) (c := c) (by omega) hc2).elim fun l3 h => h.elim fun u3 h => ?_
    have w3 := h.1
    have X3 := h.2
    clear h
    refine (passed_at Hb vb sb (i := i) (c := c) (by omega) (by omega)).elim fun l4 h => h.elim fun u4 h => ?_
    have w4 := h.1
    have X4 := h.2
    clear h
    rw [hC] at X4
    have in3 := xt_sub X3 X4 sub
    simp only [trV] at w3 w4
    have p1 := in3.1; have p2 := in3.2.1; have p3 := in3.2.2
    simp (disch := first | assumption | omega | (simp only [az]; done)) only [ru, eq_self, if_true, if_false, BEq.rfl, binI, AO.row?, splice, fillL, mmAll, loadV, storeV, zeros, Am.rowAt, Am.part, addOff, Nat.reduceAdd, Nat.reduceMul, Nat.reduceLeDiff, Nat.reduceSub, Nat.reduceLT, Int.reduceEq, Int.reduceLT, Int.reduceLE, Int.reduceGT, Int.reduceGE, Int.reduceAdd, Int.reduceSub, Int.reduceMul, Int.reduceNeg, Int.reduceToNat, reduceCtorEq, reduceIte, hlc, i0, c0, elem_sl encR_len ia, elem_sl encR_len ib, encR, el_sp, Int.toNat_natCast, ra, rb, ca, cb, Spn.e, s42, m1, m2, m3, decide_true, Bool.and_self, g0, e']
    simp (disch := first | assumption | omega | (simp only [az]; done)) only [ru, eq_self, if_true, if_false, BEq.rfl, binI, AO.row?, splice, fillL, mmAll, loadV, storeV, zeros, Am.rowAt, Am.part, addOff, Nat.reduceAdd, Nat.reduceMul, Nat.reduceLeDiff, Nat.reduceSub, Nat.reduceLT, Int.reduceEq, Int.reduceLT, Int.reduceLE, Int.reduceGT, Int.reduceGE, Int.reduceAdd, Int.reduceSub, Int.reduceMul, Int.reduceNeg, Int.reduceToNat, reduceCtorEq, reduceIte, lenV_sl oa1, elem_sl Ls.el oa1, view_sl oa1, scalar_sl oa1, cells_sl oa1, pure_sl oa1, lenV_sl wa1, elem_sl Wd.el wa1, view_sl wa1, scalar_sl wa1, cells_sl wa1, pure_sl wa1, lenV_sl ob1, elem_sl Ls.el ob1, view_sl ob1, scalar_sl ob1, cells_sl ob1, pure_sl ob1, lenV_sl wb1, elem_sl Wd.el wb1, view_sl wb1, scalar_sl wb1, cells_sl wb1, pure_sl wb1, g0, g1, g0J, g1J, w3, w4, s42, p1, p2, p3, decide_true, Bool.and_self, gUn, List.append_assoc, List.cons_append, List.nil_append, lenE, setT, setT0, atT, atT0, getT, getT0, Nat.add_assoc]
    exact ihC (a.C - (c + 1)) _ _ _ (by omega) ⟨c + 1, by omega, rfl, rfl, rfl, rfl, rfl, rfl, rfl, rfl, by simp <;> omega, g0J _, g1J _, rfl⟩
end Go.Proofs.Ytjaaefdhdggnkaa.S

/-
The law of enough fish.
-/
namespace Go.Proofs.Ytjaaefdhdggnkaa.S
open Go Go.Am Go.Proofs.Ytjaaefdhdggnkaa.T
set_option maxRecDepth 100000
set_option linter.unusedSimpArgs false
set_option linter.unusedVariables false

theorem AnsG.val {α : Type} {t : Trap} {fit : Bool} {D : Int → α} {P : α → Prop} {v : α} (A : AnsG t fit D P v) (hv : t.valid = true) (hf : fit = true) (hs : Solv t.C t.T t) : P v := by
  cases A with
  | bad h => rw [hv] at h; cases h
  | arg _ h => rw [hf] at h; cases h
  | none _ _ h => exact absurd hs h
  | ok _ _ _ h => exact h
/-- whether there is a truth, as a bool -/
theorem one_val {t : Trap} {o w : AV} (H : TrOk t o w) (hv : t.valid = true) : ∃ b, (∀ st, Iso E 36 [trV t o w] st = some (Bo b)) ∧ (b = true ↔ Solv t.C t.T t) := s36 H (valid_trb hv) (eqC hv) (eqT hv)
end Go.Proofs.Ytjaaefdhdggnkaa.S

/-
The law of one more word.
-/
namespace Go.Proofs.Ytjaaefdhdggnkaa.S
open Go Go.Am Go.Proofs.Ytjaaefdhdggnkaa.T
set_option maxRecDepth 100000
set_option linter.unusedSimpArgs false
set_option linter.unusedVariables false

set_option maxHeartbeats 2000000 in
theorem s5 {t : Trap} {o w : AV} (H0 : TrIn t o w) (HU : TrUp t o w) (y j : Wd) : Iso E 5 [trV t o w, .agg y.e, .agg j.e] false = some (Bo true) := by
  have ho := H0.o
  have hw := H0.w
  have d19 := s19
  have c16 := fun st => s16 H0 st
  have c35 := fun st => s35u HU y st
  have N0 : TrIn (t.add y).cp (cpO (t.add y).op) (slV 4 Wd.e (t.add y).ws) := ⟨cpO_is, slV_is⟩
  have c16n := fun st => s16 N0 st
  have hq := N0.o
  have hq' := N0.w
  obtain ⟨o', eo⟩ : ∃ o', o' = cpO (t.add y).op := ⟨_, rfl⟩
  obtain ⟨w', ew⟩ : ∃ w', w' = slV 4 Wd.e (t.add y).ws := ⟨_, rfl⟩
  rw [← eo, ← ew] at N0
  rw [← eo] at hq
  rw [← ew] at hq'
  have en1 : (t.add y).cp.ch = t.ch := rfl
  have en2 : (t.add y).cp.tm = t.tm := rfl
  have c35' : ∀ st, Iso E 35 [.agg [I t.ch, I t.tm, o, w], .agg y.e] st = some (.agg [I t.ch, I t.tm, o', w']) := by rw [eo, ew]; exact c35
  have c16n' : ∀ st, Iso E 16 [.agg [I t.ch, I t.tm, o', w']] st = some (Bo (rdy (t.add y).cp)) := by rw [eo, ew]; exact c16n
  clear c35 c16n
  simp only [trV, Wd.e] at c16 c35'
  cases hr : rdy t
  case false =>
    rw [hr] at c16
    refine Iso_of (es _ _ _ _) e5 ?_
    simp only [f5, trV, Wd.e]
    simp (disch := first | assumption | omega | (simp only [az]; done)) only [ru, eq_self, if_true, if_false, BEq.rfl, binI, AO.row?, splice, fillL, mmAll, loadV, storeV, zeros, Am.rowAt, Am.part, addOff, Nat.reduceAdd, Nat.reduceMul, Nat.reduceLeDiff, Nat.reduceSub, Nat.reduceLT, Int.reduceEq, Int.reduceLT, Int.reduceLE, Int.reduceGT, Int.reduceGE, Int.reduceAdd, Int.reduceSub, Int.reduceMul, Int.reduceNeg, Int.reduceToNat, reduceCtorEq, reduceIte, lenV_sl ho, elem_sl Ls.el ho, view_sl ho, scalar_sl ho, cells_sl ho, pure_sl ho, lenV_sl hw, elem_sl Wd.el hw, view_sl hw, scalar_sl hw, cells_sl hw, pure_sl hw, lenV_sl hq, elem_sl Ls.el hq, view_sl hq, scalar_sl hq, cells_sl hq, pure_sl hq, lenV_sl hq', elem_sl Wd.el hq', view_sl hq', scalar_sl hq', cells_sl hq', pure_sl hq', c35', c16, d19, gUn]
  rw [hr] at c16
  cases hrn : rdy (t.add y).cp
  case false =>
    rw [hrn] at c16n'
    refine Iso_of (es _ _ _ _) e5 ?_
    simp only [f5, trV, Wd.e]
    simp (disch := first | assumption | omega | (simp only [az]; done)) only [ru, eq_self, if_true, if_false, BEq.rfl, binI, AO.row?, splice, fillL, mmAll, loadV, storeV, zeros, Am.rowAt, Am.part, addOff, Nat.reduceAdd, Nat.reduceMul, Nat.reduceLeDiff, Nat.reduceSub, Nat.reduceLT, Int.reduceEq, Int.reduceLT, Int.reduceLE, Int.reduceGT, Int.reduceGE, Int.reduceAdd, Int.reduceSub, Int.reduceMul, Int.reduceNeg, Int.reduceToNat, reduceCtorEq, reduceIte, lenV_sl ho, elem_sl Ls.el ho, view_sl ho, scalar_sl ho, cells_sl ho, pure_sl ho, lenV_sl hw, elem_sl Wd.el hw, view_sl hw, scalar_sl hw, cells_sl hw, pure_sl hw, lenV_sl hq, elem_sl Ls.el hq, view_sl hq, scalar_sl hq, cells_sl hq, pure_sl hq, lenV_sl hq', elem_sl Wd.el hq', view_sl hq', scalar_sl hq', cells_sl hq', pure_sl hq', c35', c16, c16n', d19, gUn]
  rw [hrn] at c16n'
  obtain ⟨hg, hv⟩ := rdy_h hr
  obtain ⟨hgn, hvn⟩ := rdy_h hrn
  have H := H0.ok hg
  have HN := N0.ok hgn
  obtain ⟨b, c36, hb⟩ := one_val HN hvn
  have c36' : ∀ st, Iso E 36 [.agg [I t.ch, I t.tm, o', w']] st = some (Bo b) := c36
  cases b
  · refine Iso_of (es _ _ _ _) e5 ?_
    simp only [f5, trV, Wd.e]
    simp (disch := first | assumption | omega | (simp only [az]; done)) only [ru, eq_self, if_true, if_false, BEq.rfl, binI, AO.row?, splice, fillL, mmAll, loadV, storeV, zeros, Am.rowAt, Am.part, addOff, Nat.reduceAdd, Nat.reduceMul, Nat.reduceLeDiff, Nat.reduceSub, Nat.reduceLT, Int.reduceEq, Int.reduceLT, Int.reduceLE, Int.reduceGT, Int.reduceGE, Int.reduceAdd, Int.reduceSub, Int.reduceMul, Int.reduceNeg, Int.reduceToNat, reduceCtorEq, reduceIte, lenV_sl ho, elem_sl Ls.el ho, view_sl ho, scalar_sl ho, cells_sl ho, pure_sl ho, lenV_sl hw, elem_sl Wd.el hw, view_sl hw, scalar_sl hw, cells_sl hw, pure_sl hw, lenV_sl hq, elem_sl Ls.el hq, view_sl hq, scalar_sl hq, cells_sl hq, pure_sl hq, lenV_sl hq', elem_sl Wd.el hq', view_sl hq', scalar_sl hq', cells_sl hq', pure_sl hq', c35', c16, c16n', c36', d19, gUn]
  have sn := hb.1 rfl
  have sub : ∀ x, Tr (t.add y).cp x → Tr t x := fun x hx => (tr_add.1 (tr_cp.1 hx)).1
  have sv : Solv t.C t.T t := by obtain ⟨x, hx⟩ := solv_tr.1 sn; exact solv_tr.2 ⟨x, sub x hx⟩
  have c37 : ∀ st, Iso E 37 [.agg [I t.ch, I t.tm, o', w'], .agg [I t.ch, I t.tm, o, w]] st = some (Bo true) := fun st => s37 HN H hvn hv rfl rfl sn sub st
  have c28 := fun st => s28 H j st
  simp only [trV, Wd.e] at c28
  cases hW : isW t j
  · rw [hW] at c28
    refine Iso_of (es _ _ _ _) e5 ?_
    simp only [f5, trV, Wd.e]
    simp (disch := first | assumption | omega | (simp only [az]; done)) only [ru, eq_self, if_true, if_false, BEq.rfl, binI, AO.row?, splice, fillL, mmAll, loadV, storeV, zeros, Am.rowAt, Am.part, addOff, Nat.reduceAdd, Nat.reduceMul, Nat.reduceLeDiff, Nat.reduceSub, Nat.reduceLT, Int.reduceEq, Int.reduceLT, Int.reduceLE, Int.reduceGT, Int.reduceGE, Int.reduceAdd, Int.reduceSub, Int.reduceMul, Int.reduceNeg, Int.reduceToNat, reduceCtorEq, reduceIte, lenV_sl ho, elem_sl Ls.el ho, view_sl ho, scalar_sl ho, cells_sl ho, pure_sl ho, lenV_sl hw, elem_sl Wd.el hw, view_sl hw, scalar_sl hw, cells_sl hw, pure_sl hw, lenV_sl hq, elem_sl Ls.el hq, view_sl hq, scalar_sl hq, cells_sl hq, pure_sl hq, lenV_sl hq', elem_sl Wd.el hq', view_sl hq', scalar_sl hq', cells_sl hq', pure_sl hq', c35', c16, c16n', c36', c37, c28, d19, gUn]
  rw [hW] at c28
  have hjf : fitB t j = true := (isW_val hv j).trans hW
  have hyf : fitB (t.add y).cp y = true := (valid_trb hvn).fw y (by show y ∈ t.ws ++ [y]; simp)
  obtain ⟨r1, e1, c1, A1⟩ := s29 H j
  obtain ⟨J1, rfl⟩ : JudP t j r1 ∧ e1 = 0 := A1.val hv hjf sv
  obtain ⟨r2, e2, c2, A2⟩ := s29 HN j
  obtain ⟨J2, rfl⟩ : JudP (t.add y).cp j r2 ∧ e2 = 0 := A2.val hvn hjf sn
  obtain ⟨r3, e3, c3, A3⟩ := s29 HN y
  obtain ⟨J3, rfl⟩ : JudP (t.add y).cp y r3 ∧ e3 = 0 := A3.val hvn hyf sn
  have J2' : JudP (t.add y) j r2 := cp_jud J2
  have J3' : JudP (t.add y) y r3 := cp_jud J3
  obtain ⟨x0, hx0⟩ := solv_tr.1 sn
  have hx1 := tr_cp.1 hx0
  obtain rfl : r3 = 1 := by
    rcases J3' with ⟨h, _⟩ | ⟨_, h⟩ | ⟨_, _, x, h1, h2⟩
    · exact h
    · exact absurd (tr_add.1 hx1).2 (h x0 hx1)
    · exact absurd (tr_add.1 h1).2 h2
  have c2' : ∀ st, Iso E 29 [.agg [I t.ch, I t.tm, o', w'], .agg j.e] st = some (.tup [I r2, I 0]) := c2
  have c3' : ∀ st, Iso E 29 [.agg [I t.ch, I t.tm, o', w'], .agg y.e] st = some (.tup [I 1, I 0]) := c3
  simp only [trV, Wd.e] at c1 c2' c3'
  rcases J1 with ⟨rfl, h⟩ | ⟨rfl, h⟩ | ⟨rfl, _⟩
  · obtain rfl : r2 = 1 := by
      rcases J2' with ⟨h', _⟩ | ⟨_, h'⟩ | ⟨_, _, x, h1, h2⟩
      · exact h'
      · exact absurd (h x0 (tr_add.1 hx1).1) (h' x0 hx1)
      · exact absurd (h x (tr_add.1 h1).1) h2
    refine Iso_of (es _ _ _ _) e5 ?_
    simp only [f5, trV, Wd.e]
    simp (disch := first | assumption | omega | (simp only [az]; done)) only [ru, eq_self, if_true, if_false, BEq.rfl, binI, AO.row?, splice, fillL, mmAll, loadV, storeV, zeros, Am.rowAt, Am.part, addOff, Nat.reduceAdd, Nat.reduceMul, Nat.reduceLeDiff, Nat.reduceSub, Nat.reduceLT, Int.reduceEq, Int.reduceLT, Int.reduceLE, Int.reduceGT, Int.reduceGE, Int.reduceAdd, Int.reduceSub, Int.reduceMul, Int.reduceNeg, Int.reduceToNat, reduceCtorEq, reduceIte, lenV_sl ho, elem_sl Ls.el ho, view_sl ho, scalar_sl ho, cells_sl ho, pure_sl ho, lenV_sl hw, elem_sl Wd.el hw, view_sl hw, scalar_sl hw, cells_sl hw, pure_sl hw, lenV_sl hq, elem_sl Ls.el hq, view_sl hq, scalar_sl hq, cells_sl hq, pure_sl hq, lenV_sl hq', elem_sl Wd.el hq', view_sl hq', scalar_sl hq', cells_sl hq', pure_sl hq', c35', c16, c16n', c36', c37, c28, c1, c2', c3', d19, gUn]
  · obtain rfl : r2 = 2 := by
      rcases J2' with ⟨_, h'⟩ | ⟨h', _⟩ | ⟨_, ⟨x, h1, h2⟩, _⟩
      · exact absurd (h' x0 hx1) (h x0 (tr_add.1 hx1).1)
      · exact h'
      · exact absurd h2 (h x (tr_add.1 h1).1)
    refine Iso_of (es _ _ _ _) e5 ?_
    simp only [f5, trV, Wd.e]
    simp (disch := first | assumption | omega | (simp only [az]; done)) only [ru, eq_self, if_true, if_false, BEq.rfl, binI, AO.row?, splice, fillL, mmAll, loadV, storeV, zeros, Am.rowAt, Am.part, addOff, Nat.reduceAdd, Nat.reduceMul, Nat.reduceLeDiff, Nat.reduceSub, Nat.reduceLT, Int.reduceEq, Int.reduceLT, Int.reduceLE, Int.reduceGT, Int.reduceGE, Int.reduceAdd, Int.reduceSub, Int.reduceMul, Int.reduceNeg, Int.reduceToNat, reduceCtorEq, reduceIte, lenV_sl ho, elem_sl Ls.el ho, view_sl ho, scalar_sl ho, cells_sl ho, pure_sl ho, lenV_sl hw, elem_sl Wd.el hw, view_sl hw, scalar_sl hw, cells_sl hw, pure_sl hw, lenV_sl hq, elem_sl Ls.el hq, view_sl hq, scalar_sl hq, cells_sl hq, pure_sl hq, lenV_sl hq', elem_sl Wd.el hq', view_sl hq', scalar_sl hq', cells_sl hq', pure_sl hq', c35', c16, c16n', c36', c37, c28, c1, c2', c3', d19, gUn]
  · refine Iso_of (es _ _ _ _) e5 ?_
    simp only [f5, trV, Wd.e]
    simp (disch := first | assumption | omega | (simp only [az]; done)) only [ru, eq_self, if_true, if_false, BEq.rfl, binI, AO.row?, splice, fillL, mmAll, loadV, storeV, zeros, Am.rowAt, Am.part, addOff, Nat.reduceAdd, Nat.reduceMul, Nat.reduceLeDiff, Nat.reduceSub, Nat.reduceLT, Int.reduceEq, Int.reduceLT, Int.reduceLE, Int.reduceGT, Int.reduceGE, Int.reduceAdd, Int.reduceSub, Int.reduceMul, Int.reduceNeg, Int.reduceToNat, reduceCtorEq, reduceIte, lenV_sl ho, elem_sl Ls.el ho, view_sl ho, scalar_sl ho, cells_sl ho, pure_sl ho, lenV_sl hw, elem_sl Wd.el hw, view_sl hw, scalar_sl hw, cells_sl hw, pure_sl hw, lenV_sl hq, elem_sl Ls.el hq, view_sl hq, scalar_sl hq, cells_sl hq, pure_sl hq, lenV_sl hq', elem_sl Wd.el hq', view_sl hq', scalar_sl hq', cells_sl hq', pure_sl hq', c35', c16, c16n', c36', c37, c28, c1, c2', c3', d19, gUn]
end Go.Proofs.Ytjaaefdhdggnkaa.S

