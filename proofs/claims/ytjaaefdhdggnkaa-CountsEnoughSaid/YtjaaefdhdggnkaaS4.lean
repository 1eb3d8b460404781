/-
The functions of both sides of stage 1, one after another (S4).
-/
import Derived.Test.YtjaaefdhdggnkaaS3

/-
The laws of stage 1 on Fish and Whole, and on Came and Passed.
-/
namespace Go.Proofs.Ytjaaefdhdggnkaa.S
open Go Go.Am Go.Proofs.Ytjaaefdhdggnkaa.T
set_option maxRecDepth 100000
set_option linter.unusedSimpArgs false
set_option linter.unusedVariables false

end Go.Proofs.Ytjaaefdhdggnkaa.S

/-
What the reference answers: Judge and Enough; the law on them.
-/
namespace Go.Proofs.Ytjaaefdhdggnkaa.S
open Go Go.Am Go.Proofs.Ytjaaefdhdggnkaa.T
set_option maxRecDepth 100000
set_option linter.unusedSimpArgs false
set_option linter.unusedVariables false

/-! what is asked of a copy -/
theorem KnR.map {t : Trap} {fit fit' : Bool} {e : Int} (K : KnR t fit e) (h : t.valid = true → fit' = fit) : KnR t fit' e := by
  cases K with
  | bad hv => exact .bad hv
  | arg hv hf => exact .arg hv ((h hv).trans hf)
  | none hv hf hn => exact .none hv ((h hv).trans hf) hn
  | ok hv hf hs => exact .ok hv ((h hv).trans hf) hs
theorem s43 (n : Int) (st : Bool) : Iso E 43 [I n] st = some (Bo (fishB n)) := by
  refine Iso_of (es _ _ _ _) e43 ?_
  simp only [f43]
  have e : fishB n = inR n 1 40 := rfl
  rw [e]
  simp (disch := first | assumption | omega | (simp only [az]; done)) only [ru, eq_self, if_true, if_false, BEq.rfl, binI, AO.row?, splice, fillL, mmAll, loadV, storeV, zeros, Am.rowAt, Am.part, addOff, Nat.reduceAdd, Nat.reduceMul, Nat.reduceLeDiff, Nat.reduceSub, Nat.reduceLT, Int.reduceEq, Int.reduceLT, Int.reduceLE, Int.reduceGT, Int.reduceGE, Int.reduceAdd, Int.reduceSub, Int.reduceMul, Int.reduceNeg, Int.reduceToNat, reduceCtorEq, reduceIte, s30]

end Go.Proofs.Ytjaaefdhdggnkaa.S

/-
Whether a trap is ready; the law of time.
-/
namespace Go.Proofs.Ytjaaefdhdggnkaa.S
open Go Go.Am Go.Proofs.Ytjaaefdhdggnkaa.T
set_option maxRecDepth 100000
set_option linter.unusedSimpArgs false
set_option linter.unusedVariables false

def rdy (t : Trap) : Bool := !t.huge && t.valid
theorem s16 {t : Trap} {o w : AV} (H0 : TrIn t o w) (st : Bool) : Iso E 16 [trV t o w] st = some (Bo (rdy t)) := by
  have ho := H0.o
  have hw := H0.w
  have c53 := fun st => s53 H0 st
  unfold rdy
  cases hg : t.huge
  case true =>
    refine Iso_of (es _ _ _ _) e16 ?_
    simp only [f16, trV, hg] at c53 ⊢
    simp (disch := first | assumption | omega | (simp only [az]; done)) only [ru, eq_self, if_true, if_false, BEq.rfl, binI, AO.row?, splice, fillL, mmAll, loadV, storeV, zeros, Am.rowAt, Am.part, addOff, Nat.reduceAdd, Nat.reduceMul, Nat.reduceLeDiff, Nat.reduceSub, Nat.reduceLT, Int.reduceEq, Int.reduceLT, Int.reduceLE, Int.reduceGT, Int.reduceGE, Int.reduceAdd, Int.reduceSub, Int.reduceMul, Int.reduceNeg, Int.reduceToNat, reduceCtorEq, reduceIte, lenV_sl ho, elem_sl Ls.el ho, view_sl ho, scalar_sl ho, cells_sl ho, pure_sl ho, lenV_sl hw, elem_sl Wd.el hw, view_sl hw, scalar_sl hw, cells_sl hw, pure_sl hw, c53, gUn, Bool.not_true, Bool.false_and]
  have c55 := fun st => s55 (H0.ok hg) st
  refine Iso_of (es _ _ _ _) e16 ?_
  simp only [f16, trV, hg, chkE] at c53 c55 ⊢
  cases hv : t.valid
  · simp only [hv, Bool.false_eq_true, if_false] at c55
    simp (disch := first | assumption | omega | (simp only [az]; done)) only [ru, eq_self, if_true, if_false, BEq.rfl, binI, AO.row?, splice, fillL, mmAll, loadV, storeV, zeros, Am.rowAt, Am.part, addOff, Nat.reduceAdd, Nat.reduceMul, Nat.reduceLeDiff, Nat.reduceSub, Nat.reduceLT, Int.reduceEq, Int.reduceLT, Int.reduceLE, Int.reduceGT, Int.reduceGE, Int.reduceAdd, Int.reduceSub, Int.reduceMul, Int.reduceNeg, Int.reduceToNat, reduceCtorEq, reduceIte, lenV_sl ho, elem_sl Ls.el ho, view_sl ho, scalar_sl ho, cells_sl ho, pure_sl ho, lenV_sl hw, elem_sl Wd.el hw, view_sl hw, scalar_sl hw, cells_sl hw, pure_sl hw, c53, c55, Bool.not_false, Bool.true_and]
  · simp only [hv, if_true] at c55
    simp (disch := first | assumption | omega | (simp only [az]; done)) only [ru, eq_self, if_true, if_false, BEq.rfl, binI, AO.row?, splice, fillL, mmAll, loadV, storeV, zeros, Am.rowAt, Am.part, addOff, Nat.reduceAdd, Nat.reduceMul, Nat.reduceLeDiff, Nat.reduceSub, Nat.reduceLT, Int.reduceEq, Int.reduceLT, Int.reduceLE, Int.reduceGT, Int.reduceGE, Int.reduceAdd, Int.reduceSub, Int.reduceMul, Int.reduceNeg, Int.reduceToNat, reduceCtorEq, reduceIte, lenV_sl ho, elem_sl Ls.el ho, view_sl ho, scalar_sl ho, cells_sl ho, pure_sl ho, lenV_sl hw, elem_sl Wd.el hw, view_sl hw, scalar_sl hw, cells_sl hw, pure_sl hw, c53, c55, Bool.not_false, Bool.true_and]
theorem rdy_h {t : Trap} (h : rdy t = true) : t.huge = false ∧ t.valid = true := by
  unfold rdy at h
  simpa using h
section
variable {t : Trap} {fit : Bool} {f : (Nat → Int) → Int} {lo hi e : Int}
theorem Ans.val (A : Ans t fit f lo hi e) (hv : t.valid = true) (hf : fit = true) (hs : Solv t.C t.T t) : e = 0 ∧ Xt t f lo hi := by
  cases A with
  | bad h => rw [hv] at h; cases h
  | arg _ h => rw [hf] at h; cases h
  | none _ _ h => exact absurd hs h
  | ok _ _ _ h => exact ⟨rfl, h⟩
theorem tr_mono (V : TrB t) {x : Nat → Int} (hx : Tr t x) {i c : Nat} (hc : c < t.C) : ∀ d, i + d < t.T → x (sumN t.C i c) ≤ x (sumN t.C (i + d) c)
  | 0, _ => Int.le_refl _
  | d + 1, h => by
    have h1 := tr_mono V hx (i := i) hc d (by omega)
    have eT := trT V
    have vo := V.o
    have := (hx.2.m (i + d) c (by omega) hc).1
    unfold flow at this
    rw [show i + (d + 1) = i + d + 1 from rfl]
    omega
theorem tr_le (V : TrB t) {x : Nat → Int} (hx : Tr t x) {i j c : Nat} (hc : c < t.C) (hij : i ≤ j) (hj : j < t.T) : x (sumN t.C i c) ≤ x (sumN t.C j c) := by
  have := tr_mono V hx hc (i := i) (j - i) (by omega)
  rwa [show i + (j - i) = j by omega] at this
theorem gap_last {x : Nat → Int} {C i : Nat} (hC : 1 ≤ C) : gap C x i (C - 1) = x (sumN C i (C - 1)) - x 0 := by
  unfold gap
  rw [show C - 1 + 1 = C by omega, sumN_last]
/-- an end moves with the truths -/
theorem xt_le {f g : (Nat → Int) → Int} {a b c d : Int} (X : Xt t f a b) (Y : Xt t g c d) (h : ∀ x, Tr t x → f x ≤ g x) : a ≤ c ∧ b ≤ d := by
  obtain ⟨p, ⟨x, h1, h2⟩, y, h3, h4⟩ := xt_tr X
  obtain ⟨q, ⟨u, k1, k2⟩, v, k3, k4⟩ := xt_tr Y
  have a1 := h u k1
  have a2 := (p u k1).1
  have a3 := h y h3
  have a4 := (q y h3).2
  omega
end

end Go.Proofs.Ytjaaefdhdggnkaa.S

/-
Fish of all chambers at all times.
-/
namespace Go.Proofs.Ytjaaefdhdggnkaa.S
open Go Go.Am Go.Proofs.Ytjaaefdhdggnkaa.T
set_option maxRecDepth 100000
set_option linter.unusedSimpArgs false
set_option linter.unusedVariables false

/-- spans, row by row -/
def spRow (C : Nat) (S : Nat → Nat → Spn) (i : Nat) : List Spn := (List.range C).map fun c => S i c
def encR (r : List Spn) : List AV := [slV 2 Spn.e r]
def spR (C T : Nat) (S : Nat → Nat → Spn) : List (List Spn) := (List.range T).map fun i => spRow C S i
def spV (C T : Nat) (S : Nat → Nat → Spn) : AV := slV 1 encR (spR C T S)
theorem spRow_len {C i : Nat} {S : Nat → Nat → Spn} : (spRow C S i).length = C := by simp [spRow]
theorem spR_len {C T : Nat} {S : Nat → Nat → Spn} : (spR C T S).length = T := by simp [spR]
theorem encR_len (r : List Spn) : (encR r).length = 1 := rfl
theorem spR_at {C T i : Nat} {S : Nat → Nat → Spn} (hi : i < T) : (spR C T S).getD i default = spRow C S i := by
  simp [spR, List.getD_eq_getElem?_getD, hi]
theorem spRow_at {C i c : Nat} {S : Nat → Nat → Spn} (hc : c < C) : (spRow C S i).getD c default = S i c := by
  simp [spRow, List.getD_eq_getElem?_getD, hc]
theorem spRow_succ {i c : Nat} {S : Nat → Nat → Spn} : (spRow (c + 1) S i).flatMap Spn.e = (spRow c S i).flatMap Spn.e ++ [I (S i c).lo, I (S i c).hi] := by
  unfold spRow
  rw [List.range_succ, List.map_append, List.flatMap_append]
  rfl
theorem sps_view {st : Bool} {h : List AO} {n : Nat} (l : List Spn) : (l.flatMap Spn.e).mapM (view st h n) = some (l.flatMap Spn.e) := by
  induction l with
  | nil => rfl
  | cons a l ih =>
    show (I a.lo :: I a.hi :: l.flatMap Spn.e).mapM (view st h n) = _
    simp only [List.mapM_cons, view_int, ih]; rfl
/-- as they lie in the heap -/
def SpsH (h : List AO) (v : AV) (C i : Nat) (S : Nat → Nat → Spn) : Prop :=
  (i = 0 ∧ v = .nils) ∨ (0 < i ∧ ∃ o vs, v = .ms 1 o 0 i ∧ h[o]? = some (.cells vs false) ∧ vs.length = i ∧ ∀ j, j < i → ∃ p, p ≠ o ∧ vs.getD j .undef = .ms 2 p 0 C ∧ h[p]? = some (.cells ((spRow C S j).flatMap Spn.e) false))
theorem SpsH.sc {h : List AO} {v : AV} {C i : Nat} {S : Nat → Nat → Spn} (H : SpsH h v C i S) : v.scalar = true ∧ v.cells = [v] := by
  rcases H with ⟨_, rfl⟩ | ⟨_, o, vs, rfl, _⟩ <;> exact ⟨rfl, rfl⟩
theorem SpsH.fr {h h' : List AO} {v : AV} {C i : Nat} {S : Nat → Nat → Spn} (H : SpsH h v C i S) (hf : ∀ k, k < h.length → h'[k]? = h[k]?) : SpsH h' v C i S := by
  rcases H with H | ⟨h0, o, vs, h1, ho, hl, hr⟩
  · exact .inl H
  · refine .inr ⟨h0, o, vs, h1, by rw [hf o (List.getElem?_eq_some_iff.1 ho).1]; exact ho, hl, fun j hj => ?_⟩
    obtain ⟨p, p1, e, hp⟩ := hr j hj
    exact ⟨p, p1, e, by rw [hf p (List.getElem?_eq_some_iff.1 hp).1]; exact hp⟩
theorem SpsH.view {h : List AO} {v : AV} {C T : Nat} {S : Nat → Nat → Spn} (H : SpsH h v C T S) (hT : 0 < T) (n : Nat) (st : Bool) : view st h (n + 2) v = some (spV C T S) := by
  rcases H with ⟨h0, _⟩ | ⟨h0, o, vs, rfl, ho, hl, hr⟩
  · omega
  rw [view_ms, rowOf_ms]
  simp only [Am.rowAt, ho, Option.bind_some, AO.row?, List.drop_zero]
  rw [List.take_of_length_le (by omega), if_pos (by omega)]
  have hf : ((spR C T S).flatMap encR).length = T := by rw [flat_len encR_len, spR_len, Nat.mul_one]
  have hm : vs.mapM (Am.view st h (n + 1)) = some ((spR C T S).flatMap encR) := by
    refine mapM_get (by omega) fun i hi => ?_
    have hi' : i < T := by omega
    obtain ⟨p, _, e, hp⟩ := hr i hi'
    rw [e, view_ms, rowOf_ms]
    simp only [Am.rowAt, hp, Option.bind_some, AO.row?, List.drop_zero]
    have fl : ((spRow C S i).flatMap Spn.e).length = C * 2 := by rw [flat_len Spn.el, spRow_len]
    rw [List.take_of_length_le (by omega), if_pos fl]
    simp only [sps_view, Option.map_some]
    have hc : i < (spR C T S).length := by rw [spR_len]; exact hi'
    have := flat_at encR_len (spR C T S) i hc
    have e2 : (spR C T S)[i] = spRow C S i := by
      have := spR_at (S := S) (C := C) hi'
      rwa [List.getD_eq_getElem?_getD, List.getElem?_eq_getElem hc, Option.getD_some] at this
    rw [e2, Nat.mul_one] at this
    have e3 : ((spR C T S).flatMap encR).getD i .undef = slV 2 Spn.e (spRow C S i) := by
      have h4 : (((spR C T S).flatMap encR).drop i).head? = some (slV 2 Spn.e (spRow C S i)) := by
        have := congrArg List.head? this
        rw [List.head?_take] at this
        simpa [encR] using this
      rw [List.head?_drop] at h4
      rw [List.getD_eq_getElem?_getD, h4]; rfl
    rw [e3]
    simp only [slV, spRow_len]
  simp only [hm, Option.map_some, spV, slV, spR_len]

/-- the answers of Fish, by place -/
theorem fish_all {t : Trap} {o w : AV} (H : TrOk t o w) (hv : t.valid = true) (hs : Solv t.C t.T t) : ∃ S : Nat → Nat → Spn, ∀ i c, i < t.T → c < t.C →
    (∀ st, Iso E 32 [trV t o w, I i, I c] st = some (.tup [.agg [I (S i c).lo, I (S i c).hi], I 0])) ∧ Xt t (fun x => gap t.C x i c) (S i c).lo (S i c).hi := by
  have eC := eqC hv; have eT := eqT hv
  have key : ∀ i c : Nat, ∃ s : Spn, i < t.T → c < t.C → (∀ st, Iso E 32 [trV t o w, I i, I c] st = some (.tup [.agg [I s.lo, I s.hi], I 0])) ∧ Xt t (fun x => gap t.C x i c) s.lo s.hi := by
    intro i c
    obtain ⟨lo, hi, e, h, A⟩ := s32 H i c
    by_cases hp : i < t.T ∧ c < t.C
    · have p1 : placeB t i c = true := by simp only [placeB, Bool.and_eq_true, decide_eq_true_eq]; omega
      obtain ⟨rfl, X⟩ := A.val hv p1 hs
      exact ⟨⟨lo, hi⟩, fun _ _ => ⟨h, X⟩⟩
    · exact ⟨⟨0, 0⟩, fun a b => absurd ⟨a, b⟩ hp⟩
  exact ⟨fun i c => (key i c).choose, fun i c hi hc => (key i c).choose_spec hi hc⟩

set_option maxHeartbeats 2000000 in
theorem s20 {t : Trap} {o w : AV} (H : TrOk t o w) (hv : t.valid = true) {S : Nat → Nat → Spn} (hS : ∀ i c, i < t.T → c < t.C →
    (∀ st, Iso E 32 [trV t o w, I i, I c] st = some (.tup [.agg [I (S i c).lo, I (S i c).hi], I 0])) ∧ Xt t (fun x => gap t.C x i c) (S i c).lo (S i c).hi) : ∀ st, Iso E 20 [trV t o w] st = some (.tup [spV t.C t.T S, Bo true]) := by
  have V := valid_trb hv
  have v1 := V.c0; have v2 := V.c1; have v3 := V.t0; have v4 := V.t1
  have eC := eqC hv; have eT := eqT hv
  intro st
  suffices hR : ∃ r h', R E (.fn 20) [trV t o w] [] 0 = some (r, h') ∧ ∃ v, r = .tup [v, Bo true] ∧ SpsH h' v t.C t.T S by
    obtain ⟨r, h', hr, v, rfl, hp⟩ := hR
    simp only [Iso, hr]
    show (([v, Bo true].mapM (view st h' 7)).map AV.tup) = _
    have := hp.view (by omega) 5 st
    simp only [List.mapM_cons, List.mapM_nil, this, view_bool]
    rfl
  refine R_of (f := 20) (fun r h' => ∃ v, r = .tup [v, Bo true] ∧ SpsH h' v t.C t.T S) (es _ _ _ _) e20 ?_
  simp only [f20, trV]
  simp (disch := first | assumption | omega | (simp only [az]; done)) only [ru, eq_self, if_true, if_false, BEq.rfl, binI, AO.row?, splice, fillL, mmAll, loadV, storeV, zeros, Am.rowAt, Am.part, addOff, Nat.reduceAdd, Nat.reduceMul, Nat.reduceLeDiff, Nat.reduceSub, Nat.reduceLT, Int.reduceEq, Int.reduceLT, Int.reduceLE, Int.reduceGT, Int.reduceGE, Int.reduceAdd, Int.reduceSub, Int.reduceMul, Int.reduceNeg, Int.reduceToNat, reduceCtorEq, reduceIte, lenV_sl H.o, lenV_sl H.w, elem_sl Ls.el H.o, elem_sl Wd.el H.w, view_sl H.o, view_sl H.w, scalar_sl H.o, scalar_sl H.w, cells_sl H.o, cells_sl H.w, pure_sl H.o, pure_sl H.w, Int.toNat_natCast]
  refine G_loop_ind (fun q ts hk mk => ∃ (i : Nat) (v : AV), i ≤ t.T ∧ q = t.T - i ∧ ts.length = 57 ∧ ts.getD 1 .undef = .ptr 0 0 ∧ ts.getD 4 .undef = v ∧ ts.getD 5 .undef = I i ∧ 1 ≤ hk.length ∧ hk[0]? = some (.cells [I t.ch, I t.tm, o, w] false) ∧ SpsH hk v t.C i S ∧ mk = []) ?_ _ _ _ _
    ⟨0, .nils, Nat.zero_le _, rfl, rfl, rfl, rfl, rfl, by simp, rfl, .inl ⟨rfl, rfl⟩, rfl⟩
  rintro q ts hk mk ih ⟨i, v, hi, rfl, hl, q1, q4, q5, hg, k0, HS, rfl⟩
  rw [lit_all hl]
  simp only [lit0, litS, Nat.reduceAdd, q1, q4, q5]
  simp (disch := first | assumption | omega | (simp only [az]; done)) only [ru, eq_self, if_true, if_false, BEq.rfl, binI, AO.row?, splice, fillL, mmAll, loadV, storeV, zeros, Am.rowAt, Am.part, addOff, Nat.reduceAdd, Nat.reduceMul, Nat.reduceLeDiff, Nat.reduceSub, Nat.reduceLT, Int.reduceEq, Int.reduceLT, Int.reduceLE, Int.reduceGT, Int.reduceGE, Int.reduceAdd, Int.reduceSub, Int.reduceMul, Int.reduceNeg, Int.reduceToNat, reduceCtorEq, reduceIte, k0]
  by_cases hlt : (i : Int) < t.tm
  case neg =>
    have hi3 : i = t.T := by omega
    subst hi3
    simp (disch := first | assumption | omega | (simp only [az]; done)) only [ru, eq_self, if_true, if_false, BEq.rfl, binI, AO.row?, splice, fillL, mmAll, loadV, storeV, zeros, Am.rowAt, Am.part, addOff, Nat.reduceAdd, Nat.reduceMul, Nat.reduceLeDiff, Nat.reduceSub, Nat.reduceLT, Int.reduceEq, Int.reduceLT, Int.reduceLE, Int.reduceGT, Int.reduceGE, Int.reduceAdd, Int.reduceSub, Int.reduceMul, Int.reduceNeg, Int.reduceToNat, reduceCtorEq, reduceIte, hlt]
    exact ⟨v, rfl, HS⟩
  have hi2 : i < t.T := by omega
  simp (disch := first | assumption | omega | (simp only [az]; done)) only [ru, eq_self, if_true, if_false, BEq.rfl, binI, AO.row?, splice, fillL, mmAll, loadV, storeV, zeros, Am.rowAt, Am.part, addOff, Nat.reduceAdd, Nat.reduceMul, Nat.reduceLeDiff, Nat.reduceSub, Nat.reduceLT, Int.reduceEq, Int.reduceLT, Int.reduceLE, Int.reduceGT, Int.reduceGE, Int.reduceAdd, Int.reduceSub, Int.reduceMul, Int.reduceNeg, Int.reduceToNat, reduceCtorEq, reduceIte, hlt]
  clear hl q1 q4 q5
  refine G_loop_ind (fun q ts hh mk => ∃ (c : Nat) (l : AV), c ≤ t.C ∧ q = t.C - c ∧ ts.length = 57 ∧ ts.getD 1 .undef = .ptr 0 0 ∧ ts.getD 4 .undef = v ∧ ts.getD 5 .undef = I i ∧ ts.getD 6 .undef = l ∧ ts.getD 7 .undef = I c ∧ hk.length ≤ hh.length ∧ (∀ k, k < hk.length → hh[k]? = hk[k]?) ∧
    ((c = 0 ∧ l = .nils) ∨ (0 < c ∧ ∃ p, hk.length ≤ p ∧ l = .ms 2 p 0 c ∧ hh[p]? = some (.cells ((spRow c S i).flatMap Spn.e) false))) ∧ mk = []) ?_ _ _ _ _
    ⟨0, .nils, Nat.zero_le _, rfl, rfl, rfl, rfl, rfl, rfl, rfl, Nat.le_refl _, fun _ _ => rfl, .inl ⟨rfl, rfl⟩, rfl⟩
  rintro q ts hh mk ihC ⟨c, l, hc, rfl, hl, q1, q4, q5, q6, q7, hgg, fr, hL, rfl⟩
  rw [lit_all hl]
  simp only [lit0, litS, Nat.reduceAdd, q1, q4, q5, q6, q7]
  have f0 : hh[0]? = some (.cells [I t.ch, I t.tm, o, w] false) := by rw [fr 0 (by omega)]; exact k0
  simp (disch := first | assumption | omega | (simp only [az]; done)) only [ru, eq_self, if_true, if_false, BEq.rfl, binI, AO.row?, splice, fillL, mmAll, loadV, storeV, zeros, Am.rowAt, Am.part, addOff, Nat.reduceAdd, Nat.reduceMul, Nat.reduceLeDiff, Nat.reduceSub, Nat.reduceLT, Int.reduceEq, Int.reduceLT, Int.reduceLE, Int.reduceGT, Int.reduceGE, Int.reduceAdd, Int.reduceSub, Int.reduceMul, Int.reduceNeg, Int.reduceToNat, reduceCtorEq, reduceIte, f0]
  by_cases hlc : (c : Int) < t.ch
  case neg =>
    have hc3 : c = t.C := by omega
    rcases hL with ⟨h1, _⟩ | ⟨h1, p, h2, rfl, h3⟩
    · omega
    subst hc3
    obtain ⟨z, hz⟩ : ∃ z, z = AV.ms 2 p 0 t.C := ⟨_, rfl⟩
    have zs : z.scalar = true ∧ z.cells = [z] := by rw [hz]; exact ⟨rfl, rfl⟩
    rw [← hz]
    have hr : Am.rowOf (hh ++ [AO.cells [z] false]) (.ms 1 hh.length 0 1) = some [z] := by rw [rowOf_ms]; simp only [Am.rowAt, atT0]; rfl
    have zs2 : [z].all AV.scalar = true := by simp [zs.1]
    have pl := (List.getElem?_eq_some_iff.1 h3).1
    have key : ∃ v' h', appV 0 (hh ++ [AO.cells [z] false]) 1 24 v (.ms 1 hh.length 0 1) = some (v', h') ∧ hh.length < h'.length ∧ h'[0]? = some (.cells [I t.ch, I t.tm, o, w] false) ∧ SpsH h' v' t.C (i + 1) S := by
      rcases HS with ⟨e1, rfl⟩ | ⟨e0, o', vs, rfl, a4, a5, a6⟩
      · subst e1
        have ev := appV_nil (lim := 0) (esz := 1) (eb := 24) (n := 1) (x := .ms 1 hh.length 0 1) rfl hr rfl zs2 (by omega) (by omega)
        rw [if_neg (by omega)] at ev
        refine ⟨_, _, ev, by simp <;> omega, ?_, .inr ⟨by omega, (hh ++ [AO.cells [z] false]).length, [z], rfl, by rw [atT0]; rfl, rfl, fun j hj => ?_⟩⟩
        · rw [at_ap (by simp), at_ap (by omega)]; exact f0
        · obtain rfl : j = 0 := by omega
          exact ⟨p, by simp; omega, hz, by rw [at_ap (by simp; omega), at_ap pl]; exact h3⟩
      · have o2 := (List.getElem?_eq_some_iff.1 a4).1
        have go : (hh ++ [AO.cells [z] false])[o']? = some (.cells vs false) := by rw [at_ap (by omega), fr o' o2]; exact a4
        have ev := appV_ms (lim := 0) (esz := 1) (eb := 24) (n := 1) (len := i) (x := .ms 1 hh.length 0 1) go (by omega) rfl hr rfl zs2 (by omega) (by omega) (Nat.zero_le _)
        rw [if_neg (by omega)] at ev
        have o0 : o' ≠ 0 := fun e => by
          subst e
          rw [k0] at a4
          simp only [Option.some.injEq, AO.cells.injEq, and_true] at a4
          obtain ⟨p', _, e2, _⟩ := a6 0 e0
          rw [← a4] at e2
          cases e2
        refine ⟨_, _, ev, by simp <;> omega, ?_, .inr ⟨by omega, (hh ++ [AO.cells [z] false]).length, vs ++ [z], rfl, by rw [show (hh ++ [AO.cells [z] false]).length = ((hh ++ [AO.cells [z] false]).set o' .tomb).length by simp, atT0]; rfl, by simp [a5], fun j hj => ?_⟩⟩
        · rw [at_ap (by simp), List.getElem?_set_ne (by omega), at_ap (by omega)]; exact f0
        · by_cases e : j = i
          · subst e
            refine ⟨p, by simp; omega, ?_, ?_⟩
            · rw [← hz, ← a5, getT0]; rfl
            · rw [at_ap (by simp; omega), List.getElem?_set_ne (by omega), at_ap pl]; exact h3
          · obtain ⟨p', b1, b2, b3⟩ := a6 j (by omega)
            have p2 := (List.getElem?_eq_some_iff.1 b3).1
            refine ⟨p', by simp; omega, ?_, ?_⟩
            · rw [← b2, List.getD_eq_getElem?_getD, List.getElem?_append_left (by omega), ← List.getD_eq_getElem?_getD]
            · rw [at_ap (by simp; omega), List.getElem?_set_ne (by omega), at_ap (by omega), fr p' p2]; exact b3
    refine key.elim fun v' hh' => hh'.elim fun h' hh' => ?_
    have c1 := hh'.1
    have c2 := hh'.2.1
    have c3 := hh'.2.2.1
    have c4 := hh'.2.2.2
    clear hh' key
    simp (disch := first | assumption | omega | (simp only [az]; done)) only [ru, eq_self, if_true, if_false, BEq.rfl, binI, AO.row?, splice, fillL, mmAll, loadV, storeV, zeros, Am.rowAt, Am.part, addOff, Nat.reduceAdd, Nat.reduceMul, Nat.reduceLeDiff, Nat.reduceSub, Nat.reduceLT, Int.reduceEq, Int.reduceLT, Int.reduceLE, Int.reduceGT, Int.reduceGE, Int.reduceAdd, Int.reduceSub, Int.reduceMul, Int.reduceNeg, Int.reduceToNat, reduceCtorEq, reduceIte, hlc, zs.1, zs.2, c1]
    exact ih (t.T - (i + 1)) _ _ _ (by omega) ⟨i + 1, v', by omega, rfl, rfl, rfl, rfl, rfl, by omega, c3, c4, rfl⟩
  have hc2 : c < t.C := by omega
  have c32 := (hS i c hi2 hc2).1
  have bd := xt_bd hi2 hc2 (hS i c hi2 hc2).2
  simp only [trV] at c32
  have b1 : ¬ (S i c).lo < 0 := by omega
  have b2 : ¬ (S i c).lo > (S i c).hi := by omega
  have b3 : ¬ (S i c).hi > 40 := by omega
  obtain ⟨lo, hlo⟩ : ∃ lo, lo = (S i c).lo := ⟨_, rfl⟩
  obtain ⟨hi', hhi⟩ : ∃ hi', hi' = (S i c).hi := ⟨_, rfl⟩
  have key : ∃ l' h', appV 0 (hh ++ [AO.cells [I lo, I hi'] false, AO.cells [I lo, I hi'] false]) 2 16 l (.ms 2 (hh.length + 1) 0 1) = some (l', h') ∧ hk.length ≤ h'.length ∧ (∀ k, k < hk.length → h'[k]? = hk[k]?) ∧
      ∃ p, hk.length ≤ p ∧ l' = .ms 2 p 0 (c + 1) ∧ h'[p]? = some (.cells ((spRow (c + 1) S i).flatMap Spn.e) false) := by
    obtain ⟨G0, hG0⟩ : ∃ G0 : List AO, G0 = hh ++ [AO.cells [I lo, I hi'] false, AO.cells [I lo, I hi'] false] := ⟨_, rfl⟩
    rw [← hG0]
    have gl : G0.length = hh.length + 2 := by rw [hG0]; simp
    have gk : ∀ k, k < hh.length → G0[k]? = hh[k]? := fun k hk' => by rw [hG0, at_ap hk']
    have g1 : G0[hh.length + 1]? = some (.cells [I lo, I hi'] false) := by rw [hG0, atT]; rfl
    have hr : Am.rowOf G0 (.ms 2 (hh.length + 1) 0 1) = some [I lo, I hi'] := by rw [rowOf_ms]; simp only [Am.rowAt, g1]; rfl
    rcases hL with ⟨e1, rfl⟩ | ⟨e0, p, p1, rfl, p3⟩
    · subst e1
      have ev := appV_nil (lim := 0) (esz := 2) (eb := 16) (n := 1) (x := .ms 2 (hh.length + 1) 0 1) rfl hr rfl rfl (by omega) (by omega)
      rw [if_neg (by omega)] at ev
      refine ⟨_, _, ev, by simp; omega, fun k hk' => ?_, G0.length, by omega, rfl, ?_⟩
      · rw [at_ap (by omega), gk k (by omega)]; exact fr k hk'
      · rw [atT0, spRow_succ, hlo, hhi]; rfl
    · have pl := (List.getElem?_eq_some_iff.1 p3).1
      have go : G0[p]? = some (.cells ((spRow c S i).flatMap Spn.e) false) := by rw [gk p pl]; exact p3
      have ev := appV_ms (lim := 0) (esz := 2) (eb := 16) (n := 1) (len := c) (x := .ms 2 (hh.length + 1) 0 1) go (by rw [flat_len Spn.el, spRow_len]) rfl hr rfl rfl (by omega) (by omega) (Nat.zero_le _)
      rw [if_neg (by omega)] at ev
      refine ⟨_, _, ev, by simp; omega, fun k hk' => ?_, G0.length, by omega, rfl, ?_⟩
      · rw [at_ap (by simp; omega), List.getElem?_set_ne (by omega), gk k (by omega)]; exact fr k hk'
      · rw [show G0.length = (G0.set p .tomb).length by simp, atT0, spRow_succ, hlo, hhi]; rfl
  refine key.elim fun l' hh' => hh'.elim fun h' hh' => ?_
  have d1 := hh'.1
  have d2 := hh'.2.1
  have d3 := hh'.2.2.1
  have d4 := hh'.2.2.2
  clear hh' key
  rw [← hlo, ← hhi] at b2
  rw [← hlo] at b1
  rw [← hhi] at b3
  simp only [← hlo, ← hhi] at c32
  simp (disch := first | assumption | omega | (simp only [az]; done)) only [ru, eq_self, if_true, if_false, BEq.rfl, binI, AO.row?, splice, fillL, mmAll, loadV, storeV, zeros, Am.rowAt, Am.part, addOff, Nat.reduceAdd, Nat.reduceMul, Nat.reduceLeDiff, Nat.reduceSub, Nat.reduceLT, Int.reduceEq, Int.reduceLT, Int.reduceLE, Int.reduceGT, Int.reduceGE, Int.reduceAdd, Int.reduceSub, Int.reduceMul, Int.reduceNeg, Int.reduceToNat, reduceCtorEq, reduceIte, lenV_sl H.o, lenV_sl H.w, elem_sl Ls.el H.o, elem_sl Wd.el H.w, view_sl H.o, view_sl H.w, scalar_sl H.o, scalar_sl H.w, cells_sl H.o, cells_sl H.w, pure_sl H.o, pure_sl H.w, Int.toNat_natCast, hlc, f0, c32, b1, b2, b3, gUn, List.append_assoc, List.cons_append, List.nil_append, lenE, setT, setT0, atT, atT0, getT, getT0, Nat.add_assoc, d1]
  exact ihC (t.C - (c + 1)) _ _ _ (by omega) ⟨c + 1, l', by omega, rfl, rfl, rfl, rfl, rfl, rfl, rfl, d2, d3, .inr ⟨by omega, d4⟩, rfl⟩
end Go.Proofs.Ytjaaefdhdggnkaa.S

/-
No span of a trap is wider than that of another one: narrower.
-/
namespace Go.Proofs.Ytjaaefdhdggnkaa.S
open Go Go.Am Go.Proofs.Ytjaaefdhdggnkaa.T
set_option maxRecDepth 100000
set_option linter.unusedSimpArgs false
set_option linter.unusedVariables false

theorem el_sp (l : List Spn) (i : Int) (h0 : 0 ≤ i) (h1 : i < l.length) : elemAt 2 (slV 2 Spn.e l) (I i) = some (.cptr (Spn.e (l.getD i.toNat default))) := elem_sl Spn.el slV_is i h0 h1
end Go.Proofs.Ytjaaefdhdggnkaa.S

/-
The law of enough fish.
-/
namespace Go.Proofs.Ytjaaefdhdggnkaa.S
open Go Go.Am Go.Proofs.Ytjaaefdhdggnkaa.T
set_option maxRecDepth 100000
set_option linter.unusedSimpArgs false
set_option linter.unusedVariables false

theorem AnsG.val {α : Type} {t : Trap} {fit : Bool} {D : Int → α} {P : α → Prop} {v : α} (A : AnsG t fit D P v) (hv : t.valid = true) (hf : fit = true) (hs : Solv t.C t.T t) : P v := by
  cases A with
  | bad h => rw [hv] at h; cases h
  | arg _ h => rw [hf] at h; cases h
  | none _ _ h => exact absurd hs h
  | ok _ _ _ h => exact h
/-- whether there is a truth, as a bool -/
theorem one_val {t : Trap} {o w : AV} (H : TrOk t o w) (hv : t.valid = true) : ∃ b, (∀ st, Iso E 36 [trV t o w] st = some (Bo b)) ∧ (b = true ↔ Solv t.C t.T t) := s36 H (valid_trb hv) (eqC hv) (eqT hv)
/-- when there are enough, by the ends of the spans -/
theorem en_ends {t : Trap} {n : Int} {lo hi : Nat → Int} (hT : 0 < t.T) (X : ∀ i, i < t.T → Xt t (fun x => gap t.C x i (t.C - 1)) (lo i) (hi i)) (mono : ∀ i j, i ≤ j → j < t.T → lo i ≤ lo j ∧ hi i ≤ hi j) {a b e : Int} (P : EnP t n (a, b, e)) :
    (e = 3 ∧ lo (t.T - 1) < n) ∨ (e = 0 ∧ n ≤ lo (t.T - 1) ∧ ∃ p q : Nat, a = p ∧ b = q ∧ p ≤ q ∧ q < t.T ∧ (∀ i, i < t.T → (n ≤ hi i ↔ p ≤ i)) ∧ ∀ i, i < t.T → (n ≤ lo i ↔ q ≤ i)) := by
  rcases P with ⟨h0, p, q, h1, h2, h3, h4, ⟨x, h5, h6⟩, h7, h8, h9⟩ | ⟨h1, h2⟩
  · simp only at h0 h1 h2
    have at_p := (xt_tr (X p (by omega))).1 x h5
    obtain ⟨_, ⟨y, k1, k2⟩, _⟩ := xt_tr (X q h4)
    try simp only at at_p k2
    have lq : n ≤ lo q := by have := h8 y k1; omega
    refine .inr ⟨h0, by have := (mono q (t.T - 1) (by omega) (by omega)).1; omega, p, q, h1, h2, h3, h4, fun i hi' => ⟨fun h => ?_, fun h => ?_⟩, fun i hi' => ⟨fun h => ?_, fun h => ?_⟩⟩
    · refine Nat.le_of_not_lt fun hl => ?_
      obtain ⟨_, _, z, k3, k4⟩ := xt_tr (X i hi')
      have := h7 i hl z k3
      try simp only at k4
      omega
    · have := (mono p i h hi').2; omega
    · refine Nat.le_of_not_lt fun hl => ?_
      obtain ⟨z, k3, k4⟩ := h9 i hl
      have := (xt_tr (X i hi')).1 z k3
      try simp only at this
      omega
    · have := (mono q i h hi').1; omega
  · simp only [Prod.mk.injEq] at h1
    obtain ⟨z, k3, k4⟩ := h2 (t.T - 1) (by omega)
    have := (xt_tr (X (t.T - 1) (by omega))).1 z k3
    try simp only at this
    exact .inl ⟨h1.2.2, by omega⟩
theorem inR_pq {T p q : Nat} (h1 : p ≤ q) (h2 : q < T) : inR (p : Int) 0 (((T - 1 : Nat) : Int)) = true ∧ inR (q : Int) 0 (((T - 1 : Nat) : Int)) = true := by
  rw [inR_iff, inR_iff]; omega
theorem w_sub {n : Int} {N : Nat} (e : n = N) (h1 : 1 ≤ N) (h2 : N ≤ 100) : wr .i64 (n - 1) = ((N - 1 : Nat) : Int) := by
  rw [wr64 (by omega) (by omega)]; omega
theorem mmx_f (a b : Int) : mmx false a b = if b < a then b else a := rfl
theorem mmx_t (a b : Int) : mmx true a b = if b > a then b else a := rfl

set_option maxHeartbeats 2000000 in
theorem s8 {t : Trap} {o w : AV} (H0 : TrIn t o w) (a b : Int) : Iso E 8 [trV t o w, I a, I b] false = some (Bo true) := by
  have ho := H0.o
  have hw := H0.w
  have c16 := fun st => s16 H0 st
  have d19 := s19
  cases hr : rdy t
  case false =>
    refine Iso_of (es _ _ _ _) e8 ?_
    simp only [f8, trV, hr] at c16 ⊢
    simp (disch := first | assumption | omega | (simp only [az]; done)) only [ru, eq_self, if_true, if_false, BEq.rfl, binI, AO.row?, splice, fillL, mmAll, loadV, storeV, zeros, Am.rowAt, Am.part, addOff, Nat.reduceAdd, Nat.reduceMul, Nat.reduceLeDiff, Nat.reduceSub, Nat.reduceLT, Int.reduceEq, Int.reduceLT, Int.reduceLE, Int.reduceGT, Int.reduceGE, Int.reduceAdd, Int.reduceSub, Int.reduceMul, Int.reduceNeg, Int.reduceToNat, reduceCtorEq, reduceIte, lenV_sl ho, elem_sl Ls.el ho, view_sl ho, scalar_sl ho, cells_sl ho, pure_sl ho, lenV_sl hw, elem_sl Wd.el hw, view_sl hw, scalar_sl hw, cells_sl hw, pure_sl hw, c16, d19]
  obtain ⟨hg, hv⟩ := rdy_h hr
  have H := H0.ok hg
  have V := valid_trb hv
  have v1 := V.c0; have v2 := V.c1; have v3 := V.t0; have v4 := V.t1
  have eC := trC V; have eT := trT V
  have nC : 1 ≤ t.C ∧ t.C ≤ 100 := by omega
  have nT : 1 ≤ t.T ∧ t.T ≤ 100 := by omega
  simp only [trV, hr] at c16
  obtain ⟨b1, c36, hb1⟩ := one_val H hv
  simp only [trV] at c36
  have c43 := fun n st => s43 n st
  cases b1
  · refine Iso_of (es _ _ _ _) e8 ?_
    simp only [f8, trV]
    simp (disch := first | assumption | omega | (simp only [az]; done)) only [ru, eq_self, if_true, if_false, BEq.rfl, binI, AO.row?, splice, fillL, mmAll, loadV, storeV, zeros, Am.rowAt, Am.part, addOff, Nat.reduceAdd, Nat.reduceMul, Nat.reduceLeDiff, Nat.reduceSub, Nat.reduceLT, Int.reduceEq, Int.reduceLT, Int.reduceLE, Int.reduceGT, Int.reduceGE, Int.reduceAdd, Int.reduceSub, Int.reduceMul, Int.reduceNeg, Int.reduceToNat, reduceCtorEq, reduceIte, lenV_sl ho, elem_sl Ls.el ho, view_sl ho, scalar_sl ho, cells_sl ho, pure_sl ho, lenV_sl hw, elem_sl Wd.el hw, view_sl hw, scalar_sl hw, cells_sl hw, pure_sl hw, c16, c36, d19, gUn]
  have hs := hb1.1 rfl
  cases f1 : fishB a
  · refine Iso_of (es _ _ _ _) e8 ?_
    simp only [f8, trV]
    simp (disch := first | assumption | omega | (simp only [az]; done)) only [ru, eq_self, if_true, if_false, BEq.rfl, binI, AO.row?, splice, fillL, mmAll, loadV, storeV, zeros, Am.rowAt, Am.part, addOff, Nat.reduceAdd, Nat.reduceMul, Nat.reduceLeDiff, Nat.reduceSub, Nat.reduceLT, Int.reduceEq, Int.reduceLT, Int.reduceLE, Int.reduceGT, Int.reduceGE, Int.reduceAdd, Int.reduceSub, Int.reduceMul, Int.reduceNeg, Int.reduceToNat, reduceCtorEq, reduceIte, lenV_sl ho, elem_sl Ls.el ho, view_sl ho, scalar_sl ho, cells_sl ho, pure_sl ho, lenV_sl hw, elem_sl Wd.el hw, view_sl hw, scalar_sl hw, cells_sl hw, pure_sl hw, c16, c36, c43, f1, d19, gUn]
  cases f2 : fishB b
  · refine Iso_of (es _ _ _ _) e8 ?_
    simp only [f8, trV]
    simp (disch := first | assumption | omega | (simp only [az]; done)) only [ru, eq_self, if_true, if_false, BEq.rfl, binI, AO.row?, splice, fillL, mmAll, loadV, storeV, zeros, Am.rowAt, Am.part, addOff, Nat.reduceAdd, Nat.reduceMul, Nat.reduceLeDiff, Nat.reduceSub, Nat.reduceLT, Int.reduceEq, Int.reduceLT, Int.reduceLE, Int.reduceGT, Int.reduceGE, Int.reduceAdd, Int.reduceSub, Int.reduceMul, Int.reduceNeg, Int.reduceToNat, reduceCtorEq, reduceIte, lenV_sl ho, elem_sl Ls.el ho, view_sl ho, scalar_sl ho, cells_sl ho, pure_sl ho, lenV_sl hw, elem_sl Wd.el hw, view_sl hw, scalar_sl hw, cells_sl hw, pure_sl hw, c16, c36, c43, f1, f2, d19, gUn]
  have r1 : 1 ≤ a ∧ a ≤ 40 := by simpa [fishB] using f1
  have r2 : 1 ≤ b ∧ b ≤ 40 := by simpa [fishB] using f2
  obtain ⟨m, hm⟩ : ∃ m, m = mmx false a b := ⟨_, rfl⟩
  obtain ⟨M, hM⟩ : ∃ M, M = mmx true a b := ⟨_, rfl⟩
  have rm : 1 ≤ m ∧ m ≤ 40 ∧ m ≤ M ∧ 1 ≤ M ∧ M ≤ 40 := by
    rw [mmx_f] at hm
    rw [mmx_t] at hM
    split at hm <;> split at hM <;> omega
  have f3 : fishB m = true := by simp only [fishB, Bool.and_eq_true, decide_eq_true_eq]; omega
  have f4 : fishB M = true := by simp only [fishB, Bool.and_eq_true, decide_eq_true_eq]; omega
  obtain ⟨S, hS⟩ := fish_all H hv hs
  have c20 := s20 H hv hS
  obtain ⟨s1, s2, e, c44, A1⟩ := s44 H m
  obtain ⟨u1, u2, f, c44', A2⟩ := s44 H M
  have P1 := A1.val hv f3 hs
  have P2 := A2.val hv f4 hs
  have hC1 : t.C - 1 < t.C := by omega
  have X : ∀ i, i < t.T → Xt t (fun x => gap t.C x i (t.C - 1)) (S i (t.C - 1)).lo (S i (t.C - 1)).hi := fun i hi => (hS i _ hi hC1).2
  have mono : ∀ i j, i ≤ j → j < t.T → (S i (t.C - 1)).lo ≤ (S j (t.C - 1)).lo ∧ (S i (t.C - 1)).hi ≤ (S j (t.C - 1)).hi := fun i j h hj => xt_le (X i (by omega)) (X j hj) fun x hx => by
    rw [gap_last (by omega), gap_last (by omega)]
    have := tr_le V hx (c := t.C - 1) hC1 h hj
    omega
  have Q1 := en_ends (lo := fun i => (S i (t.C - 1)).lo) (hi := fun i => (S i (t.C - 1)).hi) (by omega) X mono P1
  have Q2 := en_ends (lo := fun i => (S i (t.C - 1)).lo) (hi := fun i => (S i (t.C - 1)).hi) (by omega) X mono P2
  have is : IsSl 1 encR (spR t.C t.T S) (spV t.C t.T S) := slV_is
  obtain ⟨pv, hpv⟩ : ∃ pv, pv = spV t.C t.T S := ⟨_, rfl⟩
  rw [← hpv] at c20 is
  simp only [trV] at c20 c44 c44'
  have i0 : ∀ i : Nat, (0 : Int) ≤ i := fun i => by omega
  have la : ∀ i : Nat, i < t.T → (i : Int) < ((spR t.C t.T S).length : Nat) := fun i hi => by rw [spR_len]; omega
  have ma : ∀ i : Nat, ((t.C - 1 : Nat) : Int) < ((spRow t.C S i).length : Nat) := fun i => by rw [spRow_len]; omega
  have ca : ∀ i : Nat, (spRow t.C S i).getD (t.C - 1) default = S i (t.C - 1) := fun i => spRow_at hC1
  have raT := spR_at (C := t.C) (S := S) (i := t.T - 1) (show t.T - 1 < t.T by omega)
  have laT := la (t.T - 1) (by omega)
  have maT := ma (t.T - 1)
  have i0T := i0 (t.T - 1)
  have i0C := i0 (t.C - 1)
  have caT := ca (t.T - 1)
  obtain ⟨l9, hl9⟩ : ∃ l9, l9 = (S (t.T - 1) (t.C - 1)).lo := ⟨_, rfl⟩
  try simp only [← hl9] at Q1 Q2
  have e45 := fun n st => s45 H n st
  simp only [trV] at e45
  have ra := fun (i : Nat) (hi : i < t.T) => spR_at (C := t.C) (S := S) hi
  have fin : ∀ (s1 s2 e u1 u2 f : Int), (∀ st, Iso E 44 [.agg [I t.ch, I t.tm, o, w], I m] st = some (.tup [.agg [I s1, I s2], I e])) → (∀ st, Iso E 44 [.agg [I t.ch, I t.tm, o, w], I M] st = some (.tup [.agg [I u1, I u2], I f])) →
      ((e = 3 ∧ f = 3 ∧ ¬ l9 ≥ m) ∨ (e = 0 ∧ l9 ≥ m ∧ (f = 3 ∨ (f = 0 ∧ s1 ≤ u1 ∧ s2 ≤ u2)) ∧ ∃ p q : Nat, s1 = p ∧ s2 = q ∧ p ≤ q ∧ q < t.T ∧ (∀ i, i < t.T → (m ≤ (S i (t.C - 1)).hi ↔ p ≤ i)) ∧ ∀ i, i < t.T → (m ≤ (S i (t.C - 1)).lo ↔ q ≤ i))) →
      Iso E 8 [.agg [I t.ch, I t.tm, o, w], I a, I b] false = some (Bo true) := by
    clear P1 P2 A1 A2 c44 c44' Q1 Q2
    intro s1 s2 e u1 u2 f c44 c44' cs
    have npq : ∀ p q : Nat, p ≤ q → ¬ (p : Int) > q := fun p q h => by omega
    have wC := w_sub eC nC.1 nC.2
    have wT := w_sub eT nT.1 nT.2
    refine Iso_of (es _ _ _ _) e8 ?_
    simp only [f8, trV]
    rcases cs with ⟨rfl, rfl, n1⟩ | ⟨rfl, n1, hf, p, q, rfl, rfl, pq, qT, hp, hq⟩
    · simp (disch := first | assumption | omega | (simp only [az]; done)) only [ru, eq_self, if_true, if_false, BEq.rfl, binI, AO.row?, splice, fillL, mmAll, loadV, storeV, zeros, Am.rowAt, Am.part, addOff, Nat.reduceAdd, Nat.reduceMul, Nat.reduceLeDiff, Nat.reduceSub, Nat.reduceLT, Int.reduceEq, Int.reduceLT, Int.reduceLE, Int.reduceGT, Int.reduceGE, Int.reduceAdd, Int.reduceSub, Int.reduceMul, Int.reduceNeg, Int.reduceToNat, reduceCtorEq, reduceIte, lenV_sl ho, elem_sl Ls.el ho, view_sl ho, scalar_sl ho, cells_sl ho, pure_sl ho, lenV_sl hw, elem_sl Wd.el hw, view_sl hw, scalar_sl hw, cells_sl hw, pure_sl hw, c16, c36, c43, f1, f2, d19, gUn, c20, ← hm, ← hM, c44, c44', wC, wT]
      simp (disch := first | assumption | omega | (simp only [az]; done)) only [ru, eq_self, if_true, if_false, BEq.rfl, binI, AO.row?, splice, fillL, mmAll, loadV, storeV, zeros, Am.rowAt, Am.part, addOff, Nat.reduceAdd, Nat.reduceMul, Nat.reduceLeDiff, Nat.reduceSub, Nat.reduceLT, Int.reduceEq, Int.reduceLT, Int.reduceLE, Int.reduceGT, Int.reduceGE, Int.reduceAdd, Int.reduceSub, Int.reduceMul, Int.reduceNeg, Int.reduceToNat, reduceCtorEq, reduceIte, elem_sl encR_len is, encR, el_sp, Int.toNat_natCast, raT, laT, maT, i0T, i0C, caT, Spn.e, ← hl9, ← hm, n1, d19, gUn]
    · have tp := (inR_pq pq qT).1
      have tq := (inR_pq pq qT).2
      have nn := npq p q pq
      rcases hf with rfl | ⟨rfl, k1, k2⟩
      · simp (disch := first | assumption | omega | (simp only [az]; done)) only [ru, eq_self, if_true, if_false, BEq.rfl, binI, AO.row?, splice, fillL, mmAll, loadV, storeV, zeros, Am.rowAt, Am.part, addOff, Nat.reduceAdd, Nat.reduceMul, Nat.reduceLeDiff, Nat.reduceSub, Nat.reduceLT, Int.reduceEq, Int.reduceLT, Int.reduceLE, Int.reduceGT, Int.reduceGE, Int.reduceAdd, Int.reduceSub, Int.reduceMul, Int.reduceNeg, Int.reduceToNat, reduceCtorEq, reduceIte, lenV_sl ho, elem_sl Ls.el ho, view_sl ho, scalar_sl ho, cells_sl ho, pure_sl ho, lenV_sl hw, elem_sl Wd.el hw, view_sl hw, scalar_sl hw, cells_sl hw, pure_sl hw, c16, c36, c43, f1, f2, d19, gUn, c20, ← hm, ← hM, c44, c44', wC, wT]
        simp (disch := first | assumption | omega | (simp only [az]; done)) only [ru, eq_self, if_true, if_false, BEq.rfl, binI, AO.row?, splice, fillL, mmAll, loadV, storeV, zeros, Am.rowAt, Am.part, addOff, Nat.reduceAdd, Nat.reduceMul, Nat.reduceLeDiff, Nat.reduceSub, Nat.reduceLT, Int.reduceEq, Int.reduceLT, Int.reduceLE, Int.reduceGT, Int.reduceGE, Int.reduceAdd, Int.reduceSub, Int.reduceMul, Int.reduceNeg, Int.reduceToNat, reduceCtorEq, reduceIte, elem_sl encR_len is, encR, el_sp, Int.toNat_natCast, raT, laT, maT, i0T, i0C, caT, Spn.e, ← hl9, ← hm, n1, d19, gUn]
        simp (disch := first | assumption | omega | (simp only [az]; done)) only [ru, eq_self, if_true, if_false, BEq.rfl, binI, AO.row?, splice, fillL, mmAll, loadV, storeV, zeros, Am.rowAt, Am.part, addOff, Nat.reduceAdd, Nat.reduceMul, Nat.reduceLeDiff, Nat.reduceSub, Nat.reduceLT, Int.reduceEq, Int.reduceLT, Int.reduceLE, Int.reduceGT, Int.reduceGE, Int.reduceAdd, Int.reduceSub, Int.reduceMul, Int.reduceNeg, Int.reduceToNat, reduceCtorEq, reduceIte, lenV_sl ho, elem_sl Ls.el ho, view_sl ho, scalar_sl ho, cells_sl ho, pure_sl ho, lenV_sl hw, elem_sl Wd.el hw, view_sl hw, scalar_sl hw, cells_sl hw, pure_sl hw, e45, wT, tp, tq, nn, gUn]
        refine G_loop_ind (fun z ts hk mk => ∃ (i : Nat), i ≤ t.T ∧ z = t.T - i ∧ ts.length = 182 ∧ ts.getD 1 .undef = I a ∧ ts.getD 2 .undef = I b ∧ ts.getD 3 .undef = .ptr 0 0 ∧ ts.getD 7 .undef = pv ∧ ts.getD 9 .undef = .ptr 1 0 ∧ ts.getD 13 .undef = I (t.C - 1 : Nat) ∧ ts.getD 14 .undef = I i ∧
          (∃ J, hk = .cells [I t.ch, I t.tm, o, w] false :: .cells [I p, I q] false :: J) ∧ mk = []) ?_ _ _ _ _
          ⟨0, Nat.zero_le _, rfl, rfl, rfl, rfl, rfl, rfl, rfl, rfl, rfl, ⟨_, rfl⟩, rfl⟩
        rintro z ts hk mk ih ⟨i, hi, rfl, hl, q1, q2, q3, q7, q9, q13, q14, ⟨J, rfl⟩, rfl⟩
        rw [lit_all hl]
        simp only [lit0, litS, Nat.reduceAdd, q1, q2, q3, q7, q9, q13, q14]
        simp (disch := first | assumption | omega | (simp only [az]; done)) only [ru, eq_self, if_true, if_false, BEq.rfl, binI, AO.row?, splice, fillL, mmAll, loadV, storeV, zeros, Am.rowAt, Am.part, addOff, Nat.reduceAdd, Nat.reduceMul, Nat.reduceLeDiff, Nat.reduceSub, Nat.reduceLT, Int.reduceEq, Int.reduceLT, Int.reduceLE, Int.reduceGT, Int.reduceGE, Int.reduceAdd, Int.reduceSub, Int.reduceMul, Int.reduceNeg, Int.reduceToNat, reduceCtorEq, reduceIte]
        by_cases hlt : (i : Int) < t.tm
        case neg =>
          simp (disch := first | assumption | omega | (simp only [az]; done)) only [ru, eq_self, if_true, if_false, BEq.rfl, binI, AO.row?, splice, fillL, mmAll, loadV, storeV, zeros, Am.rowAt, Am.part, addOff, Nat.reduceAdd, Nat.reduceMul, Nat.reduceLeDiff, Nat.reduceSub, Nat.reduceLT, Int.reduceEq, Int.reduceLT, Int.reduceLE, Int.reduceGT, Int.reduceGE, Int.reduceAdd, Int.reduceSub, Int.reduceMul, Int.reduceNeg, Int.reduceToNat, reduceCtorEq, reduceIte, hlt, d19]
        have hi2 : i < t.T := by omega
        have rai := ra i hi2
        have lai := la i hi2
        have mai := ma i
        have cai := ca i
        have i0i := i0 i
        have hpi := hp i hi2
        have hqi := hq i hi2
        have key : ∀ (x y : Bool), (x = true ↔ m ≤ (S i (t.C - 1)).hi) → (y = true ↔ m ≤ (S i (t.C - 1)).lo) → ((x = true → (S i (t.C - 1)).hi ≥ m ∧ (i : Int) ≥ p) ∧ (x = false → ¬ (S i (t.C - 1)).hi ≥ m ∧ ¬ (i : Int) ≥ p)) ∧ ((y = true → (S i (t.C - 1)).lo ≥ m ∧ (i : Int) ≥ q) ∧ (y = false → ¬ (S i (t.C - 1)).lo ≥ m ∧ ¬ (i : Int) ≥ q)) := by
          intro x y hx hy
          rw [hpi] at hx
          rw [hqi] at hy
          refine ⟨⟨fun e => ⟨hpi.2 (hx.1 e), by have := hx.1 e; omega⟩, fun e => ?_⟩, ⟨fun e => ⟨hqi.2 (hy.1 e), by have := hy.1 e; omega⟩, fun e => ?_⟩⟩
          · have : ¬ p ≤ i := fun h => by rw [hx.2 h] at e; cases e
            exact ⟨fun h => this (hpi.1 h), by omega⟩
          · have : ¬ q ≤ i := fun h => by rw [hy.2 h] at e; cases e
            exact ⟨fun h => this (hqi.1 h), by omega⟩
        have k := key (decide (m ≤ (S i (t.C - 1)).hi)) (decide (m ≤ (S i (t.C - 1)).lo)) decide_eq_true_iff decide_eq_true_iff
        clear key
        cases x1 : decide (m ≤ (S i (t.C - 1)).hi) <;> cases x2 : decide (m ≤ (S i (t.C - 1)).lo)
        all_goals
          rw [x1, x2] at k
          first
            | (have g1 := k.1.1 rfl)
            | (have g1 := k.1.2 rfl)
          first
            | (have g2 := k.2.1 rfl)
            | (have g2 := k.2.2 rfl)
          have g3 := g1.1; have g4 := g1.2; have g5 := g2.1; have g6 := g2.2
          simp (disch := first | assumption | omega | (simp only [az]; done)) only [ru, eq_self, if_true, if_false, BEq.rfl, binI, AO.row?, splice, fillL, mmAll, loadV, storeV, zeros, Am.rowAt, Am.part, addOff, Nat.reduceAdd, Nat.reduceMul, Nat.reduceLeDiff, Nat.reduceSub, Nat.reduceLT, Int.reduceEq, Int.reduceLT, Int.reduceLE, Int.reduceGT, Int.reduceGE, Int.reduceAdd, Int.reduceSub, Int.reduceMul, Int.reduceNeg, Int.reduceToNat, reduceCtorEq, reduceIte, hlt, elem_sl encR_len is, encR, el_sp, Int.toNat_natCast, rai, lai, mai, i0i, i0C, cai, Spn.e, ← hm, g3, g4, g5, g6, gUn, decide_true, decide_false]
          refine ih (t.T - (i + 1)) _ _ _ (by omega) ⟨i + 1, by omega, rfl, rfl, rfl, rfl, rfl, rfl, rfl, rfl, rfl, ⟨_, rfl⟩, rfl⟩
      · have k3 : ¬ u1 < (p : Int) := by omega
        have k4 : ¬ u2 < (q : Int) := by omega
        simp (disch := first | assumption | omega | (simp only [az]; done)) only [ru, eq_self, if_true, if_false, BEq.rfl, binI, AO.row?, splice, fillL, mmAll, loadV, storeV, zeros, Am.rowAt, Am.part, addOff, Nat.reduceAdd, Nat.reduceMul, Nat.reduceLeDiff, Nat.reduceSub, Nat.reduceLT, Int.reduceEq, Int.reduceLT, Int.reduceLE, Int.reduceGT, Int.reduceGE, Int.reduceAdd, Int.reduceSub, Int.reduceMul, Int.reduceNeg, Int.reduceToNat, reduceCtorEq, reduceIte, lenV_sl ho, elem_sl Ls.el ho, view_sl ho, scalar_sl ho, cells_sl ho, pure_sl ho, lenV_sl hw, elem_sl Wd.el hw, view_sl hw, scalar_sl hw, cells_sl hw, pure_sl hw, c16, c36, c43, f1, f2, d19, gUn, c20, ← hm, ← hM, c44, c44', wC, wT, k3, k4]
        simp (disch := first | assumption | omega | (simp only [az]; done)) only [ru, eq_self, if_true, if_false, BEq.rfl, binI, AO.row?, splice, fillL, mmAll, loadV, storeV, zeros, Am.rowAt, Am.part, addOff, Nat.reduceAdd, Nat.reduceMul, Nat.reduceLeDiff, Nat.reduceSub, Nat.reduceLT, Int.reduceEq, Int.reduceLT, Int.reduceLE, Int.reduceGT, Int.reduceGE, Int.reduceAdd, Int.reduceSub, Int.reduceMul, Int.reduceNeg, Int.reduceToNat, reduceCtorEq, reduceIte, elem_sl encR_len is, encR, el_sp, Int.toNat_natCast, raT, laT, maT, i0T, i0C, caT, Spn.e, ← hl9, ← hm, n1, d19, gUn]
        simp (disch := first | assumption | omega | (simp only [az]; done)) only [ru, eq_self, if_true, if_false, BEq.rfl, binI, AO.row?, splice, fillL, mmAll, loadV, storeV, zeros, Am.rowAt, Am.part, addOff, Nat.reduceAdd, Nat.reduceMul, Nat.reduceLeDiff, Nat.reduceSub, Nat.reduceLT, Int.reduceEq, Int.reduceLT, Int.reduceLE, Int.reduceGT, Int.reduceGE, Int.reduceAdd, Int.reduceSub, Int.reduceMul, Int.reduceNeg, Int.reduceToNat, reduceCtorEq, reduceIte, lenV_sl ho, elem_sl Ls.el ho, view_sl ho, scalar_sl ho, cells_sl ho, pure_sl ho, lenV_sl hw, elem_sl Wd.el hw, view_sl hw, scalar_sl hw, cells_sl hw, pure_sl hw, e45, wT, tp, tq, nn, gUn]
        refine G_loop_ind (fun z ts hk mk => ∃ (i : Nat), i ≤ t.T ∧ z = t.T - i ∧ ts.length = 182 ∧ ts.getD 1 .undef = I a ∧ ts.getD 2 .undef = I b ∧ ts.getD 3 .undef = .ptr 0 0 ∧ ts.getD 7 .undef = pv ∧ ts.getD 9 .undef = .ptr 1 0 ∧ ts.getD 13 .undef = I (t.C - 1 : Nat) ∧ ts.getD 14 .undef = I i ∧
          (∃ J, hk = .cells [I t.ch, I t.tm, o, w] false :: .cells [I p, I q] false :: J) ∧ mk = []) ?_ _ _ _ _
          ⟨0, Nat.zero_le _, rfl, rfl, rfl, rfl, rfl, rfl, rfl, rfl, rfl, ⟨_, rfl⟩, rfl⟩
        rintro z ts hk mk ih ⟨i, hi, rfl, hl, q1, q2, q3, q7, q9, q13, q14, ⟨J, rfl⟩, rfl⟩
        rw [lit_all hl]
        simp only [lit0, litS, Nat.reduceAdd, q1, q2, q3, q7, q9, q13, q14]
        simp (disch := first | assumption | omega | (simp only [az]; done)) only [ru, eq_self, if_true, if_false, BEq.rfl, binI, AO.row?, splice, fillL, mmAll, loadV, storeV, zeros, Am.rowAt, Am.part, addOff, Nat.reduceAdd, Nat.reduceMul, Nat.reduceLeDiff, Nat.reduceSub, Nat.reduceLT, Int.reduceEq, Int.reduceLT, Int.reduceLE, Int.reduceGT, Int.reduceGE, Int.reduceAdd, Int.reduceSub, Int.reduceMul, Int.reduceNeg, Int.reduceToNat, reduceCtorEq, reduceIte]
        by_cases hlt : (i : Int) < t.tm
        case neg =>
          simp (disch := first | assumption | omega | (simp only [az]; done)) only [ru, eq_self, if_true, if_false, BEq.rfl, binI, AO.row?, splice, fillL, mmAll, loadV, storeV, zeros, Am.rowAt, Am.part, addOff, Nat.reduceAdd, Nat.reduceMul, Nat.reduceLeDiff, Nat.reduceSub, Nat.reduceLT, Int.reduceEq, Int.reduceLT, Int.reduceLE, Int.reduceGT, Int.reduceGE, Int.reduceAdd, Int.reduceSub, Int.reduceMul, Int.reduceNeg, Int.reduceToNat, reduceCtorEq, reduceIte, hlt, d19]
        have hi2 : i < t.T := by omega
        have rai := ra i hi2
        have lai := la i hi2
        have mai := ma i
        have cai := ca i
        have i0i := i0 i
        have hpi := hp i hi2
        have hqi := hq i hi2
        have key : ∀ (x y : Bool), (x = true ↔ m ≤ (S i (t.C - 1)).hi) → (y = true ↔ m ≤ (S i (t.C - 1)).lo) → ((x = true → (S i (t.C - 1)).hi ≥ m ∧ (i : Int) ≥ p) ∧ (x = false → ¬ (S i (t.C - 1)).hi ≥ m ∧ ¬ (i : Int) ≥ p)) ∧ ((y = true → (S i (t.C - 1)).lo ≥ m ∧ (i : Int) ≥ q) ∧ (y = false → ¬ (S i (t.C - 1)).lo ≥ m ∧ ¬ (i : Int) ≥ q)) := by
          intro x y hx hy
          rw [hpi] at hx
          rw [hqi] at hy
          refine ⟨⟨fun e => ⟨hpi.2 (hx.1 e), by have := hx.1 e; omega⟩, fun e => ?_⟩, ⟨fun e => ⟨hqi.2 (hy.1 e), by have := hy.1 e; omega⟩, fun e => ?_⟩⟩
          · have : ¬ p ≤ i := fun h => by rw [hx.2 h] at e; cases e
            exact ⟨fun h => this (hpi.1 h), by omega⟩
          · have : ¬ q ≤ i := fun h => by rw [hy.2 h] at e; cases e
            exact ⟨fun h => this (hqi.1 h), by omega⟩
        have k := key (decide (m ≤ (S i (t.C - 1)).hi)) (decide (m ≤ (S i (t.C - 1)).lo)) decide_eq_true_iff decide_eq_true_iff
        clear key
        cases x1 : decide (m ≤ (S i (t.C - 1)).hi) <;> cases x2 : decide (m ≤ (S i (t.C - 1)).lo)
        all_goals
          rw [x1, x2] at k
          first
            | (have g1 := k.1.1 rfl)
            | (have g1 := k.1.2 rfl)
          first
            | (have g2 := k.2.1 rfl)
            | (have g2 := k.2.2 rfl)
          have g3 := g1.1; have g4 := g1.2; have g5 := g2.1; have g6 := g2.2
          simp (disch := first | assumption | omega | (simp only [az]; done)) only [ru, eq_self, if_true, if_false, BEq.rfl, binI, AO.row?, splice, fillL, mmAll, loadV, storeV, zeros, Am.rowAt, Am.part, addOff, Nat.reduceAdd, Nat.reduceMul, Nat.reduceLeDiff, Nat.reduceSub, Nat.reduceLT, Int.reduceEq, Int.reduceLT, Int.reduceLE, Int.reduceGT, Int.reduceGE, Int.reduceAdd, Int.reduceSub, Int.reduceMul, Int.reduceNeg, Int.reduceToNat, reduceCtorEq, reduceIte, hlt, elem_sl encR_len is, encR, el_sp, Int.toNat_natCast, rai, lai, mai, i0i, i0C, cai, Spn.e, ← hm, g3, g4, g5, g6, gUn, decide_true, decide_false]
          refine ih (t.T - (i + 1)) _ _ _ (by omega) ⟨i + 1, by omega, rfl, rfl, rfl, rfl, rfl, rfl, rfl, rfl, rfl, ⟨_, rfl⟩, rfl⟩
  refine fin s1 s2 e u1 u2 f c44 c44' ?_
  rcases Q1 with ⟨h1, g1⟩ | ⟨h1, g1, p, q, h2, h3, pq, qT, hp, hq⟩
  · rcases Q2 with ⟨h4, g2⟩ | ⟨h4, g2, _⟩
    · exact .inl ⟨h1, h4, by omega⟩
    · omega
  · refine .inr ⟨h1, g1, ?_, p, q, h2, h3, pq, qT, hp, hq⟩
    rcases Q2 with ⟨h4, g2⟩ | ⟨h4, g2, p', q', h5, h6, pq', qT', hp', hq'⟩
    · exact .inl h4
    · refine .inr ⟨h4, ?_, ?_⟩
      · have x1 := (hp' p' (by omega)).2 (Nat.le_refl _)
        have x2 := (hp p' (by omega)).1 (by omega)
        omega
      · have x1 := (hq' q' (by omega)).2 (Nat.le_refl _)
        have x2 := (hq q' (by omega)).1 (by omega)
        omega
end Go.Proofs.Ytjaaefdhdggnkaa.S

