/-
The functions of both sides of stage 1, one after another (S4).
-/
import Derived.Test.YtjaaefdhdggnkaaS3

/-
The laws of stage 1 on Fish and Whole, and on Came and Passed.
-/
namespace Go.Proofs.Ytjaaefdhdggnkaa.S
open Go Go.Am Go.Proofs.Ytjaaefdhdggnkaa.T
set_option maxRecDepth 100000
set_option linter.unusedSimpArgs false
set_option linter.unusedVariables false

end Go.Proofs.Ytjaaefdhdggnkaa.S

/-
What the reference answers: Judge and Enough; the law on them.
-/
namespace Go.Proofs.Ytjaaefdhdggnkaa.S
open Go Go.Am Go.Proofs.Ytjaaefdhdggnkaa.T
set_option maxRecDepth 100000
set_option linter.unusedSimpArgs false
set_option linter.unusedVariables false

/-! what is asked of a copy -/
theorem cp_tell {t : Trap} {i c : Nat} {m : Int} (J : TellP t.cp i c m) : TellP t i c m := by
  unfold TellP at *
  simp only [tr_cp, cp_C, cp_T] at J
  exact J
theorem cp_ansG {α : Type} {t : Trap} {fit : Bool} {D : Int → α} {P Q : α → Prop} {v : α} (A : AnsG t.cp fit D P v) (h : ∀ a, P a → Q a) : AnsG t fit D Q v := by
  cases A with
  | bad hv => exact .bad (cp_valid.symm.trans hv)
  | arg hv hf => exact .arg (cp_valid.symm.trans hv) hf
  | none hv hf hn => exact .none (cp_valid.symm.trans hv) hf fun h => hn (cp_solv.2 h)
  | ok hv hf hs hx => exact .ok (cp_valid.symm.trans hv) hf (cp_solv.1 hs) (h _ hx)
theorem KnR.map {t : Trap} {fit fit' : Bool} {e : Int} (K : KnR t fit e) (h : t.valid = true → fit' = fit) : KnR t fit' e := by
  cases K with
  | bad hv => exact .bad hv
  | arg hv hf => exact .arg hv ((h hv).trans hf)
  | none hv hf hn => exact .none hv ((h hv).trans hf) hn
  | ok hv hf hs => exact .ok hv ((h hv).trans hf) hs
end Go.Proofs.Ytjaaefdhdggnkaa.S

/-
Whether a trap is ready; the law of time.
-/
namespace Go.Proofs.Ytjaaefdhdggnkaa.S
open Go Go.Am Go.Proofs.Ytjaaefdhdggnkaa.T
set_option maxRecDepth 100000
set_option linter.unusedSimpArgs false
set_option linter.unusedVariables false

section
variable {t : Trap} {fit : Bool} {f : (Nat → Int) → Int} {lo hi e : Int}
end

end Go.Proofs.Ytjaaefdhdggnkaa.S

/-
Fish of all chambers at all times.
-/
namespace Go.Proofs.Ytjaaefdhdggnkaa.S
open Go Go.Am Go.Proofs.Ytjaaefdhdggnkaa.T
set_option maxRecDepth 100000
set_option linter.unusedSimpArgs false
set_option linter.unusedVariables false

/-- spans, row by row -/
def spRow (C : Nat) (S : Nat → Nat → Spn) (i : Nat) : List Spn := (List.range C).map fun c => S i c
def encR (r : List Spn) : List AV := [slV 2 Spn.e r]
def spR (C T : Nat) (S : Nat → Nat → Spn) : List (List Spn) := (List.range T).map fun i => spRow C S i
def spV (C T : Nat) (S : Nat → Nat → Spn) : AV := slV 1 encR (spR C T S)
theorem spRow_len {C i : Nat} {S : Nat → Nat → Spn} : (spRow C S i).length = C := by simp [spRow]
theorem spR_len {C T : Nat} {S : Nat → Nat → Spn} : (spR C T S).length = T := by simp [spR]
theorem encR_len (r : List Spn) : (encR r).length = 1 := rfl
theorem spR_at {C T i : Nat} {S : Nat → Nat → Spn} (hi : i < T) : (spR C T S).getD i default = spRow C S i := by
  simp [spR, List.getD_eq_getElem?_getD, hi]
theorem sps_view {st : Bool} {h : List AO} {n : Nat} (l : List Spn) : (l.flatMap Spn.e).mapM (view st h n) = some (l.flatMap Spn.e) := by
  induction l with
  | nil => rfl
  | cons a l ih =>
    show (I a.lo :: I a.hi :: l.flatMap Spn.e).mapM (view st h n) = _
    simp only [List.mapM_cons, view_int, ih]; rfl
/-- as they lie in the heap -/
def SpsH (h : List AO) (v : AV) (C i : Nat) (S : Nat → Nat → Spn) : Prop :=
  (i = 0 ∧ v = .nils) ∨ (0 < i ∧ ∃ o vs, v = .ms 1 o 0 i ∧ h[o]? = some (.cells vs false) ∧ vs.length = i ∧ ∀ j, j < i → ∃ p, p ≠ o ∧ vs.getD j .undef = .ms 2 p 0 C ∧ h[p]? = some (.cells ((spRow C S j).flatMap Spn.e) false))
theorem SpsH.sc {h : List AO} {v : AV} {C i : Nat} {S : Nat → Nat → Spn} (H : SpsH h v C i S) : v.scalar = true ∧ v.cells = [v] := by
  rcases H with ⟨_, rfl⟩ | ⟨_, o, vs, rfl, _⟩ <;> exact ⟨rfl, rfl⟩
theorem SpsH.fr {h h' : List AO} {v : AV} {C i : Nat} {S : Nat → Nat → Spn} (H : SpsH h v C i S) (hf : ∀ k, k < h.length → h'[k]? = h[k]?) : SpsH h' v C i S := by
  rcases H with H | ⟨h0, o, vs, h1, ho, hl, hr⟩
  · exact .inl H
  · refine .inr ⟨h0, o, vs, h1, by rw [hf o (List.getElem?_eq_some_iff.1 ho).1]; exact ho, hl, fun j hj => ?_⟩
    obtain ⟨p, p1, e, hp⟩ := hr j hj
    exact ⟨p, p1, e, by rw [hf p (List.getElem?_eq_some_iff.1 hp).1]; exact hp⟩
theorem SpsH.view {h : List AO} {v : AV} {C T : Nat} {S : Nat → Nat → Spn} (H : SpsH h v C T S) (hT : 0 < T) (n : Nat) (st : Bool) : view st h (n + 2) v = some (spV C T S) := by
  rcases H with ⟨h0, _⟩ | ⟨h0, o, vs, rfl, ho, hl, hr⟩
  · omega
  rw [view_ms, rowOf_ms]
  simp only [Am.rowAt, ho, Option.bind_some, AO.row?, List.drop_zero]
  rw [List.take_of_length_le (by omega), if_pos (by omega)]
  have hf : ((spR C T S).flatMap encR).length = T := by rw [flat_len encR_len, spR_len, Nat.mul_one]
  have hm : vs.mapM (Am.view st h (n + 1)) = some ((spR C T S).flatMap encR) := by
    refine mapM_get (by omega) fun i hi => ?_
    have hi' : i < T := by omega
    obtain ⟨p, _, e, hp⟩ := hr i hi'
    rw [e, view_ms, rowOf_ms]
    simp only [Am.rowAt, hp, Option.bind_some, AO.row?, List.drop_zero]
    have fl : ((spRow C S i).flatMap Spn.e).length = C * 2 := by rw [flat_len Spn.el, spRow_len]
    rw [List.take_of_length_le (by omega), if_pos fl]
    simp only [sps_view, Option.map_some]
    have hc : i < (spR C T S).length := by rw [spR_len]; exact hi'
    have := flat_at encR_len (spR C T S) i hc
    have e2 : (spR C T S)[i] = spRow C S i := by
      have := spR_at (S := S) (C := C) hi'
      rwa [List.getD_eq_getElem?_getD, List.getElem?_eq_getElem hc, Option.getD_some] at this
    rw [e2, Nat.mul_one] at this
    have e3 : ((spR C T S).flatMap encR).getD i .undef = slV 2 Spn.e (spRow C S i) := by
      have h4 : (((spR C T S).flatMap encR).drop i).head? = some (slV 2 Spn.e (spRow C S i)) := by
        have := congrArg List.head? this
        rw [List.head?_take] at this
        simpa [encR] using this
      rw [List.head?_drop] at h4
      rw [List.getD_eq_getElem?_getD, h4]; rfl
    rw [e3]
    simp only [slV, spRow_len]
  simp only [hm, Option.map_some, spV, slV, spR_len]

end Go.Proofs.Ytjaaefdhdggnkaa.S

/-
No span of a trap is wider than that of another one: narrower.
-/
namespace Go.Proofs.Ytjaaefdhdggnkaa.S
open Go Go.Am Go.Proofs.Ytjaaefdhdggnkaa.T
set_option maxRecDepth 100000
set_option linter.unusedSimpArgs false
set_option linter.unusedVariables false

end Go.Proofs.Ytjaaefdhdggnkaa.S

/-
The law of enough fish.
-/
namespace Go.Proofs.Ytjaaefdhdggnkaa.S
open Go Go.Am Go.Proofs.Ytjaaefdhdggnkaa.T
set_option maxRecDepth 100000
set_option linter.unusedSimpArgs false
set_option linter.unusedVariables false

end Go.Proofs.Ytjaaefdhdggnkaa.S

/-
A trap with one word less: Without; words without one: slices.Concat.
-/
namespace Go.Proofs.Ytjaaefdhdggnkaa.S
open Go Go.Am Go.Proofs.Ytjaaefdhdggnkaa.T
set_option maxRecDepth 100000
set_option linter.unusedSimpArgs false
set_option linter.unusedVariables false

set_option maxHeartbeats 4000000 in
theorem s51 {t : Trap} {o w : AV} (H : TrOk t o w) {k : Nat} (hk : k < t.ws.length) (st : Bool) : Iso E 51 [trV t o w, I k] st = some (cpV (t.del k)) := by
  have sw := H.sw
  obtain ⟨ow, ov0, wv0, K, q, hc⟩ := call41 H [.cells [I t.ch, I t.tm, o, w] false, .cells [I 0, I 0, .nils, .nils] false]
  have sc := hc.o.sc 2
  have hw0 := hc.w.1
  have hw1 := hc.w.2
  have ow1 := (List.getElem?_eq_some_iff.1 hw1).1
  simp only [List.length_cons, List.length_nil, Nat.zero_add, Nat.reduceAdd] at q
  obtain ⟨G0, hG0⟩ : ∃ G0 : List AO, G0 = [.cells [I t.ch, I t.tm, o, w] false, .cells [I 0, I 0, .nils, .nils] false] ++ K.map (AO.shift 2) := ⟨_, rfl⟩
  rw [← hG0] at q
  have gl : G0.length = K.length + 2 := by rw [hG0]; simp
  have g0 : ∀ J, (G0 ++ J)[0]? = some (.cells [I t.ch, I t.tm, o, w] false) := fun J => by rw [at_ap (by omega), hG0]; rfl
  have gK : ∀ k, G0[k + 2]? = (K[k]?).map (AO.shift 2) := fun k => by rw [hG0]; exact up_at (h := [.cells [I t.ch, I t.tm, o, w] false, .cells [I 0, I 0, .nils, .nils] false])
  obtain ⟨ov, hov⟩ : ∃ ov, ov = ov0.shift 2 := ⟨_, rfl⟩
  obtain ⟨wv, hwv⟩ : ∃ wv, wv = wv0.shift 2 := ⟨_, rfl⟩
  have hwv2 : wv = .ms 4 (ow + 2) 0 t.ws.length := by rw [hwv, hw0]; rfl
  rw [← hov] at sc
  rw [← hov, ← hwv] at q
  have wsc : wv.scalar = true ∧ wv.cells = [wv] := by rw [hwv2]; exact ⟨rfl, rfl⟩
  obtain ⟨G1, hG1⟩ : ∃ G1 : List AO, G1 = G0 ++ [AO.cells [I t.ch, I t.tm, ov, wv] false] := ⟨_, rfl⟩
  have l1 : G1.length = G0.length + 1 := by rw [hG1]; simp
  obtain ⟨u1, su1, iu1⟩ := slice_lo Wd.el H.w (k := k) (by omega)
  obtain ⟨u2, su2, iu2⟩ := slice_hi Wd.el H.w (k := k + 1) (by omega)
  have su2' : sliceV 4 w (some (I ((k : Int) + 1))) none = some u2 := su2
  have lt : (t.ws.take k).length = k := by rw [List.length_take]; omega
  have ld : (t.ws.drop (k + 1)).length = t.ws.length - (k + 1) := List.length_drop
  obtain ⟨q', y0, y1, hq', hA, hy⟩ := app_one (lim := 0) (eb := 32) (h := G1) (J := [.tomb]) iu1 Wd.el Wd.sc (by omega) (by omega) (by omega)
  obtain ⟨p, J, hB, lJ, hp, hJ⟩ := app_two (lim := 0) (eb := 32) (h := G1) iu2 Wd.el Wd.sc hq' hy (by omega) (by omega) (by omega)
  rw [l1] at hA hB
  obtain ⟨z, hz⟩ : ∃ z, z = AV.ms 4 (G0.length + 1 + q') 0 (t.ws.take k).length := ⟨_, rfl⟩
  obtain ⟨wn, hwn⟩ : ∃ wn, wn = AV.ms 4 (G0.length + 1 + p) 0 ((t.ws.take k).length + (t.ws.drop (k + 1)).length) := ⟨_, rfl⟩
  rw [← hz] at hA hB
  rw [← hwn] at hB
  have wn1 : wn.scalar = true ∧ wn.cells = [wn] := by rw [hwn]; exact ⟨rfl, rfl⟩
  have g1 : ∀ J, (G1 ++ J)[0]? = some (.cells [I t.ch, I t.tm, o, w] false) := fun J => by rw [hG1, List.append_assoc]; exact g0 _
  obtain ⟨H2, hH2⟩ : ∃ H2 : List AO, H2 = G1 ++ J := ⟨_, rfl⟩
  rw [← hH2] at hB
  have l2 : H2.length = G0.length + 4 := by rw [hH2]; simp; omega
  have e0 : H2[G0.length]? = some (.cells [I t.ch, I t.tm, ov, wv] false) := by
    rw [hH2, at_ap (by omega), hG1, atT0]; rfl
  have e2 : H2[1]? = some (.cells [I 0, I 0, .nils, .nils] false) := by
    rw [hH2, at_ap (by omega), hG1, at_ap (by omega), hG0]; rfl
  have e9 : H2[G0.length + 1 + p]? = some (.cells ((t.ws.take k ++ t.ws.drop (k + 1)).flatMap Wd.e) false) := by
    rw [hH2, ← l1, atT]; exact hJ
  have ek : ∀ k, k < K.length → H2[k + 2]? = (K[k]?).map (AO.shift 2) := fun k hk' => by
    rw [hH2, at_ap (by omega), hG1, at_ap (by omega), gK]
  have e5 : ∀ c, (H2.set G0.length c)[1]? = some (.cells [I 0, I 0, .nils, .nils] false) := fun c => by rw [List.getElem?_set_ne (by omega)]; exact e2
  have e6 : ∀ c, (H2.set G0.length c)[G0.length]? = some c := fun c => by rw [List.getElem?_set_self (by omega)]
  have hA' : appG true 0 (G0.length + 2) 4 32 (G0 ++ [AO.cells [I t.ch, I t.tm, ov, wv] false, AO.cells [] false, AO.tomb, AO.tomb]) (.ms 4 (G0.length + 1) 0 0) u1 = some (z, G0 ++ [AO.cells [I t.ch, I t.tm, ov, wv] false, y0, y1, AO.tomb]) := by
    have := hA
    rw [hG1, List.append_assoc, List.append_assoc] at this
    exact this
  have hB' : appG false 0 (G0.length + 3) 4 32 (G0 ++ [AO.cells [I t.ch, I t.tm, ov, wv] false, y0, y1, AO.tomb]) z u2 = some (wn, H2) := by
    have := hB
    rw [hG1, List.append_assoc] at this
    exact this
  have c0 : (0 : Int) ≤ k := by omega
  refine Iso_of (es _ _ _ _) e51 ?_
  simp only [f51, trV] at q ⊢
  simp (disch := first | assumption | omega | (simp only [az]; done)) only [ru, eq_self, if_true, if_false, BEq.rfl, binI, AO.row?, splice, fillL, mmAll, loadV, storeV, zeros, Am.rowAt, Am.part, addOff, Nat.reduceAdd, Nat.reduceMul, Nat.reduceLeDiff, Nat.reduceSub, Nat.reduceLT, Int.reduceEq, Int.reduceLT, Int.reduceLE, Int.reduceGT, Int.reduceGE, Int.reduceAdd, Int.reduceSub, Int.reduceMul, Int.reduceNeg, Int.reduceToNat, reduceCtorEq, reduceIte, lenV_sl H.o, lenV_sl H.w, elem_sl Ls.el H.o, elem_sl Wd.el H.w, view_sl H.o, view_sl H.w, scalar_sl H.o, scalar_sl H.w, cells_sl H.o, cells_sl H.w, pure_sl H.o, pure_sl H.w, Int.toNat_natCast]
  rw [q rfl]
  simp (disch := first | assumption | omega | (simp only [az]; done)) only [ru, eq_self, if_true, if_false, BEq.rfl, binI, AO.row?, splice, fillL, mmAll, loadV, storeV, zeros, Am.rowAt, Am.part, addOff, Nat.reduceAdd, Nat.reduceMul, Nat.reduceLeDiff, Nat.reduceSub, Nat.reduceLT, Int.reduceEq, Int.reduceLT, Int.reduceLE, Int.reduceGT, Int.reduceGE, Int.reduceAdd, Int.reduceSub, Int.reduceMul, Int.reduceNeg, Int.reduceToNat, reduceCtorEq, reduceIte, lenV_sl H.o, lenV_sl H.w, elem_sl Ls.el H.o, elem_sl Wd.el H.w, view_sl H.o, view_sl H.w, scalar_sl H.o, scalar_sl H.w, cells_sl H.o, cells_sl H.w, pure_sl H.o, pure_sl H.w, Int.toNat_natCast, List.append_assoc, List.cons_append, List.nil_append, lenE, setT, setT0, atT, atT0, getT, getT0, Nat.add_assoc, sc.1, sc.2, wsc.1, wsc.2, Bool.and_self, g0, pex_slice, su1, su2', GO_mapp, unhN, unhC, hA', hB', wn1.1, wn1.2, e0, e5, e6]
  rw [finC]
  refine ⟨.agg [I t.ch, I t.tm, ov, wn], ?_, ?_⟩
  · simp only [getRes, List.getD_cons_zero, List.getD_cons_succ, Am.rowAt]
    rw [List.getElem?_set_self (by rw [List.length_set]; omega)]; rfl
  · have lw : (t.del k).ws.length = (t.ws.take k).length + (t.ws.drop (k + 1)).length := by simp [Trap.del]
    refine CpH.view (t := t.del k) (n := 5) (ow := G0.length + 1 + p) ⟨?_, ?_, ?_⟩ st
    · rw [hov]
      refine hc.o.up (fun k hk hn => ?_) (.inl (by omega))
      rw [List.getElem?_set_ne (by omega), List.getElem?_set_ne (by omega)]
      exact ek k hk
    · rw [hwn, lw]
    · rw [List.getElem?_set_ne (by omega), List.getElem?_set_ne (by omega), e9]
      rfl

/-! words one after another -/
def GrH (h : List AO) (v : AV) (L : List Wd) : Prop := (v = .nils ∧ L = []) ∨ ∃ o c, v = .ms 4 o 0 L.length ∧ h[o]? = some (.cells c false) ∧ c.take (L.length * 4) = L.flatMap Wd.e ∧ L.length * 4 ≤ c.length
theorem gr_app {h : List AO} {v x : AV} {L B : List Wd} (H : GrH h v L) (hx : IsSl 4 Wd.e B x) (hb : (L.length + B.length) * 32 ≤ 1099511627776) : ∃ v' h', appV 0 h 4 32 v x = some (v', h') ∧ GrH h' v' (L ++ B) := by
  by_cases hz : B.length = 0
  · have e : B = [] := List.eq_nil_of_length_eq_zero hz
    subst e
    refine ⟨v, h, ?_, by rw [List.append_nil]; exact H⟩
    have hr : Am.rowOf h x = some [] := rowOf_sl hx h
    have hl : lenOf x = some 0 := lenOf_sl hx
    rcases H with ⟨rfl, _⟩ | ⟨o, c, rfl, _⟩
    · simp only [appV, lenOf_nils, hl, hr, List.length_nil, Nat.zero_mul, if_true]
    · simp only [appV, lenOf_ms, hl, hr, List.length_nil, Nat.zero_mul, if_true]
  · have hr : Am.rowOf h x = some (B.flatMap Wd.e) := rowOf_sl hx h
    have hl : lenOf x = some B.length := lenOf_sl hx
    have fl := flat_len Wd.el B
    rcases H with ⟨rfl, rfl⟩ | ⟨o, c, rfl, ho, ht, hc⟩
    · have ev := appV_nil (lim := 0) (h := h) (esz := 4) (eb := 32) hl hr fl (scal_sl Wd.sc B) (by simpa using hb) (by omega)
      rw [if_neg hz] at ev
      refine ⟨_, _, ev, .inr ⟨h.length, B.flatMap Wd.e, by simp, by rw [atT0]; rfl, ?_, ?_⟩⟩
      · rw [List.nil_append, List.take_of_length_le (by omega)]
      · rw [List.nil_append, fl]; exact Nat.le_refl _
    · refine ⟨.ms 4 h.length 0 (L.length + B.length), h.set o .tomb ++ [.cells (c.take (L.length * 4) ++ B.flatMap Wd.e) false], ?_, .inr ⟨h.length, c.take (L.length * 4) ++ B.flatMap Wd.e, by rw [List.length_append], by rw [show h.length = (h.set o AO.tomb).length by simp, atT0]; rfl, ?_, ?_⟩⟩
      · simp only [appV, lenOf_ms, hl, hr, fl, if_true, hz, if_false, hb, scal_sl Wd.sc B, ho, Nat.zero_le, true_and, and_self, hc, or_true, Nat.le_refl, show (1 : Nat) ≤ 32 from by omega]
      · rw [ht, ← List.flatMap_append, List.take_of_length_le (by rw [flat_len Wd.el]; exact Nat.le_refl _)]
      · rw [ht, ← List.flatMap_append, flat_len Wd.el]; exact Nat.le_refl _
theorem GrH.view {h : List AO} {v : AV} {L : List Wd} (H : GrH h v L) (n : Nat) : ∃ u, (∀ st, Am.view st h (n + 1) v = some u) ∧ IsSl 4 Wd.e L u := by
  rcases H with ⟨rfl, rfl⟩ | ⟨o, c, rfl, ho, ht, hc⟩
  · exact ⟨.nils, fun st => view_nils, .inr ⟨rfl, rfl⟩⟩
  · refine ⟨_, fun st => ?_, .inl rfl⟩
    rw [view_ms, rowOf_ms]
    simp only [Am.rowAt, ho, Option.bind_some, AO.row?, List.drop_zero, ht]
    rw [if_pos (by rw [flat_len Wd.el])]
    simp only [wds_view, Option.map_some]
def apzV (h : List AO) (esz eb : Nat) (zero : List AV) (s x : AV) : Option (AV × List AO) :=
  match s, x with
  | .nils, .int .i64 n => if 1 ≤ n ∧ eb * n ≤ 1099511627776 ∧ 1 ≤ eb then some (.ms esz h.length 0 n.toNat, h ++ [.cells (zeros n.toNat zero) false]) else none
  | _, _ => none
theorem exOp_apz {call : Am.Callee} {lim : Nat} {ρ : Opd → AV} {h : List AO} {esz eb : Nat} {zero : List AV} {s x : Opd} :
    exOp call lim none ρ h (.appendZ esz eb zero s x) = apzV h esz eb zero (ρ s) (ρ x) := by
  simp only [exOp, apzV]
  rfl
theorem apzV_nil {h : List AO} {esz eb : Nat} {zero : List AV} {n : Int} (h1 : 1 ≤ n) (hb : eb * n ≤ 1099511627776) (heb : 1 ≤ eb) : apzV h esz eb zero .nils (I n) = some (.ms esz h.length 0 n.toNat, h ++ [.cells (zeros n.toNat zero) false]) := by
  simp only [apzV, h1, hb, heb, and_self, if_true]
def capV (x : AV) : Option AV := match x with
  | .nils => some (I 0)
  | _ => none
theorem pex_cap {ρ : Opd → AV} {x : Opd} : pex ρ (.capS x) = capV (ρ x) := by
  simp only [pex, capV]
  rfl
theorem capV_n : capV .nils = some (I 0) := rfl
theorem r105 (n : Nat) (hn : n ≤ 1000) : ∃ v K, R E (.fn 105) [.nils, I n] [] 0 = some (v, K) ∧ GrH K v [] := by
  refine R_of (f := 105) (fun v K => GrH K v []) (es _ _ _ _) e105 ?_
  simp only [f105]
  have h0 : ¬ (n : Int) < 0 := by omega
  by_cases hz : n = 0
  · subst hz
    simp (disch := first | assumption | omega | (simp only [az]; done)) only [ru, eq_self, if_true, if_false, BEq.rfl, binI, AO.row?, splice, fillL, mmAll, loadV, storeV, zeros, Am.rowAt, Am.part, addOff, Nat.reduceAdd, Nat.reduceMul, Nat.reduceLeDiff, Nat.reduceSub, Nat.reduceLT, Int.reduceEq, Int.reduceLT, Int.reduceLE, Int.reduceGT, Int.reduceGE, Int.reduceAdd, Int.reduceSub, Int.reduceMul, Int.reduceNeg, Int.reduceToNat, reduceCtorEq, reduceIte, pex_cap, capV_n, Int.sub_self, Int.natCast_zero]
    exact .inl ⟨rfl, rfl⟩
  · have h1 : (n : Int) > 0 := by omega
    have nn : (0 : Int) ≤ ((n : Int).toNat : Int) := by omega
    simp (disch := first | assumption | omega | (simp only [az]; done)) only [ru, eq_self, if_true, if_false, BEq.rfl, binI, AO.row?, splice, fillL, mmAll, loadV, storeV, zeros, Am.rowAt, Am.part, addOff, Nat.reduceAdd, Nat.reduceMul, Nat.reduceLeDiff, Nat.reduceSub, Nat.reduceLT, Int.reduceEq, Int.reduceLT, Int.reduceLE, Int.reduceGT, Int.reduceGE, Int.reduceAdd, Int.reduceSub, Int.reduceMul, Int.reduceNeg, Int.reduceToNat, reduceCtorEq, reduceIte, h0, pex_cap, capV_n, h1, Int.sub_self, Int.sub_zero, pex_slice, sliceV, sliceB, exOp_apz, apzV_nil, nn, or_true, Nat.sub_zero]
    exact .inr ⟨0, _, rfl, rfl, by simp, by simp⟩
/-- slices.Concat of two -/
theorem s89 {A B : List Wd} {u1 u2 : AV} (h1 : IsSl 4 Wd.e A u1) (h2 : IsSl 4 Wd.e B u2) (l1 : A.length ≤ 100) (l2 : B.length ≤ 100) : ∃ v, (∀ st, Iso E 89 [.cs 1 2 [u1, u2]] st = some v) ∧ IsSl 4 Wd.e (A ++ B) v := by
  suffices hR : ∃ r h', R E (.fn 89) [.cs 1 2 [u1, u2]] [] 0 = some (r, h') ∧ GrH h' r (A ++ B) by
    obtain ⟨r, h', hr, hp⟩ := hR
    obtain ⟨u, hv, hu⟩ := hp.view 7
    exact ⟨u, fun st => by simp only [Iso, hr]; exact hv st, hu⟩
  obtain ⟨v, K, hr, G⟩ := r105 (A.length + B.length) (by omega)
  have q : ∀ {lim : Nat} {ρ : Opd → AV} {x y : Opd}, ρ x = .nils → ρ y = I ((A.length : Int) + B.length) → exOp (R E) lim none ρ [] (.call 2 105 [x, y]) = some (v.shift 0, K.map (AO.shift 0)) := by
    intro lim ρ x y hx hy
    have e : AV.pureV.go [AV.nils, I ((A.length : Int) + B.length)] = true := rfl
    have hr' : R E (.fn 105) [.nils, I ((A.length : Int) + B.length)] [] 0 = some (v, K) := hr
    simp only [exOp, List.map_cons, List.map_nil, hx, hy, e, if_true, hr']
    rfl
  have G0 : GrH (K.map (AO.shift 0)) (v.shift 0) [] := by
    rcases G with ⟨rfl, _⟩ | ⟨o, c, rfl, ho, ht, hc⟩
    · exact .inl ⟨rfl, rfl⟩
    · exact .inr ⟨o, c.map (AV.shift 0), rfl, by rw [List.getElem?_map, ho]; rfl, by simp, by simp⟩
  obtain ⟨v1, K1, a1, G1⟩ := gr_app G0 h1 (by simp; omega)
  obtain ⟨v2, K2, a2, G2⟩ := gr_app G1 h2 (by simp; omega)
  obtain ⟨v0, hv0⟩ : ∃ v0, v0 = v.shift 0 := ⟨_, rfl⟩
  obtain ⟨K0, hK0⟩ : ∃ K0, K0 = K.map (AO.shift 0) := ⟨_, rfl⟩
  rw [← hv0, ← hK0] at a1
  simp only [← hv0, ← hK0] at q
  have w1 : wr .i64 (0 + (A.length : Int)) = A.length := by rw [Int.zero_add]; exact wr64 (by omega) (by omega)
  have w2 : wr .i64 ((A.length : Int) + B.length) = (A.length : Int) + B.length := wr64 (by omega) (by omega)
  have n1 : ¬ (A.length : Int) < 0 := by omega
  have n2 : ¬ (A.length : Int) + B.length < 0 := by omega
  have lS : lenV (.cs 1 2 [u1, u2]) = some (I 2) := rfl
  have eS0 : elemAt 1 (.cs 1 2 [u1, u2]) (I 0) = some (.cptr [u1]) := rfl
  have eS1 : elemAt 1 (.cs 1 2 [u1, u2]) (I 1) = some (.cptr [u2]) := rfl
  refine R_of (f := 89) (fun r h' => GrH h' r (A ++ B)) (es _ _ _ _) e89 ?_
  simp only [f89]
  obtain ⟨S, hS⟩ : ∃ S, S = AV.cs 1 2 [u1, u2] := ⟨_, rfl⟩
  rw [← hS] at lS eS0 eS1
  rw [← hS]
  simp (disch := first | assumption | omega | (simp only [az]; done)) only [ru, eq_self, if_true, if_false, BEq.rfl, binI, AO.row?, splice, fillL, mmAll, loadV, storeV, zeros, Am.rowAt, Am.part, addOff, Nat.reduceAdd, Nat.reduceMul, Nat.reduceLeDiff, Nat.reduceSub, Nat.reduceLT, Int.reduceEq, Int.reduceLT, Int.reduceLE, Int.reduceGT, Int.reduceGE, Int.reduceAdd, Int.reduceSub, Int.reduceMul, Int.reduceNeg, Int.reduceToNat, reduceCtorEq, reduceIte, lS]
  rw [G_loop]
  simp (disch := first | assumption | omega | (simp only [az]; done)) only [ru, eq_self, if_true, if_false, BEq.rfl, binI, AO.row?, splice, fillL, mmAll, loadV, storeV, zeros, Am.rowAt, Am.part, addOff, Nat.reduceAdd, Nat.reduceMul, Nat.reduceLeDiff, Nat.reduceSub, Nat.reduceLT, Int.reduceEq, Int.reduceLT, Int.reduceLE, Int.reduceGT, Int.reduceGE, Int.reduceAdd, Int.reduceSub, Int.reduceMul, Int.reduceNeg, Int.reduceToNat, reduceCtorEq, reduceIte, lS, eS0, lenV_sl h1, w1, n1]
  rw [G_loop]
  simp (disch := first | assumption | omega | (simp only [az]; done)) only [ru, eq_self, if_true, if_false, BEq.rfl, binI, AO.row?, splice, fillL, mmAll, loadV, storeV, zeros, Am.rowAt, Am.part, addOff, Nat.reduceAdd, Nat.reduceMul, Nat.reduceLeDiff, Nat.reduceSub, Nat.reduceLT, Int.reduceEq, Int.reduceLT, Int.reduceLE, Int.reduceGT, Int.reduceGE, Int.reduceAdd, Int.reduceSub, Int.reduceMul, Int.reduceNeg, Int.reduceToNat, reduceCtorEq, reduceIte, lS, eS1, lenV_sl h2, w2, n2]
  rw [G_loop]
  simp (disch := first | assumption | omega | (simp only [az]; done)) only [ru, eq_self, if_true, if_false, BEq.rfl, binI, AO.row?, splice, fillL, mmAll, loadV, storeV, zeros, Am.rowAt, Am.part, addOff, Nat.reduceAdd, Nat.reduceMul, Nat.reduceLeDiff, Nat.reduceSub, Nat.reduceLT, Int.reduceEq, Int.reduceLT, Int.reduceLE, Int.reduceGT, Int.reduceGE, Int.reduceAdd, Int.reduceSub, Int.reduceMul, Int.reduceNeg, Int.reduceToNat, reduceCtorEq, reduceIte, lS]
  rw [q rfl rfl]
  simp (disch := first | assumption | omega | (simp only [az]; done)) only [ru, eq_self, if_true, if_false, BEq.rfl, binI, AO.row?, splice, fillL, mmAll, loadV, storeV, zeros, Am.rowAt, Am.part, addOff, Nat.reduceAdd, Nat.reduceMul, Nat.reduceLeDiff, Nat.reduceSub, Nat.reduceLT, Int.reduceEq, Int.reduceLT, Int.reduceLE, Int.reduceGT, Int.reduceGE, Int.reduceAdd, Int.reduceSub, Int.reduceMul, Int.reduceNeg, Int.reduceToNat, reduceCtorEq, reduceIte, lS]
  rw [G_loop]
  simp (disch := first | assumption | omega | (simp only [az]; done)) only [ru, eq_self, if_true, if_false, BEq.rfl, binI, AO.row?, splice, fillL, mmAll, loadV, storeV, zeros, Am.rowAt, Am.part, addOff, Nat.reduceAdd, Nat.reduceMul, Nat.reduceLeDiff, Nat.reduceSub, Nat.reduceLT, Int.reduceEq, Int.reduceLT, Int.reduceLE, Int.reduceGT, Int.reduceGE, Int.reduceAdd, Int.reduceSub, Int.reduceMul, Int.reduceNeg, Int.reduceToNat, reduceCtorEq, reduceIte, lS, eS0, a1]
  rw [G_loop]
  simp (disch := first | assumption | omega | (simp only [az]; done)) only [ru, eq_self, if_true, if_false, BEq.rfl, binI, AO.row?, splice, fillL, mmAll, loadV, storeV, zeros, Am.rowAt, Am.part, addOff, Nat.reduceAdd, Nat.reduceMul, Nat.reduceLeDiff, Nat.reduceSub, Nat.reduceLT, Int.reduceEq, Int.reduceLT, Int.reduceLE, Int.reduceGT, Int.reduceGE, Int.reduceAdd, Int.reduceSub, Int.reduceMul, Int.reduceNeg, Int.reduceToNat, reduceCtorEq, reduceIte, lS, eS1, a2]
  rw [G_loop]
  simp (disch := first | assumption | omega | (simp only [az]; done)) only [ru, eq_self, if_true, if_false, BEq.rfl, binI, AO.row?, splice, fillL, mmAll, loadV, storeV, zeros, Am.rowAt, Am.part, addOff, Nat.reduceAdd, Nat.reduceMul, Nat.reduceLeDiff, Nat.reduceSub, Nat.reduceLT, Int.reduceEq, Int.reduceLT, Int.reduceLE, Int.reduceGT, Int.reduceGE, Int.reduceAdd, Int.reduceSub, Int.reduceMul, Int.reduceNeg, Int.reduceToNat, reduceCtorEq, reduceIte, lS]
  exact G2
end Go.Proofs.Ytjaaefdhdggnkaa.S

/-
What the program answers: Idle.
-/
namespace Go.Proofs.Ytjaaefdhdggnkaa.S
open Go Go.Am Go.Proofs.Ytjaaefdhdggnkaa.T
set_option maxRecDepth 100000
set_option linter.unusedSimpArgs false
set_option linter.unusedVariables false

/-- does a word say nothing more? -/
noncomputable def idleB (t : Trap) (k : Nat) : Bool := @decide (∀ x, Tr (t.del k) x → saysW t.C x (t.ws.getD k default)) (Classical.propDecidable _)
theorem idleB_iff {t : Trap} {k : Nat} : idleB t k = true ↔ ∀ x, Tr (t.del k) x → saysW t.C x (t.ws.getD k default) := by
  unfold idleB
  exact @decide_eq_true_iff _ (Classical.propDecidable _)
noncomputable def idleU (t : Trap) (n : Nat) : List Int := List.map (fun k : Nat => (k : Int)) ((List.range n).filter (idleB t))
noncomputable def idleL (t : Trap) : List Int := idleU t t.ws.length
theorem idleU_succ {t : Trap} {n : Nat} : idleU t (n + 1) = idleU t n ++ (if idleB t n then [(n : Int)] else []) := by
  unfold idleU
  rw [List.range_succ, List.filter_append, List.map_append]
  congr 1
  by_cases h : idleB t n = true
  · rw [if_pos h, List.filter_cons_of_pos h]; rfl
  · rw [if_neg h, List.filter_cons_of_neg h]; rfl
theorem idleU_len {t : Trap} {n : Nat} : (idleU t n).length ≤ n := by
  unfold idleU
  rw [List.length_map]
  have := List.length_filter_le (idleB t) (List.range n)
  rwa [List.length_range] at this
/-- a list of numbers that is made by appends -/
def LiN (h : List AO) (v : AV) (L : List Int) : Prop := (L = [] ∧ v = .nils) ∨ (L ≠ [] ∧ ∃ p, v = .ms 1 p 0 L.length ∧ h[p]? = some (.cells (L.flatMap intL) false))
theorem LiN.fr {h h' : List AO} {v : AV} {L : List Int} (H : LiN h v L) (hf : ∀ k, k < h.length → h'[k]? = h[k]?) : LiN h' v L := by
  rcases H with H | ⟨h0, p, e, hp⟩
  · exact .inl H
  · exact .inr ⟨h0, p, e, by rw [hf p (List.getElem?_eq_some_iff.1 hp).1]; exact hp⟩
theorem LiN.view {h : List AO} {v : AV} {L : List Int} (H : LiN h v L) (n : Nat) : ∃ u, (∀ st, Am.view st h (n + 1) v = some u) ∧ IsSl 1 intL L u := by
  rcases H with ⟨rfl, rfl⟩ | ⟨h0, p, rfl, hp⟩
  · exact ⟨.nils, fun st => view_nils, .inr ⟨rfl, rfl⟩⟩
  · refine ⟨_, fun st => ?_, .inl rfl⟩
    rw [view_ms, rowOf_ms]
    simp only [Am.rowAt, hp, Option.bind_some, AO.row?, List.drop_zero]
    rw [List.take_of_length_le (by rw [flat1]; omega), if_pos (by rw [flat1]; omega)]
    simp only [ints_view, Option.map_some]
/-- one number more -/
theorem liN_app {h : List AO} {v : AV} {L : List Int} (H : LiN h v L) (n : Int) (hb : (L.length + 1) * 8 ≤ 1099511627776) : ∃ v' h', appV 0 h 1 8 v (.cs 1 1 [I n]) = some (v', h') ∧ LiN h' v' (L ++ [n]) ∧ h.length ≤ h'.length ∧ ∀ k, k < h.length → (∀ p, v = .ms 1 p 0 L.length → k ≠ p) → h'[k]? = h[k]? := by
  have hr : Am.rowOf h (.cs 1 1 [I n]) = some [I n] := rfl
  rcases H with ⟨rfl, rfl⟩ | ⟨h0, p, rfl, hp⟩
  · have ev := appV_nil (lim := 0) (h := h) (esz := 1) (eb := 8) (n := 1) (x := .cs 1 1 [I n]) rfl hr rfl rfl (by omega) (by omega)
    rw [if_neg (by omega)] at ev
    exact ⟨_, _, ev, .inr ⟨by simp, h.length, rfl, by rw [atT0]; rfl⟩, by simp, fun k hk _ => at_ap hk⟩
  · have ev := appV_ms (lim := 0) (esz := 1) (eb := 8) (n := 1) (len := L.length) (x := .cs 1 1 [I n]) hp (by rw [flat1]; omega) rfl hr rfl rfl hb (by omega) (Nat.zero_le _)
    rw [if_neg (by omega)] at ev
    refine ⟨_, _, ev, .inr ⟨by simp, h.length, by simp, ?_⟩, by simp, fun k hk hn => ?_⟩
    · rw [show h.length = (h.set p AO.tomb).length by simp, atT0, List.flatMap_append]; rfl
    · rw [at_ap (by simp; omega), List.getElem?_set_ne (fun e => hn p rfl e.symm)]

inductive IdA (t : Trap) : AV → Int → Prop
  | bad (h : t.valid = false) : IdA t .nils 10
  | none (h : t.valid = true) (hn : ¬ Solv t.C t.T t) : IdA t .nils 3
  | ok {v : AV} (h : t.valid = true) (hs : Solv t.C t.T t) (hi : IsSl 1 intL (idleL t) v) : IdA t v 0

theorem del_ok {t : Trap} {o w : AV} (H : TrOk t o w) {k : Nat} {u : AV} (hu : IsSl 4 Wd.e (t.del k).ws u) : TrOk (t.del k) o u := by
  have := H.sw
  exact ⟨H.o, hu, H.so, by simp [Trap.del]; omega, H.sl⟩
theorem del_solv {t : Trap} {k : Nat} (hk : k < t.ws.length) (hs : Solv t.C t.T t) : Solv (t.del k).C (t.del k).T (t.del k) := by
  obtain ⟨x, hx⟩ := solv_tr.1 hs
  exact solv_tr.2 ⟨x, ((tr_del hk).1 hx).1⟩
theorem fit_getD {t : Trap} (V : TrB t) {k : Nat} (hk : k < t.ws.length) : fitB t (t.ws.getD k default) = true := V.fw _ (mem_getD hk)

set_option maxHeartbeats 2000000 in
theorem s50 {t : Trap} {o w : AV} (H : TrOk t o w) : ∃ v e, (∀ st, Iso E 50 [trV t o w] st = some (.tup [v, I e])) ∧ IdA t v e := by
  obtain ⟨p, e, K, q, hs⟩ := call73 H true [.cells [I t.ch, I t.tm, o, w] false]
  simp only [trV] at q ⊢
  cases hs with
  | bad hv =>
    refine ⟨.nils, 10, fun st => ?_, .bad hv⟩
    refine Iso_of (es _ _ _ _) e50 ?_
    simp only [f50]
    simp (disch := first | assumption | omega | (simp only [az]; done)) only [ru, eq_self, if_true, if_false, BEq.rfl, binI, AO.row?, splice, fillL, mmAll, loadV, storeV, zeros, Am.rowAt, Am.part, addOff, Nat.reduceAdd, Nat.reduceMul, Nat.reduceLeDiff, Nat.reduceSub, Nat.reduceLT, Int.reduceEq, Int.reduceLT, Int.reduceLE, Int.reduceGT, Int.reduceGE, Int.reduceAdd, Int.reduceSub, Int.reduceMul, Int.reduceNeg, Int.reduceToNat, reduceCtorEq, reduceIte, lenV_sl H.o, lenV_sl H.w, elem_sl Ls.el H.o, elem_sl Wd.el H.w, view_sl H.o, view_sl H.w, scalar_sl H.o, scalar_sl H.w, cells_sl H.o, cells_sl H.w, pure_sl H.o, pure_sl H.w, Int.toNat_natCast]
    rw [q rfl rfl]
    simp (disch := first | assumption | omega | (simp only [az]; done)) only [ru, eq_self, if_true, if_false, BEq.rfl, binI, AO.row?, splice, fillL, mmAll, loadV, storeV, zeros, Am.rowAt, Am.part, addOff, Nat.reduceAdd, Nat.reduceMul, Nat.reduceLeDiff, Nat.reduceSub, Nat.reduceLT, Int.reduceEq, Int.reduceLT, Int.reduceLE, Int.reduceGT, Int.reduceGE, Int.reduceAdd, Int.reduceSub, Int.reduceMul, Int.reduceNeg, Int.reduceToNat, reduceCtorEq, reduceIte, lenV_sl H.o, lenV_sl H.w, elem_sl Ls.el H.o, elem_sl Wd.el H.w, view_sl H.o, view_sl H.w, scalar_sl H.o, scalar_sl H.w, cells_sl H.o, cells_sl H.w, pure_sl H.o, pure_sl H.w, Int.toNat_natCast, List.cons_append, List.nil_append]
  | arg hv hf => cases hf
  | none hv hf hn =>
    refine ⟨.nils, 3, fun st => ?_, .none hv hn⟩
    refine Iso_of (es _ _ _ _) e50 ?_
    simp only [f50]
    simp (disch := first | assumption | omega | (simp only [az]; done)) only [ru, eq_self, if_true, if_false, BEq.rfl, binI, AO.row?, splice, fillL, mmAll, loadV, storeV, zeros, Am.rowAt, Am.part, addOff, Nat.reduceAdd, Nat.reduceMul, Nat.reduceLeDiff, Nat.reduceSub, Nat.reduceLT, Int.reduceEq, Int.reduceLT, Int.reduceLE, Int.reduceGT, Int.reduceGE, Int.reduceAdd, Int.reduceSub, Int.reduceMul, Int.reduceNeg, Int.reduceToNat, reduceCtorEq, reduceIte, lenV_sl H.o, lenV_sl H.w, elem_sl Ls.el H.o, elem_sl Wd.el H.w, view_sl H.o, view_sl H.w, scalar_sl H.o, scalar_sl H.w, cells_sl H.o, cells_sl H.w, pure_sl H.o, pure_sl H.w, Int.toNat_natCast]
    rw [q rfl rfl]
    simp (disch := first | assumption | omega | (simp only [az]; done)) only [ru, eq_self, if_true, if_false, BEq.rfl, binI, AO.row?, splice, fillL, mmAll, loadV, storeV, zeros, Am.rowAt, Am.part, addOff, Nat.reduceAdd, Nat.reduceMul, Nat.reduceLeDiff, Nat.reduceSub, Nat.reduceLT, Int.reduceEq, Int.reduceLT, Int.reduceLE, Int.reduceGT, Int.reduceGE, Int.reduceAdd, Int.reduceSub, Int.reduceMul, Int.reduceNeg, Int.reduceToNat, reduceCtorEq, reduceIte, lenV_sl H.o, lenV_sl H.w, elem_sl Ls.el H.o, elem_sl Wd.el H.w, view_sl H.o, view_sl H.w, scalar_sl H.o, scalar_sl H.w, cells_sl H.o, cells_sl H.w, pure_sl H.o, pure_sl H.w, Int.toNat_natCast, List.cons_append, List.nil_append]
  | @ok B hv hf hk hB hs =>
    have V := valid_trb hv
    have h8 := valid_w8 hv
    have eC := eqC hv; have eT := eqT hv
    have sv := hs.solv hB
    suffices hR : ∃ r h', R E (.fn 50) [.agg [I t.ch, I t.tm, o, w]] [] 0 = some (r, h') ∧ ∃ v, r = .tup [v, I 0] ∧ LiN h' v (idleL t) by
      obtain ⟨r, h', hr, v, rfl, hp⟩ := hR
      obtain ⟨u, hu, iu⟩ := hp.view 6
      refine ⟨u, 0, fun st => ?_, .ok hv sv iu⟩
      simp only [Iso, hr]
      show (([v, I 0].mapM (view st h' 7)).map AV.tup) = _
      simp only [List.mapM_cons, List.mapM_nil, hu st, view_int]
      rfl
    refine R_of (f := 50) (fun r h' => ∃ v, r = .tup [v, I 0] ∧ LiN h' v (idleL t)) (es _ _ _ _) e50 ?_
    simp only [f50]
    simp (disch := first | assumption | omega | (simp only [az]; done)) only [ru, eq_self, if_true, if_false, BEq.rfl, binI, AO.row?, splice, fillL, mmAll, loadV, storeV, zeros, Am.rowAt, Am.part, addOff, Nat.reduceAdd, Nat.reduceMul, Nat.reduceLeDiff, Nat.reduceSub, Nat.reduceLT, Int.reduceEq, Int.reduceLT, Int.reduceLE, Int.reduceGT, Int.reduceGE, Int.reduceAdd, Int.reduceSub, Int.reduceMul, Int.reduceNeg, Int.reduceToNat, reduceCtorEq, reduceIte, lenV_sl H.o, lenV_sl H.w, elem_sl Ls.el H.o, elem_sl Wd.el H.w, view_sl H.o, view_sl H.w, scalar_sl H.o, scalar_sl H.w, cells_sl H.o, cells_sl H.w, pure_sl H.o, pure_sl H.w, Int.toNat_natCast]
    rw [q rfl rfl]
    simp (disch := first | assumption | omega | (simp only [az]; done)) only [ru, eq_self, if_true, if_false, BEq.rfl, binI, AO.row?, splice, fillL, mmAll, loadV, storeV, zeros, Am.rowAt, Am.part, addOff, Nat.reduceAdd, Nat.reduceMul, Nat.reduceLeDiff, Nat.reduceSub, Nat.reduceLT, Int.reduceEq, Int.reduceLT, Int.reduceLE, Int.reduceGT, Int.reduceGE, Int.reduceAdd, Int.reduceSub, Int.reduceMul, Int.reduceNeg, Int.reduceToNat, reduceCtorEq, reduceIte, lenV_sl H.o, lenV_sl H.w, elem_sl Ls.el H.o, elem_sl Wd.el H.w, view_sl H.o, view_sl H.w, scalar_sl H.o, scalar_sl H.w, cells_sl H.o, cells_sl H.w, pure_sl H.o, pure_sl H.w, Int.toNat_natCast, List.cons_append, List.nil_append]
    refine G_loop_ind (fun z ts hk mk => ∃ (i : Nat) (v : AV), i ≤ t.ws.length ∧ z = t.ws.length - i ∧ ts.length = 59 ∧ ts.getD 1 .undef = .ptr 0 0 ∧ ts.getD 6 .undef = v ∧ ts.getD 21 .undef = w ∧ ts.getD 22 .undef = I t.ws.length ∧ ts.getD 23 .undef = I i ∧
      1 ≤ hk.length ∧ hk[0]? = some (.cells [I t.ch, I t.tm, o, w] false) ∧ LiN hk v (idleU t i) ∧ mk = []) ?_ _ _ _ _
      ⟨0, .nils, Nat.zero_le _, rfl, rfl, rfl, rfl, rfl, rfl, rfl, by simp, rfl, .inl ⟨by simp [idleU], rfl⟩, rfl⟩
    rintro z ts hk mk ih ⟨i, v, hi, rfl, hl, q1, q6, q21, q22, q23, hg, k0, HL, rfl⟩
    rw [lit_all hl]
    simp only [lit0, litS, Nat.reduceAdd, q1, q6, q21, q22, q23]
    simp (disch := first | assumption | omega | (simp only [az]; done)) only [ru, eq_self, if_true, if_false, BEq.rfl, binI, AO.row?, splice, fillL, mmAll, loadV, storeV, zeros, Am.rowAt, Am.part, addOff, Nat.reduceAdd, Nat.reduceMul, Nat.reduceLeDiff, Nat.reduceSub, Nat.reduceLT, Int.reduceEq, Int.reduceLT, Int.reduceLE, Int.reduceGT, Int.reduceGE, Int.reduceAdd, Int.reduceSub, Int.reduceMul, Int.reduceNeg, Int.reduceToNat, reduceCtorEq, reduceIte, k0]
    by_cases hlt : (i : Int) < t.ws.length
    case neg =>
      have hi3 : i = t.ws.length := by omega
      subst hi3
      simp (disch := first | assumption | omega | (simp only [az]; done)) only [ru, eq_self, if_true, if_false, BEq.rfl, binI, AO.row?, splice, fillL, mmAll, loadV, storeV, zeros, Am.rowAt, Am.part, addOff, Nat.reduceAdd, Nat.reduceMul, Nat.reduceLeDiff, Nat.reduceSub, Nat.reduceLT, Int.reduceEq, Int.reduceLT, Int.reduceLE, Int.reduceGT, Int.reduceGE, Int.reduceAdd, Int.reduceSub, Int.reduceMul, Int.reduceNeg, Int.reduceToNat, reduceCtorEq, reduceIte, hlt]
      exact ⟨v, rfl, HL⟩
    have hi2 : i < t.ws.length := by omega
    have i0 : (0 : Int) ≤ i := by omega
    have kJ : ∀ J, (hk ++ J)[0]? = some (.cells [I t.ch, I t.tm, o, w] false) := fun J => by rw [at_ap (by omega)]; exact k0
    refine (slice_lo Wd.el H.w (k := i) (by omega)).elim fun u1 hh => ?_
    have su1 := hh.1
    have iu1 := hh.2
    clear hh
    refine (slice_hi Wd.el H.w (k := i + 1) (by omega)).elim fun u2 hh => ?_
    have su2 : sliceV 4 w (some (I ((i : Int) + 1))) none = some u2 := hh.1
    have iu2 := hh.2
    clear hh
    refine (s89 iu1 iu2 (by rw [List.length_take]; omega) (by rw [List.length_drop]; omega)).elim fun u3 hh => ?_
    have c89 := hh.1
    have iu3 : IsSl 4 Wd.e (t.del i).ws u3 := hh.2
    clear hh
    obtain ⟨y, hy⟩ : ∃ y, y = t.ws.getD i default := ⟨_, rfl⟩
    have hyf : fitB t y = true := by rw [hy]; exact fit_getD V hi2
    have HD := del_ok H iu3
    obtain ⟨G1, hG1⟩ : ∃ G1 : List AO, G1 = hk ++ [AO.cells [I y.time, I y.ch, I y.lo, I y.hi] false, AO.cells [I t.ch, I t.tm, o, u3] false] := ⟨_, rfl⟩
    refine (call90 HD (del_trb V) (C := t.C) (T := t.T) eC eT G1).elim fun b hh => hh.elim fun B' hh => hh.elim fun K' hh => ?_
    have q90 : ∀ {lim : Nat} {ρ : Opd → AV} {x : Opd}, ρ x = .agg [I t.ch, I t.tm, o, u3] → exOp (R E) lim none ρ G1 (.call 2 90 [x]) = some (.tup [.ptr (1 + G1.length) 0, Bo b], G1 ++ K') := fun h => hh.1 h
    have k90 := hh.2.1
    have B90 := hh.2.2.1
    have y90 := hh.2.2.2.1
    have n90 := hh.2.2.2.2
    clear hh
    simp (disch := first | assumption | omega | (simp only [az]; done)) only [ru, eq_self, if_true, if_false, BEq.rfl, binI, AO.row?, splice, fillL, mmAll, loadV, storeV, zeros, Am.rowAt, Am.part, addOff, Nat.reduceAdd, Nat.reduceMul, Nat.reduceLeDiff, Nat.reduceSub, Nat.reduceLT, Int.reduceEq, Int.reduceLT, Int.reduceLE, Int.reduceGT, Int.reduceGE, Int.reduceAdd, Int.reduceSub, Int.reduceMul, Int.reduceNeg, Int.reduceToNat, reduceCtorEq, reduceIte, lenV_sl H.o, lenV_sl H.w, elem_sl Ls.el H.o, elem_sl Wd.el H.w, view_sl H.o, view_sl H.w, scalar_sl H.o, scalar_sl H.w, cells_sl H.o, cells_sl H.w, pure_sl H.o, pure_sl H.w, Int.toNat_natCast, lenV_sl iu1, elem_sl Wd.el iu1, view_sl iu1, scalar_sl iu1, cells_sl iu1, pure_sl iu1, lenV_sl iu2, elem_sl Wd.el iu2, view_sl iu2, scalar_sl iu2, cells_sl iu2, pure_sl iu2, lenV_sl iu3, elem_sl Wd.el iu3, view_sl iu3, scalar_sl iu3, cells_sl iu3, pure_sl iu3, kJ, k0, hlt, i0, ← hy, Wd.e, pex_slice, su1, su2, c89, List.append_assoc, List.cons_append, List.nil_append, lenE, setT, setT0, atT, atT0, getT, getT0, Nat.add_assoc]
    rw [← hG1, q90 rfl]
    cases b
    · exact absurd (del_solv hi2 sv) (n90 rfl)
    refine (s80 (t := t.del i) HD (del_trb V) (h := G1 ++ K') k90 B90 (y90 rfl) (y := y) hyf).elim fun r hh => ?_
    have c80 := hh.1 []
    have J80 := hh.2
    clear hh
    obtain ⟨G2, hG2⟩ : ∃ G2 : List AO, G2 = G1 ++ K' := ⟨_, rfl⟩
    rw [← hG2] at c80 ⊢
    rw [List.append_nil] at c80
    have l1 : G1.length = hk.length + 2 := by rw [hG1]; simp
    have g2k : ∀ k, k < hk.length → G2[k]? = hk[k]? := fun k hk' => by rw [hG2, at_ap (by omega), hG1, at_ap hk']
    have g2y : G2[hk.length]? = some (.cells [I y.time, I y.ch, I y.lo, I y.hi] false) := by rw [hG2, at_ap (by omega), hG1, atT0]; rfl
    have g2l : hk.length ≤ G2.length := by rw [hG2, List.length_append]; omega
    have g20 : G2[0]? = some (.cells [I t.ch, I t.tm, o, w] false) := by rw [g2k 0 (by omega)]; exact k0
    have HL2 : LiN G2 v (idleU t i) := HL.fr g2k
    have lu : (idleU t i).length ≤ i := idleU_len
    have eD : ∀ x, saysW t.C x y ↔ saysW t.C x (t.ws.getD i default) := fun x => by rw [hy]
    simp only [Wd.e] at c80
    by_cases e1 : r = 1
    · have idl : idleB t i = true := by
        rw [idleB_iff]
        rcases J80 with ⟨_, h⟩ | ⟨h, _⟩ | ⟨h, _⟩
        · exact fun x hx => (eD x).1 (h x hx)
        · omega
        · omega
      subst e1
      refine (liN_app HL2 (i : Int) (by omega)).elim fun v' hh => hh.elim fun h' hh => ?_
      have a1 := hh.1
      have a2 := hh.2.1
      have a3 := hh.2.2.1
      have a4 := hh.2.2.2
      clear hh
      simp (disch := first | assumption | omega | (simp only [az]; done)) only [ru, eq_self, if_true, if_false, BEq.rfl, binI, AO.row?, splice, fillL, mmAll, loadV, storeV, zeros, Am.rowAt, Am.part, addOff, Nat.reduceAdd, Nat.reduceMul, Nat.reduceLeDiff, Nat.reduceSub, Nat.reduceLT, Int.reduceEq, Int.reduceLT, Int.reduceLE, Int.reduceGT, Int.reduceGE, Int.reduceAdd, Int.reduceSub, Int.reduceMul, Int.reduceNeg, Int.reduceToNat, reduceCtorEq, reduceIte, g2y, c80, a1]
      refine ih (t.ws.length - (i + 1)) _ _ _ (by omega) ⟨i + 1, v', by omega, rfl, rfl, rfl, rfl, rfl, rfl, rfl, by omega, ?_, ?_, rfl⟩
      · rw [a4 0 (by omega) fun p hp e => ?_]
        · exact g20
        · subst e
          rcases HL with ⟨_, rfl⟩ | ⟨h0, p', e', hp'⟩
          · cases hp
          · rw [e'] at hp
            cases hp
            rw [k0] at hp'
            simp only [Option.some.injEq, AO.cells.injEq, and_true] at hp'
            have h4 := congrArg List.length hp'
            rw [flat1] at h4
            have h5 := congrArg (fun l : List AV => l.getD 2 .undef) hp'
            have h6 : (idleU t i).length = 4 := h4.symm
            obtain ⟨a, b, c, d, e4⟩ : ∃ a b c d, idleU t i = [a, b, c, d] := by
              match hL : idleU t i, h6 with
              | [a, b, c, d], _ => exact ⟨a, b, c, d, rfl⟩
            rw [e4] at h5
            have h7 : o = I c := h5
            have := H.o
            rw [h7] at this
            rcases this with h | ⟨h, _⟩ <;> cases h
      · rw [idleU_succ, if_pos idl]; exact a2
    · have idl : idleB t i = false := by
        rw [Bool.eq_false_iff]
        intro h
        rw [idleB_iff] at h
        rcases J80 with ⟨h1, _⟩ | ⟨_, h1⟩ | ⟨_, _, x, h1, h2⟩
        · exact e1 h1
        · obtain ⟨x, hx⟩ := solv_tr.1 (del_solv hi2 sv)
          exact h1 x hx ((eD x).2 (h x hx))
        · exact h2 ((eD x).2 (h x h1))
      have ne : (r == 1) = false := by simpa using e1
      simp (disch := first | assumption | omega | (simp only [az]; done)) only [ru, eq_self, if_true, if_false, BEq.rfl, binI, AO.row?, splice, fillL, mmAll, loadV, storeV, zeros, Am.rowAt, Am.part, addOff, Nat.reduceAdd, Nat.reduceMul, Nat.reduceLeDiff, Nat.reduceSub, Nat.reduceLT, Int.reduceEq, Int.reduceLT, Int.reduceLE, Int.reduceGT, Int.reduceGE, Int.reduceAdd, Int.reduceSub, Int.reduceMul, Int.reduceNeg, Int.reduceToNat, reduceCtorEq, reduceIte, g2y, c80, ne, e1]
      refine ih (t.ws.length - (i + 1)) _ _ _ (by omega) ⟨i + 1, v, by omega, rfl, rfl, rfl, rfl, rfl, rfl, rfl, by omega, g20, ?_, rfl⟩
      rw [idleU_succ, if_neg (by rw [idl]; simp), List.append_nil]; exact HL2
end Go.Proofs.Ytjaaefdhdggnkaa.S

/-
The reference's doubt, tell, Tell; the place that should be counted: AskP; the reference's Ask.
-/
namespace Go.Proofs.Ytjaaefdhdggnkaa.S
open Go Go.Am Go.Proofs.Ytjaaefdhdggnkaa.T
set_option maxRecDepth 100000
set_option linter.unusedSimpArgs false
set_option linter.unusedVariables false

theorem cp_dbt {t : Trap} {d : Int} (D : DbtP t.cp d) : DbtP t d := by
  obtain ⟨lo, hi, X, e⟩ := D
  exact ⟨lo, hi, cp_xt X, e⟩
theorem DbtP.nn {t : Trap} {d : Int} (D : DbtP t d) : 0 ≤ d := by
  obtain ⟨lo, hi, X, rfl⟩ := D
  obtain ⟨x0, ⟨u1, u2, u3⟩, v1, v2, v3⟩ := xt_tr X
  have := x0 u1 u2
  omega
theorem s96 {t : Trap} {o w : AV} (H : TrOk t o w) (V : TrB t) (hs : Solv t.C t.T t) : ∃ d, (∀ st, Iso E 96 [trV t o w] st = some (I d)) ∧ DbtP t d := by
  have v0 := V.c0; have v1 := V.c1; have v2 := V.t0; have v3 := V.t1
  have eC := trC V; have eT := trT V
  obtain ⟨lo, hi, c93, X⟩ := s93 H V hs (i := t.T - 1) (c := t.C - 1) (by omega) (by omega)
  have w1 : wr .i64 (t.tm - 1) = ((t.T - 1 : Nat) : Int) := by rw [wr64 (by omega) (by omega)]; omega
  have w2 : wr .i64 (t.ch - 1) = ((t.C - 1 : Nat) : Int) := by rw [wr64 (by omega) (by omega)]; omega
  have bd := xt_bd (by omega) (by omega) X
  obtain ⟨x0, ⟨u1, u2, u3⟩, y1, y2, y3⟩ := xt_tr X
  try simp only at u3 y3 x0
  have w3 : wr .i64 (hi - lo) = hi - lo := wr64 (by omega) (by omega)
  refine ⟨hi - lo, fun st => ?_, lo, hi, X, rfl⟩
  refine Iso_of (es _ _ _ _) e96 ?_
  simp only [f96, trV] at c93 ⊢
  simp (disch := first | assumption | omega | (simp only [az]; done)) only [ru, eq_self, if_true, if_false, BEq.rfl, binI, AO.row?, splice, fillL, mmAll, loadV, storeV, zeros, Am.rowAt, Am.part, addOff, Nat.reduceAdd, Nat.reduceMul, Nat.reduceLeDiff, Nat.reduceSub, Nat.reduceLT, Int.reduceEq, Int.reduceLT, Int.reduceLE, Int.reduceGT, Int.reduceGE, Int.reduceAdd, Int.reduceSub, Int.reduceMul, Int.reduceNeg, Int.reduceToNat, reduceCtorEq, reduceIte, lenV_sl H.o, lenV_sl H.w, elem_sl Ls.el H.o, elem_sl Wd.el H.w, view_sl H.o, view_sl H.w, scalar_sl H.o, scalar_sl H.w, cells_sl H.o, cells_sl H.w, pure_sl H.o, pure_sl H.w, Int.toNat_natCast, w1, w2, c93, w3]

set_option maxHeartbeats 1000000 in
theorem s95 {t : Trap} {o w : AV} (H : TrOk t o w) (V : TrB t) (h8 : t.ws.length ≤ 8) (hs : Solv t.C t.T t) {i c : Nat} (hi : i < t.T) (hc : c < t.C) : ∃ m, (∀ st, Iso E 95 [trV t o w, .agg [I i, I c]] st = some (I m)) ∧ TellP t i c m := by
  have v1 := V.c0; have v2 := V.c1; have v3 := V.t0; have v4 := V.t1
  have eC := trC V; have eT := trT V
  obtain ⟨lo, hi', c93, X⟩ := s93 H V hs hi hc
  obtain ⟨x0, ⟨u1, u2, u3⟩, y1, y2, y3⟩ := xt_tr X
  have bd := xt_bd hi hc X
  try simp only at x0 u3 y3
  suffices hR : ∃ r h', R E (.fn 95) [trV t o w, .agg [I i, I c]] [] 0 = some (r, h') ∧ ∃ m, r = I m ∧ TellP t i c m by
    obtain ⟨r, h', hr, m, rfl, hp⟩ := hR
    exact ⟨m, fun st => by simp only [Iso, hr]; rfl, hp⟩
  have lohi : lo ≤ hi' := by have := x0 u1 u2; omega
  simp only [trV] at c93 ⊢
  refine R_of (f := 95) (fun r h' => ∃ m, r = I m ∧ TellP t i c m) (es _ _ _ _) e95 ?_
  simp only [f95]
  simp (disch := first | assumption | omega | (simp only [az]; done)) only [ru, eq_self, if_true, if_false, BEq.rfl, binI, AO.row?, splice, fillL, mmAll, loadV, storeV, zeros, Am.rowAt, Am.part, addOff, Nat.reduceAdd, Nat.reduceMul, Nat.reduceLeDiff, Nat.reduceSub, Nat.reduceLT, Int.reduceEq, Int.reduceLT, Int.reduceLE, Int.reduceGT, Int.reduceGE, Int.reduceAdd, Int.reduceSub, Int.reduceMul, Int.reduceNeg, Int.reduceToNat, reduceCtorEq, reduceIte, lenV_sl H.o, lenV_sl H.w, elem_sl Ls.el H.o, elem_sl Wd.el H.w, view_sl H.o, view_sl H.w, scalar_sl H.o, scalar_sl H.w, cells_sl H.o, cells_sl H.w, pure_sl H.o, pure_sl H.w, Int.toNat_natCast, c93]
  refine G_loop_ind (fun z ts hk mk => ∃ (n m : Int), lo ≤ n ∧ n ≤ hi' + 1 ∧ z = (hi' + 1 - n).toNat ∧ ts.length = 30 ∧ ts.getD 2 .undef = .ptr 0 0 ∧ ts.getD 3 .undef = .ptr 1 0 ∧ ts.getD 5 .undef = .ptr 2 0 ∧ ts.getD 6 .undef = I m ∧ ts.getD 7 .undef = I n ∧
    hk = [.cells [I t.ch, I t.tm, o, w] false, .cells [I i, I c] false, .cells [I lo, I hi'] false] ∧ TellI t i c n m ∧ mk = []) ?_ _ _ _ _
    ⟨lo, 0, Int.le_refl _, by omega, rfl, rfl, rfl, rfl, rfl, rfl, rfl, rfl, TellI.start fun x hx => (x0 x hx).1, rfl⟩
  rintro z ts hk mk ih ⟨n, m, n1, n2, rfl, hl, q2, q3, q5, q6, q7, rfl, J, rfl⟩
  rw [lit_all hl]
  simp only [lit0, litS, Nat.reduceAdd, q2, q3, q5, q6, q7]
  simp (disch := first | assumption | omega | (simp only [az]; done)) only [ru, eq_self, if_true, if_false, BEq.rfl, binI, AO.row?, splice, fillL, mmAll, loadV, storeV, zeros, Am.rowAt, Am.part, addOff, Nat.reduceAdd, Nat.reduceMul, Nat.reduceLeDiff, Nat.reduceSub, Nat.reduceLT, Int.reduceEq, Int.reduceLT, Int.reduceLE, Int.reduceGT, Int.reduceGE, Int.reduceAdd, Int.reduceSub, Int.reduceMul, Int.reduceNeg, Int.reduceToNat, reduceCtorEq, reduceIte]
  by_cases hlt : n ≤ hi'
  case neg =>
    simp (disch := first | assumption | omega | (simp only [az]; done)) only [ru, eq_self, if_true, if_false, BEq.rfl, binI, AO.row?, splice, fillL, mmAll, loadV, storeV, zeros, Am.rowAt, Am.part, addOff, Nat.reduceAdd, Nat.reduceMul, Nat.reduceLeDiff, Nat.reduceSub, Nat.reduceLT, Int.reduceEq, Int.reduceLT, Int.reduceLE, Int.reduceGT, Int.reduceGE, Int.reduceAdd, Int.reduceSub, Int.reduceMul, Int.reduceNeg, Int.reduceToNat, reduceCtorEq, reduceIte, hlt]
    exact ⟨m, rfl, J.done hs fun x hx => by have := x0 x hx; omega⟩
  have wn : wr .i64 (n + 1) = n + 1 := wr64 (by omega) (by omega)
  obtain ⟨y, hy⟩ : ∃ y : Wd, y = ⟨i, c, n, n⟩ := ⟨_, rfl⟩
  have hyf : fitB t y = true := by
    rw [hy]
    simp only [fitB, placeB, Bool.and_eq_true, decide_eq_true_eq]; omega
  have c34 := s34 H (by omega) i c n
  rw [← hy] at c34
  have HA := add_ok H (by omega) y
  have VA := cp_trb (add_trb V h8 hyf)
  have sA : Solv (t.add y).cp.C (t.add y).cp.T (t.add y).cp := by
    obtain ⟨x, hx, e⟩ := midG H V hi hc X n1 hlt
    have ha : Tr (t.add y) x := by
      rw [tr_add, hy]
      unfold saysW
      simp only [Int.toNat_natCast]
      exact ⟨hx, by omega, by omega⟩
    exact solv_tr.2 ⟨x, tr_cp.2 ha⟩
  refine (s96 HA VA sA).elim fun d h => ?_
  have c96 := h.1
  have D : DbtP (t.add ⟨i, c, n, n⟩) d := by rw [← hy]; exact cp_dbt h.2
  clear h
  have hq := HA.o
  have hq' := HA.w
  have c34' : ∀ u1 u2 : AV, u1 = cpO (t.add y).op → u2 = slV 4 Wd.e (t.add y).ws → Iso E 34 [.agg [I t.ch, I t.tm, o, w], .agg [I i, I c], I n] false = some (.agg [I t.ch, I t.tm, u1, u2]) := by rintro _ _ rfl rfl; exact c34
  have c96' : ∀ u1 u2 : AV, u1 = cpO (t.add y).op → u2 = slV 4 Wd.e (t.add y).ws → ∀ st, Iso E 96 [.agg [I t.ch, I t.tm, u1, u2]] st = some (I d) := by rintro _ _ rfl rfl; exact c96
  generalize eo : cpO (t.add y).op = o' at hq c34' c96'
  generalize ew : slV 4 Wd.e (t.add y).ws = w' at hq' c34' c96'
  have d34 := c34' _ _ rfl rfl
  have d96 := c96' _ _ rfl rfl
  clear c34' c96' c96 c34 HA
  simp (disch := first | assumption | omega | (simp only [az]; done)) only [ru, eq_self, if_true, if_false, BEq.rfl, binI, AO.row?, splice, fillL, mmAll, loadV, storeV, zeros, Am.rowAt, Am.part, addOff, Nat.reduceAdd, Nat.reduceMul, Nat.reduceLeDiff, Nat.reduceSub, Nat.reduceLT, Int.reduceEq, Int.reduceLT, Int.reduceLE, Int.reduceGT, Int.reduceGE, Int.reduceAdd, Int.reduceSub, Int.reduceMul, Int.reduceNeg, Int.reduceToNat, reduceCtorEq, reduceIte, lenV_sl H.o, lenV_sl H.w, elem_sl Ls.el H.o, elem_sl Wd.el H.w, view_sl H.o, view_sl H.w, scalar_sl H.o, scalar_sl H.w, cells_sl H.o, cells_sl H.w, pure_sl H.o, pure_sl H.w, Int.toNat_natCast, hlt, lenV_sl hq, elem_sl Ls.el hq, view_sl hq, scalar_sl hq, cells_sl hq, pure_sl hq, lenV_sl hq', elem_sl Wd.el hq', view_sl hq', scalar_sl hq', cells_sl hq', pure_sl hq', d34, d96, wn]
  exact ih _ _ _ _ (by omega) ⟨n + 1, _, by omega, by omega, rfl, rfl, rfl, rfl, rfl, rfl, rfl, rfl, J.next V D, rfl⟩

theorem s66 {t : Trap} {o w : AV} (H : TrOk t o w) (a b : Int) : ∃ v e, (∀ st, Iso E 66 [trV t o w, .agg [I a, I b]] st = some (.tup [I v, I e])) ∧ AnsG t (placeB t a b) (fun e => (0, e)) (fun r => TellP t a.toNat b.toNat r.1 ∧ r.2 = 0) (v, e) := by
  have c1 := fun st => s31 H a b st
  obtain ⟨fit, hfit⟩ : ∃ fit, fit = (inR a 0 (wr .i64 (t.tm - 1)) && inR b 0 (wr .i64 (t.ch - 1))) := ⟨_, rfl⟩
  rw [← hfit] at c1
  obtain ⟨e, c92, K⟩ := s92 H fit
  have K2 := K.map (fit' := placeB t a b) (fun hv => by
    rw [hfit, wrT hv, wrC hv]
    rw [Bool.eq_iff_iff]
    simp only [placeB, Bool.and_eq_true, inR_iff, decide_eq_true_eq]
    omega)
  simp only [trV] at c1 c92 ⊢
  cases K2 with
  | bad hv =>
    refine ⟨0, 10, fun st => ?_, .bad hv⟩
    refine Iso_of (es _ _ _ _) e66 ?_
    simp only [f66]
    simp (disch := first | assumption | omega | (simp only [az]; done)) only [ru, eq_self, if_true, if_false, BEq.rfl, binI, AO.row?, splice, fillL, mmAll, loadV, storeV, zeros, Am.rowAt, Am.part, addOff, Nat.reduceAdd, Nat.reduceMul, Nat.reduceLeDiff, Nat.reduceSub, Nat.reduceLT, Int.reduceEq, Int.reduceLT, Int.reduceLE, Int.reduceGT, Int.reduceGE, Int.reduceAdd, Int.reduceSub, Int.reduceMul, Int.reduceNeg, Int.reduceToNat, reduceCtorEq, reduceIte, lenV_sl H.o, lenV_sl H.w, elem_sl Ls.el H.o, elem_sl Wd.el H.w, view_sl H.o, view_sl H.w, scalar_sl H.o, scalar_sl H.w, cells_sl H.o, cells_sl H.w, pure_sl H.o, pure_sl H.w, Int.toNat_natCast, c1, c92]
  | arg hv hf =>
    refine ⟨0, 1, fun st => ?_, .arg hv hf⟩
    refine Iso_of (es _ _ _ _) e66 ?_
    simp only [f66]
    simp (disch := first | assumption | omega | (simp only [az]; done)) only [ru, eq_self, if_true, if_false, BEq.rfl, binI, AO.row?, splice, fillL, mmAll, loadV, storeV, zeros, Am.rowAt, Am.part, addOff, Nat.reduceAdd, Nat.reduceMul, Nat.reduceLeDiff, Nat.reduceSub, Nat.reduceLT, Int.reduceEq, Int.reduceLT, Int.reduceLE, Int.reduceGT, Int.reduceGE, Int.reduceAdd, Int.reduceSub, Int.reduceMul, Int.reduceNeg, Int.reduceToNat, reduceCtorEq, reduceIte, lenV_sl H.o, lenV_sl H.w, elem_sl Ls.el H.o, elem_sl Wd.el H.w, view_sl H.o, view_sl H.w, scalar_sl H.o, scalar_sl H.w, cells_sl H.o, cells_sl H.w, pure_sl H.o, pure_sl H.w, Int.toNat_natCast, c1, c92]
  | none hv hf hn =>
    refine ⟨0, 3, fun st => ?_, .none hv hf hn⟩
    refine Iso_of (es _ _ _ _) e66 ?_
    simp only [f66]
    simp (disch := first | assumption | omega | (simp only [az]; done)) only [ru, eq_self, if_true, if_false, BEq.rfl, binI, AO.row?, splice, fillL, mmAll, loadV, storeV, zeros, Am.rowAt, Am.part, addOff, Nat.reduceAdd, Nat.reduceMul, Nat.reduceLeDiff, Nat.reduceSub, Nat.reduceLT, Int.reduceEq, Int.reduceLT, Int.reduceLE, Int.reduceGT, Int.reduceGE, Int.reduceAdd, Int.reduceSub, Int.reduceMul, Int.reduceNeg, Int.reduceToNat, reduceCtorEq, reduceIte, lenV_sl H.o, lenV_sl H.w, elem_sl Ls.el H.o, elem_sl Wd.el H.w, view_sl H.o, view_sl H.w, scalar_sl H.o, scalar_sl H.w, cells_sl H.o, cells_sl H.w, pure_sl H.o, pure_sl H.w, Int.toNat_natCast, c1, c92]
  | ok hv hf hs =>
    have V := valid_trb hv
    have eC := eqC hv; have eT := eqT hv
    have pl : 0 ≤ a ∧ a < t.tm ∧ 0 ≤ b ∧ b < t.ch := by
      simp only [placeB, Bool.and_eq_true, decide_eq_true_eq] at hf; omega
    obtain ⟨ai, rfl⟩ : ∃ ai : Nat, a = ai := ⟨a.toNat, by omega⟩
    obtain ⟨bi, rfl⟩ : ∃ bi : Nat, b = bi := ⟨b.toNat, by omega⟩
    simp only [Int.toNat_natCast]
    obtain ⟨m, c95, T⟩ := s95 H V (valid_w8 hv) hs (i := ai) (c := bi) (by omega) (by omega)
    simp only [trV] at c95
    refine ⟨m, 0, fun st => ?_, .ok hv hf hs ⟨T, rfl⟩⟩
    refine Iso_of (es _ _ _ _) e66 ?_
    simp only [f66]
    simp (disch := first | assumption | omega | (simp only [az]; done)) only [ru, eq_self, if_true, if_false, BEq.rfl, binI, AO.row?, splice, fillL, mmAll, loadV, storeV, zeros, Am.rowAt, Am.part, addOff, Nat.reduceAdd, Nat.reduceMul, Nat.reduceLeDiff, Nat.reduceSub, Nat.reduceLT, Int.reduceEq, Int.reduceLT, Int.reduceLE, Int.reduceGT, Int.reduceGE, Int.reduceAdd, Int.reduceSub, Int.reduceMul, Int.reduceNeg, Int.reduceToNat, reduceCtorEq, reduceIte, lenV_sl H.o, lenV_sl H.w, elem_sl Ls.el H.o, elem_sl Wd.el H.w, view_sl H.o, view_sl H.w, scalar_sl H.o, scalar_sl H.w, cells_sl H.o, cells_sl H.w, pure_sl H.o, pure_sl H.w, Int.toNat_natCast, c1, c92, c95]

/-- a place but for the last one -/
def oth (t : Trap) (i c : Nat) : Prop := i < t.T ∧ c < t.C ∧ ¬ (i = t.T - 1 ∧ c = t.C - 1)
/-- (a, b) is before (i, c) -/
def befp (i c a b : Nat) : Prop := a < i ∨ (a = i ∧ b < c)
/-- the first of the best places before (i, c) -/
structure AskB (t : Trap) (i c a b : Nat) (m : Int) : Prop where
  fo : oth t a b
  fb : befp i c a b
  fp : TellP t a b m
  fl : ∀ a' b' m', oth t a' b' → befp i c a' b' → TellP t a' b' m' → m ≤ m' ∧ (befp a b a' b' → m < m')
theorem TellP.nn {t : Trap} {i c : Nat} {m : Int} (A : TellP t i c m) : 0 ≤ m := by
  obtain ⟨a, x, y, h1, h2, h3, h4⟩ := A
  have := a x x h1 h1 rfl
  omega
theorem AskB.uniq {t : Trap} {i c a b a' b' : Nat} {m m' : Int} (A : AskB t i c a b m) (B : AskB t i c a' b' m') : a = a' ∧ b = b' := by
  have h1 := A.fl a' b' m' B.fo B.fb B.fp
  have h2 := B.fl a b m A.fo A.fb A.fp
  have e : m = m' := by omega
  subst e
  by_cases e : a = a' ∧ b = b'
  · exact e
  · exfalso
    by_cases h : befp a b a' b'
    · have := h1.2 h; omega
    · have : befp a' b' a b := by unfold befp at *; omega
      have := h2.2 this; omega
theorem AskB.first {t : Trap} {i c : Nat} {d : Int} (h : ∀ a b, oth t a b → ¬ befp i c a b) (ho : oth t i c) (hp : TellP t i c d) : AskB t i (c + 1) i c d := by
  refine ⟨ho, by unfold befp; omega, hp, fun a' b' m' o' hb p' => ?_⟩
  have hn := h _ _ o'
  have e : a' = i ∧ b' = c := by unfold befp at *; omega
  obtain ⟨rfl, rfl⟩ := e
  have := p'.uniq hp
  exact ⟨by omega, fun h => by unfold befp at h; omega⟩
theorem AskB.less {t : Trap} {i c a b : Nat} {m d : Int} (A : AskB t i c a b m) (ho : oth t i c) (hp : TellP t i c d) (hd : d < m) : AskB t i (c + 1) i c d := by
  refine ⟨ho, by unfold befp; omega, hp, fun a' b' m' o' hb p' => ?_⟩
  by_cases e : a' = i ∧ b' = c
  · obtain ⟨rfl, rfl⟩ := e
    have := p'.uniq hp
    exact ⟨by omega, fun h => by unfold befp at h; omega⟩
  · have := A.fl a' b' m' o' (by unfold befp at *; omega) p'
    exact ⟨by omega, fun _ => by omega⟩
theorem AskB.more {t : Trap} {i c a b : Nat} {m d : Int} (A : AskB t i c a b m) (hp : TellP t i c d) (hd : ¬ d < m) : AskB t i (c + 1) a b m := by
  have Ab := A.fb
  refine ⟨A.fo, by unfold befp at *; omega, A.fp, fun a' b' m' o' hb p' => ?_⟩
  by_cases e : a' = i ∧ b' = c
  · obtain ⟨rfl, rfl⟩ := e
    have := p'.uniq hp
    exact ⟨by omega, fun h => by unfold befp at *; omega⟩
  · exact A.fl a' b' m' o' (by unfold befp at *; omega) p'
theorem AskB.skip {t : Trap} {i c a b : Nat} {m : Int} (A : AskB t i c a b m) (ho : ¬ oth t i c) : AskB t i (c + 1) a b m := by
  have Ab := A.fb
  refine ⟨A.fo, by unfold befp at *; omega, A.fp, fun a' b' m' o' hb p' => ?_⟩
  by_cases e : a' = i ∧ b' = c
  · obtain ⟨rfl, rfl⟩ := e; exact absurd o' ho
  · exact A.fl a' b' m' o' (by unfold befp at *; omega) p'
theorem AskB.row {t : Trap} {i a b : Nat} {m : Int} (A : AskB t i t.C a b m) : AskB t (i + 1) 0 a b m := by
  have Ab := A.fb
  refine ⟨A.fo, by unfold befp at *; omega, A.fp, fun a' b' m' o' hb p' => ?_⟩
  exact A.fl a' b' m' o' (by have := o'.2.1; unfold befp at *; omega) p'
/-- the place that should be counted, or none -/
def AskP (t : Trap) (r : Int × Int × Int) : Prop :=
  (r = (0, 0, 3) ∧ (DbtP t 0 ∨ ∀ i c, ¬ oth t i c)) ∨ ((∃ d, DbtP t d ∧ 0 < d) ∧ ∃ (i c : Nat) (m : Int), r = ((i : Int), (c : Int), (0 : Int)) ∧ AskB t t.T 0 i c m)
theorem AskP.uniq {t : Trap} {r s : Int × Int × Int} (A : AskP t r) (B : AskP t s) : r = s := by
  rcases A with ⟨rfl, A⟩ | ⟨⟨d, D, d0⟩, i, c, m, rfl, A⟩
  · rcases B with ⟨rfl, B⟩ | ⟨⟨d, D, d0⟩, i, c, m, rfl, B⟩
    · rfl
    · rcases A with A | A
      · have := A.uniq D; omega
      · exact absurd B.fo (A _ _)
  · rcases B with ⟨rfl, B⟩ | ⟨⟨d', D', d0'⟩, i', c', m', rfl, B⟩
    · rcases B with B | B
      · have := B.uniq D; omega
      · exact absurd A.fo (B _ _)
    · obtain ⟨rfl, rfl⟩ := A.uniq B
      rfl
end Go.Proofs.Ytjaaefdhdggnkaa.S

/-
The reference's Ask.
-/
namespace Go.Proofs.Ytjaaefdhdggnkaa.S
open Go Go.Am Go.Proofs.Ytjaaefdhdggnkaa.T
set_option maxRecDepth 100000
set_option linter.unusedSimpArgs false
set_option linter.unusedVariables false

/-- the state of a search for the best place -/
def AskS (t : Trap) (i c : Nat) (ba bb ls : Int) : Prop := (ls = -1 ∧ ∀ a b, oth t a b → ¬ befp i c a b) ∨ ∃ a b : Nat, ba = a ∧ bb = b ∧ 0 ≤ ls ∧ AskB t i c a b ls
theorem AskS.start {t : Trap} {ba bb : Int} : AskS t 0 0 ba bb (-1) := .inl ⟨rfl, fun a b _ h => by unfold befp at h; omega⟩
theorem AskS.row {t : Trap} {i : Nat} {ba bb ls : Int} (S : AskS t i t.C ba bb ls) : AskS t (i + 1) 0 ba bb ls := by
  rcases S with ⟨e, h⟩ | ⟨a, b, e1, e2, e3, A⟩
  · refine .inl ⟨e, fun a b o hb => h a b o ?_⟩
    have := o.2.1
    unfold befp at *; omega
  · exact .inr ⟨a, b, e1, e2, e3, A.row⟩
theorem AskS.skip {t : Trap} {i c : Nat} {ba bb ls : Int} (S : AskS t i c ba bb ls) (ho : ¬ oth t i c) : AskS t i (c + 1) ba bb ls := by
  rcases S with ⟨e, h⟩ | ⟨a, b, e1, e2, e3, A⟩
  · refine .inl ⟨e, fun a b o hb => ?_⟩
    by_cases e : a = i ∧ b = c
    · obtain ⟨rfl, rfl⟩ := e; exact ho o
    · exact h a b o (by unfold befp at *; omega)
  · exact .inr ⟨a, b, e1, e2, e3, A.skip ho⟩
theorem AskS.take {t : Trap} {i c : Nat} {ba bb ls d : Int} (S : AskS t i c ba bb ls) (ho : oth t i c) (hp : TellP t i c d) (h : ls < 0 ∨ d < ls) : AskS t i (c + 1) i c d := by
  refine .inr ⟨i, c, rfl, rfl, hp.nn, ?_⟩
  rcases S with ⟨e, hn⟩ | ⟨a, b, e1, e2, e3, A⟩
  · exact AskB.first hn ho hp
  · exact A.less ho hp (by omega)
theorem AskS.keep {t : Trap} {i c : Nat} {ba bb ls d : Int} (S : AskS t i c ba bb ls) (hp : TellP t i c d) (h : ¬ ls < 0) (h2 : ¬ d < ls) : AskS t i (c + 1) ba bb ls := by
  rcases S with ⟨e, hn⟩ | ⟨a, b, e1, e2, e3, A⟩
  · omega
  · exact .inr ⟨a, b, e1, e2, e3, A.more hp h2⟩
theorem AskS.none {t : Trap} {ba bb ls : Int} (S : AskS t t.T 0 ba bb ls) (h : ls < 0) : AskP t (0, 0, 3) := by
  rcases S with ⟨e, hn⟩ | ⟨a, b, e1, e2, e3, A⟩
  · refine .inl ⟨rfl, .inr fun i c o => hn i c o ?_⟩
    have := o.1
    unfold befp; omega
  · omega
theorem AskS.done {t : Trap} {ba bb ls d : Int} (S : AskS t t.T 0 ba bb ls) (h : ¬ ls < 0) (D : DbtP t d) (hd : 0 < d) : AskP t (ba, bb, 0) := by
  rcases S with ⟨e, hn⟩ | ⟨a, b, e1, e2, e3, A⟩
  · omega
  · exact .inr ⟨⟨d, D, hd⟩, a, b, ls, by rw [e1, e2], A⟩

set_option maxHeartbeats 4000000 in
theorem s67 {t : Trap} {o w : AV} (H : TrOk t o w) : ∃ a b e, Iso E 67 [trV t o w] false = some (.tup [.agg [I a, I b], I e]) ∧ AnsG t true (fun e => (0, 0, e)) (AskP t) (a, b, e) := by
  obtain ⟨e, c92, K⟩ := s92 H true
  simp only [trV] at c92 ⊢
  cases K with
  | bad hv =>
    refine ⟨0, 0, 10, ?_, .bad hv⟩
    refine Iso_of (es _ _ _ _) e67 ?_
    simp only [f67]
    simp (disch := first | assumption | omega | (simp only [az]; done)) only [ru, eq_self, if_true, if_false, BEq.rfl, binI, AO.row?, splice, fillL, mmAll, loadV, storeV, zeros, Am.rowAt, Am.part, addOff, Nat.reduceAdd, Nat.reduceMul, Nat.reduceLeDiff, Nat.reduceSub, Nat.reduceLT, Int.reduceEq, Int.reduceLT, Int.reduceLE, Int.reduceGT, Int.reduceGE, Int.reduceAdd, Int.reduceSub, Int.reduceMul, Int.reduceNeg, Int.reduceToNat, reduceCtorEq, reduceIte, lenV_sl H.o, lenV_sl H.w, elem_sl Ls.el H.o, elem_sl Wd.el H.w, view_sl H.o, view_sl H.w, scalar_sl H.o, scalar_sl H.w, cells_sl H.o, cells_sl H.w, pure_sl H.o, pure_sl H.w, Int.toNat_natCast, c92]
    exact finS rfl rfl
  | arg hv hf => cases hf
  | none hv hf hn =>
    refine ⟨0, 0, 3, ?_, .none hv hf hn⟩
    refine Iso_of (es _ _ _ _) e67 ?_
    simp only [f67]
    simp (disch := first | assumption | omega | (simp only [az]; done)) only [ru, eq_self, if_true, if_false, BEq.rfl, binI, AO.row?, splice, fillL, mmAll, loadV, storeV, zeros, Am.rowAt, Am.part, addOff, Nat.reduceAdd, Nat.reduceMul, Nat.reduceLeDiff, Nat.reduceSub, Nat.reduceLT, Int.reduceEq, Int.reduceLT, Int.reduceLE, Int.reduceGT, Int.reduceGE, Int.reduceAdd, Int.reduceSub, Int.reduceMul, Int.reduceNeg, Int.reduceToNat, reduceCtorEq, reduceIte, lenV_sl H.o, lenV_sl H.w, elem_sl Ls.el H.o, elem_sl Wd.el H.w, view_sl H.o, view_sl H.w, scalar_sl H.o, scalar_sl H.w, cells_sl H.o, cells_sl H.w, pure_sl H.o, pure_sl H.w, Int.toNat_natCast, c92]
    exact finS rfl rfl
  | ok hv hf hs =>
    have V := valid_trb hv
    have v0 := V.c0; have v2 := V.c1; have v3 := V.t0; have v4 := V.t1
    have eC := eqC hv; have eT := eqT hv
    obtain ⟨d, c96, D⟩ := s96 H V hs
    have d0 := D.nn
    simp only [trV] at c96
    suffices hR : ∃ r h', R E (.fn 67) [.agg [I t.ch, I t.tm, o, w]] [] 0 = some (r, h') ∧ ∃ a b e, r = .tup [.agg [I a, I b], I e] ∧ AskP t (a, b, e) by
      obtain ⟨r, h', hr, a, b, e, rfl, hp⟩ := hR
      refine ⟨a, b, e, ?_, .ok hv hf hs hp⟩
      simp only [Iso, hr]
      rfl
    have w1 : wr .i64 (t.tm - 1) = ((t.T - 1 : Nat) : Int) := by rw [wr64 (by omega) (by omega)]; omega
    have w2 : wr .i64 (t.ch - 1) = ((t.C - 1 : Nat) : Int) := by rw [wr64 (by omega) (by omega)]; omega
    refine R_of (f := 67) (fun r h' => ∃ a b e, r = .tup [.agg [I a, I b], I e] ∧ AskP t (a, b, e)) (es _ _ _ _) e67 ?_
    simp only [f67]
    simp (disch := first | assumption | omega | (simp only [az]; done)) only [ru, eq_self, if_true, if_false, BEq.rfl, binI, AO.row?, splice, fillL, mmAll, loadV, storeV, zeros, Am.rowAt, Am.part, addOff, Nat.reduceAdd, Nat.reduceMul, Nat.reduceLeDiff, Nat.reduceSub, Nat.reduceLT, Int.reduceEq, Int.reduceLT, Int.reduceLE, Int.reduceGT, Int.reduceGE, Int.reduceAdd, Int.reduceSub, Int.reduceMul, Int.reduceNeg, Int.reduceToNat, reduceCtorEq, reduceIte, lenV_sl H.o, lenV_sl H.w, elem_sl Ls.el H.o, elem_sl Wd.el H.w, view_sl H.o, view_sl H.w, scalar_sl H.o, scalar_sl H.w, cells_sl H.o, cells_sl H.w, pure_sl H.o, pure_sl H.w, Int.toNat_natCast, c92]
    refine G_loop_ind (fun q ts hh mk => ∃ (i : Nat) (ba bb ls : Int) (J : List AO), i ≤ t.T ∧ q = t.T - i ∧ ts.length = 65 ∧ ts.getD 1 .undef = .ptr 0 0 ∧ ts.getD 2 .undef = .ptr 1 0 ∧ ts.getD 5 .undef = .ptr 2 0 ∧ ts.getD 6 .undef = I ls ∧ ts.getD 7 .undef = I i ∧
      hh = .cells [I t.ch, I t.tm, o, w] false :: .cells [I 0, I 0] false :: .cells [I ba, I bb] false :: J ∧ mk = [] ∧ AskS t i 0 ba bb ls ∧ (0 < d ∨ ls = -1)) ?_ _ _ _ _
      ⟨0, 0, 0, -1, [], Nat.zero_le _, rfl, rfl, rfl, rfl, rfl, rfl, rfl, rfl, rfl, AskS.start, .inr rfl⟩
    rintro q ts hh mk ih ⟨i, ba, bb, ls, J, hi, rfl, hl, q1, q2, q5, q6, q7, rfl, rfl, S, hd1⟩
    rw [lit_all hl]
    simp only [lit0, litS, Nat.reduceAdd, q1, q2, q5, q6, q7]
    simp (disch := first | assumption | omega | (simp only [az]; done)) only [ru, eq_self, if_true, if_false, BEq.rfl, binI, AO.row?, splice, fillL, mmAll, loadV, storeV, zeros, Am.rowAt, Am.part, addOff, Nat.reduceAdd, Nat.reduceMul, Nat.reduceLeDiff, Nat.reduceSub, Nat.reduceLT, Int.reduceEq, Int.reduceLT, Int.reduceLE, Int.reduceGT, Int.reduceGE, Int.reduceAdd, Int.reduceSub, Int.reduceMul, Int.reduceNeg, Int.reduceToNat, reduceCtorEq, reduceIte]
    by_cases hlt : (i : Int) < t.tm
    case neg =>
      have hi3 : i = t.T := by omega
      subst hi3
      by_cases g : ls < 0
      · simp (disch := first | assumption | omega | (simp only [az]; done)) only [ru, eq_self, if_true, if_false, BEq.rfl, binI, AO.row?, splice, fillL, mmAll, loadV, storeV, zeros, Am.rowAt, Am.part, addOff, Nat.reduceAdd, Nat.reduceMul, Nat.reduceLeDiff, Nat.reduceSub, Nat.reduceLT, Int.reduceEq, Int.reduceLT, Int.reduceLE, Int.reduceGT, Int.reduceGE, Int.reduceAdd, Int.reduceSub, Int.reduceMul, Int.reduceNeg, Int.reduceToNat, reduceCtorEq, reduceIte, hlt, g, gUn]
        rw [finCT]
        exact ⟨_, rfl, _, _, _, rfl, S.none g⟩
      · simp (disch := first | assumption | omega | (simp only [az]; done)) only [ru, eq_self, if_true, if_false, BEq.rfl, binI, AO.row?, splice, fillL, mmAll, loadV, storeV, zeros, Am.rowAt, Am.part, addOff, Nat.reduceAdd, Nat.reduceMul, Nat.reduceLeDiff, Nat.reduceSub, Nat.reduceLT, Int.reduceEq, Int.reduceLT, Int.reduceLE, Int.reduceGT, Int.reduceGE, Int.reduceAdd, Int.reduceSub, Int.reduceMul, Int.reduceNeg, Int.reduceToNat, reduceCtorEq, reduceIte, hlt, g, gUn]
        rw [finCT]
        exact ⟨_, rfl, _, _, _, rfl, S.done g D (by omega)⟩
    by_cases hd : d > 0
    case neg =>
      have e : ls = -1 := by omega
      have g : ls < 0 := by omega
      have e0 : d = 0 := by omega
      simp (disch := first | assumption | omega | (simp only [az]; done)) only [ru, eq_self, if_true, if_false, BEq.rfl, binI, AO.row?, splice, fillL, mmAll, loadV, storeV, zeros, Am.rowAt, Am.part, addOff, Nat.reduceAdd, Nat.reduceMul, Nat.reduceLeDiff, Nat.reduceSub, Nat.reduceLT, Int.reduceEq, Int.reduceLT, Int.reduceLE, Int.reduceGT, Int.reduceGE, Int.reduceAdd, Int.reduceSub, Int.reduceMul, Int.reduceNeg, Int.reduceToNat, reduceCtorEq, reduceIte, lenV_sl H.o, lenV_sl H.w, elem_sl Ls.el H.o, elem_sl Wd.el H.w, view_sl H.o, view_sl H.w, scalar_sl H.o, scalar_sl H.w, cells_sl H.o, cells_sl H.w, pure_sl H.o, pure_sl H.w, Int.toNat_natCast, hlt, c96, hd, g, gUn]
      rw [finCT]
      exact ⟨_, rfl, _, _, _, rfl, .inl ⟨rfl, .inl (e0 ▸ D)⟩⟩
    have hi2 : i < t.T := by omega
    simp (disch := first | assumption | omega | (simp only [az]; done)) only [ru, eq_self, if_true, if_false, BEq.rfl, binI, AO.row?, splice, fillL, mmAll, loadV, storeV, zeros, Am.rowAt, Am.part, addOff, Nat.reduceAdd, Nat.reduceMul, Nat.reduceLeDiff, Nat.reduceSub, Nat.reduceLT, Int.reduceEq, Int.reduceLT, Int.reduceLE, Int.reduceGT, Int.reduceGE, Int.reduceAdd, Int.reduceSub, Int.reduceMul, Int.reduceNeg, Int.reduceToNat, reduceCtorEq, reduceIte, lenV_sl H.o, lenV_sl H.w, elem_sl Ls.el H.o, elem_sl Wd.el H.w, view_sl H.o, view_sl H.w, scalar_sl H.o, scalar_sl H.w, cells_sl H.o, cells_sl H.w, pure_sl H.o, pure_sl H.w, Int.toNat_natCast, hlt, c96, hd, gUn]
    clear hl q1 q2 q5 q6 q7
    refine G_loop_ind (fun q ts hh mk => ∃ (c : Nat) (ba bb ls : Int) (J : List AO), c ≤ t.C ∧ q = t.C - c ∧ ts.length = 65 ∧ ts.getD 1 .undef = .ptr 0 0 ∧ ts.getD 2 .undef = .ptr 1 0 ∧ ts.getD 5 .undef = .ptr 2 0 ∧ ts.getD 6 .undef = I ls ∧ ts.getD 7 .undef = I i ∧ ts.getD 8 .undef = I c ∧
      hh = .cells [I t.ch, I t.tm, o, w] false :: .cells [I 0, I 0] false :: .cells [I ba, I bb] false :: J ∧ mk = [] ∧ AskS t i c ba bb ls) ?_ _ _ _ _
      ⟨0, ba, bb, ls, J, Nat.zero_le _, rfl, rfl, rfl, rfl, rfl, rfl, rfl, rfl, rfl, rfl, S⟩
    clear S hd1
    rintro q ts hh mk ihC ⟨c, ba, bb, ls, J, hc, rfl, hl, q1, q2, q5, q6, q7, q8, rfl, rfl, S⟩
    rw [lit_all hl]
    simp only [lit0, litS, Nat.reduceAdd, q1, q2, q5, q6, q7, q8]
    simp (disch := first | assumption | omega | (simp only [az]; done)) only [ru, eq_self, if_true, if_false, BEq.rfl, binI, AO.row?, splice, fillL, mmAll, loadV, storeV, zeros, Am.rowAt, Am.part, addOff, Nat.reduceAdd, Nat.reduceMul, Nat.reduceLeDiff, Nat.reduceSub, Nat.reduceLT, Int.reduceEq, Int.reduceLT, Int.reduceLE, Int.reduceGT, Int.reduceGE, Int.reduceAdd, Int.reduceSub, Int.reduceMul, Int.reduceNeg, Int.reduceToNat, reduceCtorEq, reduceIte]
    by_cases hlc : (c : Int) < t.ch
    case neg =>
      have hc3 : c = t.C := by omega
      subst hc3
      simp (disch := first | assumption | omega | (simp only [az]; done)) only [ru, eq_self, if_true, if_false, BEq.rfl, binI, AO.row?, splice, fillL, mmAll, loadV, storeV, zeros, Am.rowAt, Am.part, addOff, Nat.reduceAdd, Nat.reduceMul, Nat.reduceLeDiff, Nat.reduceSub, Nat.reduceLT, Int.reduceEq, Int.reduceLT, Int.reduceLE, Int.reduceGT, Int.reduceGE, Int.reduceAdd, Int.reduceSub, Int.reduceMul, Int.reduceNeg, Int.reduceToNat, reduceCtorEq, reduceIte, hlc]
      exact ih (t.T - (i + 1)) _ _ _ (by omega) ⟨i + 1, ba, bb, ls, _, by omega, rfl, rfl, rfl, rfl, rfl, rfl, rfl, rfl, rfl, S.row, .inl hd⟩
    have hc2 : c < t.C := by omega
    by_cases hlast : i = t.T - 1 ∧ c = t.C - 1
    · have l1 : ((i : Int) == ((t.T - 1 : Nat) : Int)) = true := by simp; omega
      have l2 : ((c : Int) == ((t.C - 1 : Nat) : Int)) = true := by simp; omega
      simp (disch := first | assumption | omega | (simp only [az]; done)) only [ru, eq_self, if_true, if_false, BEq.rfl, binI, AO.row?, splice, fillL, mmAll, loadV, storeV, zeros, Am.rowAt, Am.part, addOff, Nat.reduceAdd, Nat.reduceMul, Nat.reduceLeDiff, Nat.reduceSub, Nat.reduceLT, Int.reduceEq, Int.reduceLT, Int.reduceLE, Int.reduceGT, Int.reduceGE, Int.reduceAdd, Int.reduceSub, Int.reduceMul, Int.reduceNeg, Int.reduceToNat, reduceCtorEq, reduceIte, hlc, w1, w2, l1, l2, gUn, List.append_assoc, List.cons_append, lenE, setT, setT0, atT, atT0, getT, getT0, Nat.add_assoc]
      exact ihC (t.C - (c + 1)) _ _ _ (by omega) ⟨c + 1, ba, bb, ls, _, by omega, rfl, rfl, rfl, rfl, rfl, rfl, rfl, rfl, rfl, rfl, S.skip fun o => o.2.2 hlast⟩
    have ho : oth t i c := ⟨hi2, hc2, hlast⟩
    refine (s95 H V (valid_w8 hv) hs hi2 hc2).elim fun m h => ?_
    have c95 := h.1
    have hp := h.2
    clear h
    simp only [trV] at c95
    by_cases l1 : (i : Int) = ((t.T - 1 : Nat) : Int)
    · have l1' : ((i : Int) == ((t.T - 1 : Nat) : Int)) = true := by simpa using l1
      have l2' : ((c : Int) == ((t.C - 1 : Nat) : Int)) = false := by simp; omega
      by_cases g1 : ls < 0
      · simp (disch := first | assumption | omega | (simp only [az]; done)) only [ru, eq_self, if_true, if_false, BEq.rfl, binI, AO.row?, splice, fillL, mmAll, loadV, storeV, zeros, Am.rowAt, Am.part, addOff, Nat.reduceAdd, Nat.reduceMul, Nat.reduceLeDiff, Nat.reduceSub, Nat.reduceLT, Int.reduceEq, Int.reduceLT, Int.reduceLE, Int.reduceGT, Int.reduceGE, Int.reduceAdd, Int.reduceSub, Int.reduceMul, Int.reduceNeg, Int.reduceToNat, reduceCtorEq, reduceIte, lenV_sl H.o, lenV_sl H.w, elem_sl Ls.el H.o, elem_sl Wd.el H.w, view_sl H.o, view_sl H.w, scalar_sl H.o, scalar_sl H.w, cells_sl H.o, cells_sl H.w, pure_sl H.o, pure_sl H.w, Int.toNat_natCast, hlc, w1, w2, l1', l2', c95, g1, gUn, List.append_assoc, List.cons_append, lenE, setT, setT0, atT, atT0, getT, getT0, Nat.add_assoc]
        exact ihC (t.C - (c + 1)) _ _ _ (by omega) ⟨c + 1, _, _, _, _, by omega, rfl, rfl, rfl, rfl, rfl, rfl, rfl, rfl, rfl, rfl, S.take ho hp (.inl g1)⟩
      · by_cases g2 : m < ls
        · simp (disch := first | assumption | omega | (simp only [az]; done)) only [ru, eq_self, if_true, if_false, BEq.rfl, binI, AO.row?, splice, fillL, mmAll, loadV, storeV, zeros, Am.rowAt, Am.part, addOff, Nat.reduceAdd, Nat.reduceMul, Nat.reduceLeDiff, Nat.reduceSub, Nat.reduceLT, Int.reduceEq, Int.reduceLT, Int.reduceLE, Int.reduceGT, Int.reduceGE, Int.reduceAdd, Int.reduceSub, Int.reduceMul, Int.reduceNeg, Int.reduceToNat, reduceCtorEq, reduceIte, lenV_sl H.o, lenV_sl H.w, elem_sl Ls.el H.o, elem_sl Wd.el H.w, view_sl H.o, view_sl H.w, scalar_sl H.o, scalar_sl H.w, cells_sl H.o, cells_sl H.w, pure_sl H.o, pure_sl H.w, Int.toNat_natCast, hlc, w1, w2, l1', l2', c95, g1, g2, gUn, List.append_assoc, List.cons_append, lenE, setT, setT0, atT, atT0, getT, getT0, Nat.add_assoc]
          exact ihC (t.C - (c + 1)) _ _ _ (by omega) ⟨c + 1, _, _, _, _, by omega, rfl, rfl, rfl, rfl, rfl, rfl, rfl, rfl, rfl, rfl, S.take ho hp (.inr g2)⟩
        · simp (disch := first | assumption | omega | (simp only [az]; done)) only [ru, eq_self, if_true, if_false, BEq.rfl, binI, AO.row?, splice, fillL, mmAll, loadV, storeV, zeros, Am.rowAt, Am.part, addOff, Nat.reduceAdd, Nat.reduceMul, Nat.reduceLeDiff, Nat.reduceSub, Nat.reduceLT, Int.reduceEq, Int.reduceLT, Int.reduceLE, Int.reduceGT, Int.reduceGE, Int.reduceAdd, Int.reduceSub, Int.reduceMul, Int.reduceNeg, Int.reduceToNat, reduceCtorEq, reduceIte, lenV_sl H.o, lenV_sl H.w, elem_sl Ls.el H.o, elem_sl Wd.el H.w, view_sl H.o, view_sl H.w, scalar_sl H.o, scalar_sl H.w, cells_sl H.o, cells_sl H.w, pure_sl H.o, pure_sl H.w, Int.toNat_natCast, hlc, w1, w2, l1', l2', c95, g1, g2, gUn, List.append_assoc, List.cons_append, lenE, setT, setT0, atT, atT0, getT, getT0, Nat.add_assoc]
          exact ihC (t.C - (c + 1)) _ _ _ (by omega) ⟨c + 1, _, _, _, _, by omega, rfl, rfl, rfl, rfl, rfl, rfl, rfl, rfl, rfl, rfl, S.keep hp g1 g2⟩
    · have l1' : ((i : Int) == ((t.T - 1 : Nat) : Int)) = false := by simpa using l1
      by_cases g1 : ls < 0
      · simp (disch := first | assumption | omega | (simp only [az]; done)) only [ru, eq_self, if_true, if_false, BEq.rfl, binI, AO.row?, splice, fillL, mmAll, loadV, storeV, zeros, Am.rowAt, Am.part, addOff, Nat.reduceAdd, Nat.reduceMul, Nat.reduceLeDiff, Nat.reduceSub, Nat.reduceLT, Int.reduceEq, Int.reduceLT, Int.reduceLE, Int.reduceGT, Int.reduceGE, Int.reduceAdd, Int.reduceSub, Int.reduceMul, Int.reduceNeg, Int.reduceToNat, reduceCtorEq, reduceIte, lenV_sl H.o, lenV_sl H.w, elem_sl Ls.el H.o, elem_sl Wd.el H.w, view_sl H.o, view_sl H.w, scalar_sl H.o, scalar_sl H.w, cells_sl H.o, cells_sl H.w, pure_sl H.o, pure_sl H.w, Int.toNat_natCast, hlc, w1, w2, l1', c95, g1, gUn, List.append_assoc, List.cons_append, lenE, setT, setT0, atT, atT0, getT, getT0, Nat.add_assoc]
        exact ihC (t.C - (c + 1)) _ _ _ (by omega) ⟨c + 1, _, _, _, _, by omega, rfl, rfl, rfl, rfl, rfl, rfl, rfl, rfl, rfl, rfl, S.take ho hp (.inl g1)⟩
      · by_cases g2 : m < ls
        · simp (disch := first | assumption | omega | (simp only [az]; done)) only [ru, eq_self, if_true, if_false, BEq.rfl, binI, AO.row?, splice, fillL, mmAll, loadV, storeV, zeros, Am.rowAt, Am.part, addOff, Nat.reduceAdd, Nat.reduceMul, Nat.reduceLeDiff, Nat.reduceSub, Nat.reduceLT, Int.reduceEq, Int.reduceLT, Int.reduceLE, Int.reduceGT, Int.reduceGE, Int.reduceAdd, Int.reduceSub, Int.reduceMul, Int.reduceNeg, Int.reduceToNat, reduceCtorEq, reduceIte, lenV_sl H.o, lenV_sl H.w, elem_sl Ls.el H.o, elem_sl Wd.el H.w, view_sl H.o, view_sl H.w, scalar_sl H.o, scalar_sl H.w, cells_sl H.o, cells_sl H.w, pure_sl H.o, pure_sl H.w, Int.toNat_natCast, hlc, w1, w2, l1', c95, g1, g2, gUn, List.append_assoc, List.cons_append, lenE, setT, setT0, atT, atT0, getT, getT0, Nat.add_assoc]
          exact ihC (t.C - (c + 1)) _ _ _ (by omega) ⟨c + 1, _, _, _, _, by omega, rfl, rfl, rfl, rfl, rfl, rfl, rfl, rfl, rfl, rfl, S.take ho hp (.inr g2)⟩
        · simp (disch := first | assumption | omega | (simp only [az]; done)) only [ru, eq_self, if_true, if_false, BEq.rfl, binI, AO.row?, splice, fillL, mmAll, loadV, storeV, zeros, Am.rowAt, Am.part, addOff, Nat.reduceAdd, Nat.reduceMul, Nat.reduceLeDiff, Nat.reduceSub, Nat.reduceLT, Int.reduceEq, Int.reduceLT, Int.reduceLE, Int.reduceGT, Int.reduceGE, Int.reduceAdd, Int.reduceSub, Int.reduceMul, Int.reduceNeg, Int.reduceToNat, reduceCtorEq, reduceIte, lenV_sl H.o, lenV_sl H.w, elem_sl Ls.el H.o, elem_sl Wd.el H.w, view_sl H.o, view_sl H.w, scalar_sl H.o, scalar_sl H.w, cells_sl H.o, cells_sl H.w, pure_sl H.o, pure_sl H.w, Int.toNat_natCast, hlc, w1, w2, l1', c95, g1, g2, gUn, List.append_assoc, List.cons_append, lenE, setT, setT0, atT, atT0, getT, getT0, Nat.add_assoc]
          exact ihC (t.C - (c + 1)) _ _ _ (by omega) ⟨c + 1, _, _, _, _, by omega, rfl, rfl, rfl, rfl, rfl, rfl, rfl, rfl, rfl, rfl, S.keep hp g1 g2⟩
end Go.Proofs.Ytjaaefdhdggnkaa.S

/-
What the program answers: ask and Ask.
-/
namespace Go.Proofs.Ytjaaefdhdggnkaa.S
open Go Go.Am Go.Proofs.Ytjaaefdhdggnkaa.T
set_option maxRecDepth 100000
set_option linter.unusedSimpArgs false
set_option linter.unusedVariables false

/-- the state of the program's search for the best place: first it is the last one -/
def AskQ (t : Trap) (i c : Nat) (ba bb ls : Int) : Prop := ((ba = (t.T - 1 : Nat) ∧ bb = (t.C - 1 : Nat)) ∧ ∀ a b, oth t a b → ¬ befp i c a b) ∨ ∃ a b : Nat, ba = a ∧ bb = b ∧ AskB t i c a b ls
theorem AskQ.start {t : Trap} {ls : Int} : AskQ t 0 0 (t.T - 1 : Nat) (t.C - 1 : Nat) ls := .inl ⟨⟨rfl, rfl⟩, fun a b _ h => by unfold befp at h; omega⟩
theorem AskQ.row {t : Trap} {i : Nat} {ba bb ls : Int} (S : AskQ t i t.C ba bb ls) : AskQ t (i + 1) 0 ba bb ls := by
  rcases S with ⟨e, h⟩ | ⟨a, b, e1, e2, A⟩
  · refine .inl ⟨e, fun a b o hb => h a b o ?_⟩
    have := o.2.1
    unfold befp at *; omega
  · exact .inr ⟨a, b, e1, e2, A.row⟩
theorem AskQ.skip {t : Trap} {i c : Nat} {ba bb ls : Int} (S : AskQ t i c ba bb ls) (ho : ¬ oth t i c) : AskQ t i (c + 1) ba bb ls := by
  rcases S with ⟨e, h⟩ | ⟨a, b, e1, e2, A⟩
  · refine .inl ⟨e, fun a b o hb => ?_⟩
    by_cases e : a = i ∧ b = c
    · obtain ⟨rfl, rfl⟩ := e; exact ho o
    · exact h a b o (by unfold befp at *; omega)
  · exact .inr ⟨a, b, e1, e2, A.skip ho⟩
theorem AskQ.take {t : Trap} {i c : Nat} {ba bb ls d : Int} (S : AskQ t i c ba bb ls) (ho : oth t i c) (hp : TellP t i c d) (h : (ba = (t.T - 1 : Nat) ∧ bb = (t.C - 1 : Nat)) ∨ d < ls) : AskQ t i (c + 1) i c d := by
  refine .inr ⟨i, c, rfl, rfl, ?_⟩
  rcases S with ⟨e, hn⟩ | ⟨a, b, e1, e2, A⟩
  · exact AskB.first hn ho hp
  · refine A.less ho hp ?_
    rcases h with h | h
    · have := A.fo.2.2; omega
    · exact h
theorem AskQ.keep {t : Trap} {i c : Nat} {ba bb ls d : Int} (S : AskQ t i c ba bb ls) (hp : TellP t i c d) (h : ¬ (ba = (t.T - 1 : Nat) ∧ bb = (t.C - 1 : Nat))) (h2 : ¬ d < ls) : AskQ t i (c + 1) ba bb ls := by
  rcases S with ⟨e, hn⟩ | ⟨a, b, e1, e2, A⟩
  · exact absurd e h
  · exact .inr ⟨a, b, e1, e2, A.more hp h2⟩
theorem AskQ.none {t : Trap} {ba bb ls : Int} (S : AskQ t t.T 0 ba bb ls) (h : ba = (t.T - 1 : Nat) ∧ bb = (t.C - 1 : Nat)) : AskP t (0, 0, 3) := by
  rcases S with ⟨e, hn⟩ | ⟨a, b, e1, e2, A⟩
  · refine .inl ⟨rfl, .inr fun i c o => hn i c o ?_⟩
    have := o.1
    unfold befp; omega
  · have := A.fo.2.2; omega
theorem AskQ.done {t : Trap} {ba bb ls d : Int} (S : AskQ t t.T 0 ba bb ls) (h : ¬ (ba = (t.T - 1 : Nat) ∧ bb = (t.C - 1 : Nat))) (D : DbtP t d) (hd : 0 < d) : AskP t (ba, bb, 0) := by
  rcases S with ⟨e, hn⟩ | ⟨a, b, e1, e2, A⟩
  · exact absurd e h
  · exact .inr ⟨⟨d, D, hd⟩, a, b, ls, by rw [e1, e2], A⟩

def As88 : ACode := .region 0 [⟨(some 6), .alloc [.int .i64 0, .int .i64 0], none, none, []⟩,
      ⟨none, .store 2 (.t 6) (.t 17), none, none, []⟩]
def Bd88 : ACode := .block 1 (.seq (.seq (.region 0 [⟨(some 18), .load true 2 (.t 6), none, none, []⟩,
         ⟨(some 19), .load false 1 (.t 1), none, none, []⟩,
         ⟨(some 20), .call 3 103 [(.t 19)], none, none, []⟩,
         ⟨(some 21), .p (.eqS false [true, true] (.t 18) (.t 20)), none, none, []⟩])
      (.cond (.t 21) (.exit 1)
       (.skip)))
     (.seq (.region 0 [⟨(some 22), .load false 1 (.t 1), none, none, []⟩,
        ⟨(some 23), .load true 2 (.t 6), none, none, []⟩,
        ⟨(some 24), .call 3 87 [(.t 22), (.t 23)], none, none, []⟩,
        ⟨(some 7), .p (.move (.t 24)), none, none, []⟩])
     (.seq (.region 0 [⟨(some 25), .load true 2 (.t 4), none, none, []⟩,
        ⟨(some 26), .load false 1 (.t 1), none, none, []⟩,
        ⟨(some 27), .call 3 103 [(.t 26)], none, none, []⟩,
        ⟨(some 28), .p (.eqS false [true, true] (.t 25) (.t 27)), none, none, []⟩,
        ⟨(some 29), .p (.move (.t 28)), none, none, []⟩,
        ⟨(some 30), .p (.move (.t 7)), (some (29, false)), none, []⟩,
        ⟨(some 31), .load false 1 (.t 5), (some (29, false)), none, []⟩,
        ⟨(some 32), .p (.bin .lss (.t 30) (.t 31)), (some (29, false)), none, []⟩,
        ⟨(some 33), .p (.pick (.t 29) (.c (.bool true)) (.t 32)), none, none, []⟩])
     (.cond (.t 33) (.region 0 [⟨(some 34), .load true 2 (.t 6), none, none, []⟩,
        ⟨(some 35), .p (.move (.t 7)), none, none, []⟩,
        ⟨none, .store 2 (.t 4) (.t 34), none, none, []⟩,
        ⟨none, .store 1 (.t 5) (.t 35), none, none, []⟩])
      (.skip)))))

/-- the heap of a search: what is old, the trap, the result, the best place, its doubt, the mark -/
structure AskH (h : List AO) (k : Nat) (hk : List AO) (ba bb ls : Int) : Prop where
  l : h.length + 6 ≤ hk.length
  f : ∀ o, o < h.length → hk[o]? = h[o]?
  a : hk[h.length]? = some (.cells [.ptr k 0] false)
  b : hk[h.length + 1]? = some (.cells [I 0, I 0] false)
  c : hk[h.length + 2]? = some (.cells [I ba, I bb] false)
  d : hk[h.length + 3]? = some (.cells [I ls] false)
  e : hk[h.length + 4]? = some .dfr
theorem AskH.fr {h hk hh : List AO} {k : Nat} {ba bb ls : Int} (A : AskH h k hk ba bb ls) (hl : hk.length ≤ hh.length) (hf : ∀ o, o < hk.length → o ≠ h.length + 5 → hh[o]? = hk[o]?) : AskH h k hh ba bb ls := by
  have l := A.l
  exact ⟨by omega, fun o ho => (hf o (by omega) (by omega)).trans (A.f o ho), (hf _ (by omega) (by omega)).trans A.a, (hf _ (by omega) (by omega)).trans A.b, (hf _ (by omega) (by omega)).trans A.c, (hf _ (by omega) (by omega)).trans A.d, (hf _ (by omega) (by omega)).trans A.e⟩

set_option maxHeartbeats 4000000 in
theorem s88 {t : Trap} {o w : AV} {h : List AO} {k : Nat} {B : List Int} (H : TrOk t o w) (V : TrB t) (h8 : t.ws.length ≤ 8) (hk : h[k]? = some (.cells (wc t.C t.T o w B) false)) (hB : Ok B) (hs : Says t.C t.T t B) :
    ∃ a b e, Ro E 88 [.ptr k 0] h = some (.tup [.agg [I a, I b], I e]) ∧ AskP t (a, b, e) := by
  have v1 := V.c0; have v2 := V.c1; have v3 := V.t0; have v4 := V.t1
  have eC := trC V; have eT := trT V
  have kl := (List.getElem?_eq_some_iff.1 hk).1
  have hk' := hk
  obtain ⟨d, c102, D⟩ := s102 V hk hB hs
  have d0 := D.nn
  have c103 := fun (g : List AO) (hg : ∀ o, o < h.length → g[o]? = h[o]?) (J : List AO) => s103 (h := g) (k := k) (B := B) (o := o) (w := w) (C := t.C) (T := t.T) (by rw [hg k kl]; exact hk) (by omega) (by omega) J
  suffices hR : ∃ r h', R E (.fn 88) [.ptr k 0] h h.length = some (r, h') ∧ ∃ a b e, r = .tup [.agg [I a, I b], I e] ∧ AskP t (a, b, e) by
    obtain ⟨r, h', hr, a, b, e, rfl, hp⟩ := hR
    exact ⟨a, b, e, by simp only [Ro, hr]; rfl, hp⟩
  have c103h := c103 h fun _ _ => rfl
  refine R_of (f := 88) (fun r h' => ∃ a b e, r = .tup [.agg [I a, I b], I e] ∧ AskP t (a, b, e)) (es _ _ _ _) e88 ?_
  simp only [f88]
  by_cases hd : d = 0
  · have hd' : (d == 0) = true := by simpa using hd
    simp (disch := first | assumption | omega | (simp only [az]; done)) only [ru, eq_self, if_true, if_false, BEq.rfl, binI, AO.row?, splice, fillL, mmAll, loadV, storeV, zeros, Am.rowAt, Am.part, addOff, Nat.reduceAdd, Nat.reduceMul, Nat.reduceLeDiff, Nat.reduceSub, Nat.reduceLT, Int.reduceEq, Int.reduceLT, Int.reduceLE, Int.reduceGT, Int.reduceGE, Int.reduceAdd, Int.reduceSub, Int.reduceMul, Int.reduceNeg, Int.reduceToNat, reduceCtorEq, reduceIte, List.append_assoc, List.cons_append, List.nil_append, lenE, setT, setT0, atT, atT0, getT, getT0, Nat.add_assoc, unhN, unhC, hide, List.foldl_cons, List.foldl_nil, c103h, c102, hd', Nat.le_refl, Nat.le_add_right]
    rw [finCT]
    exact ⟨.agg [I 0, I 0], by simp (disch := first | assumption | omega | (simp only [az]; done)) only [ru, eq_self, if_true, if_false, BEq.rfl, binI, AO.row?, splice, fillL, mmAll, loadV, storeV, zeros, Am.rowAt, Am.part, addOff, Nat.reduceAdd, Nat.reduceMul, Nat.reduceLeDiff, Nat.reduceSub, Nat.reduceLT, Int.reduceEq, Int.reduceLT, Int.reduceLE, Int.reduceGT, Int.reduceGE, Int.reduceAdd, Int.reduceSub, Int.reduceMul, Int.reduceNeg, Int.reduceToNat, reduceCtorEq, reduceIte, getRes, atT], _, _, _, rfl, .inl ⟨rfl, .inl (hd ▸ D)⟩⟩
  have hd' : (d == 0) = false := by simpa using hd
  simp (disch := first | assumption | omega | (simp only [az]; done)) only [ru, eq_self, if_true, if_false, BEq.rfl, binI, AO.row?, splice, fillL, mmAll, loadV, storeV, zeros, Am.rowAt, Am.part, addOff, Nat.reduceAdd, Nat.reduceMul, Nat.reduceLeDiff, Nat.reduceSub, Nat.reduceLT, Int.reduceEq, Int.reduceLT, Int.reduceLE, Int.reduceGT, Int.reduceGE, Int.reduceAdd, Int.reduceSub, Int.reduceMul, Int.reduceNeg, Int.reduceToNat, reduceCtorEq, reduceIte, List.append_assoc, List.cons_append, List.nil_append, lenE, setT, setT0, atT, atT0, getT, getT0, Nat.add_assoc, unhN, unhC, hide, List.foldl_cons, List.foldl_nil, c103h, c102, hd', Nat.le_refl, Nat.le_add_right]
  have w103 : ∀ hk ba bb ls, AskH h k hk ba bb ls → Ro E 103 [.ptr k 0] hk = some (.agg [I (t.T - 1 : Nat), I (t.C - 1 : Nat)]) := fun hk ba bb ls A => by
    have := c103 hk A.f []
    rwa [List.append_nil] at this
  have wk : ∀ hk ba bb ls, AskH h k hk ba bb ls → hk[k]? = some (.cells (wc t.C t.T o w B) false) := fun hk ba bb ls A => (A.f k kl).trans hk'
  obtain ⟨TS, hTS⟩ : ∃ TS : List AV, TS = [.ptr k 0, .ptr h.length 0, .ptr (h.length + 1) 0, I 0, .ptr (h.length + 2) 0, .ptr (h.length + 3) 0, .undef, .undef, .ptr k 0, .agg [I (t.T - 1 : Nat), I (t.C - 1 : Nat)], .ptr k 0, I d, I d, Bo false, .undef, .ptr k 0, .fn 104 [.ptr k 0] [], .undef, .undef, .undef, .undef, .undef, .undef, .undef, .undef, .undef, .undef, .undef, .undef, .undef, .undef, .undef, .undef, .undef, .undef, .undef, .undef, .undef, .undef, .undef, .undef, .undef] := ⟨_, rfl⟩
  obtain ⟨H0, hH0⟩ : ∃ H0 : List AO, H0 = h ++ [.cells [.ptr k 0] false, .cells [I 0, I 0] false, .cells [I (t.T - 1 : Nat), I (t.C - 1 : Nat)] false, .cells [I d] false] := ⟨_, rfl⟩
  have lH0 : H0.length = h.length + 4 := by rw [hH0]; simp
  obtain ⟨H1, hH1⟩ : ∃ H1 : List AO, H1 = H0 ++ [.dfr, .loop .ready none 88 TS [17] As88 Bd88 (h.length + 4)] := ⟨_, rfl⟩
  have lH1 : H1.length = h.length + 6 := by rw [hH1]; simp [lH0]
  have f5 : H1[h.length + 5]? = some (.loop .ready none 88 TS [17] As88 Bd88 (h.length + 4)) := by rw [hH1, show h.length + 5 = H0.length + 1 by omega, atT]; rfl
  have A1 : AskH h k H1 (t.T - 1 : Nat) (t.C - 1 : Nat) d := by
    refine ⟨by omega, fun o ho => by rw [hH1, at_ap (by omega), hH0, at_ap ho], ?_, ?_, ?_, ?_, ?_⟩
    · rw [hH1, at_ap (by omega), hH0, atT0]; rfl
    · rw [hH1, at_ap (by omega), hH0, atT]; rfl
    · rw [hH1, at_ap (by omega), hH0, atT]; rfl
    · rw [hH1, at_ap (by omega), hH0, atT]; rfl
    · rw [hH1, ← lH0, atT0]; rfl
  have key := r104 (T := t.T) (C := t.C) (w := k) (o := h.length + 5) (lim := h.length) (by omega) (by omega)
    (P := fun i j hk => ∃ ba bb ls, AskH h k hk ba bb ls ∧ hk[h.length + 5]? = some (.loop .ready none 88 TS [17] As88 Bd88 (h.length + 4)) ∧ AskQ t i j ba bb ls)
    (D := fun _ => False) (h := H1) ?_ ?_ ?_ ?_
  · refine G_range_of rfl rfl ?_
    rw [← hTS]
    simp only [← hH0, lH0]
    obtain ⟨r, h3, hr, hpd⟩ := key
    rw [hH1] at hr
    rcases hpd with ⟨ba, bb, ls, A, g5, Q⟩ | hf
    · refine ⟨r, h3, .ready, none, 88, TS, [17], As88, Bd88, h.length + 4, hr, g5, .inl rfl, ?_⟩
      simp only [Option.getD_none, GE_nrm]
      obtain ⟨h4, hh4⟩ : ∃ h4, h4 = h3.set (h.length + 4 + 1) (AO.loop .exhausted none 88 TS [17] As88 Bd88 (h.length + 4)) := ⟨_, rfl⟩
      rw [← hh4]
      have l3 := A.l
      have A4 : AskH h k h4 ba bb ls := A.fr (by rw [hh4]; simp) fun o ho hn => by rw [hh4, List.getElem?_set_ne (by omega)]
      have k103 := w103 h4 _ _ _ A4
      have l4 := A4.l
      have ka := A4.a; have kb := A4.b; have kc := A4.c; have ke := A4.e
      have ll : h.length ≤ h.length + 1 := by omega
      obtain ⟨q, hq⟩ : ∃ q, q = (decide (ba = (t.T - 1 : Nat)) && decide (bb = (t.C - 1 : Nat))) := ⟨_, rfl⟩
      have fin : ∀ (a b e : Int) (ts : List AV), ts.getD 2 .undef = .ptr (h.length + 1) 0 → ts.getD 3 .undef = I e → AskP t (a, b, e) →
          Done h.length [.cell true 2 2, .tmp 3] (fun r h' => ∃ a b e, r = .tup [.agg [I a, I b], I e] ∧ AskP t (a, b, e)) .ret ⟨ts, h4.set (h.length + 1) (.cells [I a, I b] false), [h.length + 4]⟩ := by
        intro a b e ts t2 t3 hp
        have k2 : (h4.set (h.length + 1) (.cells [I a, I b] false))[h.length + 4]? = some .dfr := by rw [List.getElem?_set_ne (by omega)]; exact ke
        have k3 : ((h4.set (h.length + 1) (.cells [I a, I b] false)).set (h.length + 4) .tomb)[h.length + 1]? = some (.cells [I a, I b] false) := by rw [List.getElem?_set_ne (by omega), List.getElem?_set_self (by omega)]
        refine finM (h' := (h4.set (h.length + 1) (.cells [I a, I b] false)).set (h.length + 4) .tomb) (vs := [.agg [I a, I b], I e]) (.inr rfl) (by simp) ?_ ?_ ?_
        · simp only [takeMarks, k2]
        · simp (disch := first | assumption | omega | (simp only [az]; done)) only [ru, eq_self, if_true, if_false, BEq.rfl, binI, AO.row?, splice, fillL, mmAll, loadV, storeV, zeros, Am.rowAt, Am.part, addOff, Nat.reduceAdd, Nat.reduceMul, Nat.reduceLeDiff, Nat.reduceSub, Nat.reduceLT, Int.reduceEq, Int.reduceLT, Int.reduceLE, Int.reduceGT, Int.reduceGE, Int.reduceAdd, Int.reduceSub, Int.reduceMul, Int.reduceNeg, Int.reduceToNat, reduceCtorEq, reduceIte, List.mapM_cons, List.mapM_nil, getRes, t2, t3, k3, Option.bind_eq_bind, Option.pure_def, Option.bind_some]
        · exact ⟨a, b, e, rfl, hp⟩
      rw [hTS]
      cases q
      · simp (disch := first | assumption | omega | (simp only [az]; done)) only [ru, eq_self, if_true, if_false, BEq.rfl, binI, AO.row?, splice, fillL, mmAll, loadV, storeV, zeros, Am.rowAt, Am.part, addOff, Nat.reduceAdd, Nat.reduceMul, Nat.reduceLeDiff, Nat.reduceSub, Nat.reduceLT, Int.reduceEq, Int.reduceLT, Int.reduceLE, Int.reduceGT, Int.reduceGE, Int.reduceAdd, Int.reduceSub, Int.reduceMul, Int.reduceNeg, Int.reduceToNat, reduceCtorEq, reduceIte, ka, kb, kc, k103, pex_eqS, eqI2, ← hq, ll, List.drop_one, List.tail_cons]
        refine fin _ _ _ _ rfl rfl (Q.done ?_ D (by omega))
        intro h; rw [decide_eq_true h.1, decide_eq_true h.2] at hq; cases hq
      · simp (disch := first | assumption | omega | (simp only [az]; done)) only [ru, eq_self, if_true, if_false, BEq.rfl, binI, AO.row?, splice, fillL, mmAll, loadV, storeV, zeros, Am.rowAt, Am.part, addOff, Nat.reduceAdd, Nat.reduceMul, Nat.reduceLeDiff, Nat.reduceSub, Nat.reduceLT, Int.reduceEq, Int.reduceLT, Int.reduceLE, Int.reduceGT, Int.reduceGE, Int.reduceAdd, Int.reduceSub, Int.reduceMul, Int.reduceNeg, Int.reduceToNat, reduceCtorEq, reduceIte, ka, kb, kc, k103, pex_eqS, eqI2, ← hq, ll, List.drop_one, List.tail_cons]
        refine fin _ _ _ _ rfl rfl (Q.none ?_)
        have := hq.symm
        simpa using this
    · exact hf.elim
  · rintro i j hk ⟨ba, bb, ls, A, g5, Q⟩
    exact ⟨_, wk _ _ _ _ A, rfl, rfl⟩
  · rintro i j hk hi hj ⟨ba, bb, ls, A, g5, Q⟩
    have lk := A.l
    have llk : h.length ≤ hk.length := by omega
    have := R_rnd_of (E := E) (lim := h.length) (args := [.agg [I i, I j]]) (P := fun r h' => ∃ b : Bool, r = Bo b ∧ (if b then (∃ ba bb ls, AskH h k h' ba bb ls ∧ h'[h.length + 5]? = some (.loop .ready none 88 TS [17] As88 Bd88 (h.length + 4)) ∧ AskQ t i (j + 1) ba bb ls) else False)) g5 rfl (by omega) ?_
    · obtain ⟨r, h', hr, b, rfl, hb⟩ := this
      exact ⟨b, h', hr, hb⟩
    rw [hTS]
    simp only [setAll, List.set_cons_succ, List.set_cons_zero]
    rw [← hTS]
    unfold As88
    simp (disch := first | assumption | omega | (simp only [az]; done)) only [ru, eq_self, if_true, if_false, BEq.rfl, binI, AO.row?, splice, fillL, mmAll, loadV, storeV, zeros, Am.rowAt, Am.part, addOff, Nat.reduceAdd, Nat.reduceMul, Nat.reduceLeDiff, Nat.reduceSub, Nat.reduceLT, Int.reduceEq, Int.reduceLT, Int.reduceLE, Int.reduceGT, Int.reduceGE, Int.reduceAdd, Int.reduceSub, Int.reduceMul, Int.reduceNeg, Int.reduceToNat, reduceCtorEq, reduceIte, List.append_assoc, lenE, setT, setT0, atT, atT0, getT, getT0, Nat.add_assoc, llk]
    refine ⟨none, 88, TS, [17], As88, Bd88, h.length + 4, by rw [at_ap (by omega)]; exact g5, ?_⟩
    obtain ⟨h6, hh6⟩ : ∃ h6, h6 = (hk ++ [AO.cells [I i, I j] false]).set (h.length + 5) (AO.loop .busy none 88 TS [17] As88 Bd88 (h.length + 4)) := ⟨_, rfl⟩
    rw [← hh6]
    have l6 : h6.length = hk.length + 1 := by rw [hh6]; simp
    have A6 : AskH h k h6 ba bb ls := A.fr (by omega) fun o ho hn => by rw [hh6, List.getElem?_set_ne (by omega), at_ap ho]
    have n5 : h6[h.length + 5]? = some (AO.loop .busy none 88 TS [17] As88 Bd88 (h.length + 4)) := by rw [hh6, List.getElem?_set_self (by simp; omega)]
    have n6 : h6[hk.length]? = some (.cells [I i, I j] false) := by rw [hh6, List.getElem?_set_ne (by omega), atT0]; rfl
    have na := A6.a; have nc := A6.c; have nd := A6.d
    have k103 := w103 h6 _ _ _ A6
    obtain ⟨m, c87, hp⟩ := s87 H V h8 (wk _ _ _ _ A6) hB hs hi hj
    obtain ⟨q1, hq1⟩ : ∃ q, q = (decide ((i : Int) = (t.T - 1 : Nat)) && decide ((j : Int) = (t.C - 1 : Nat))) := ⟨_, rfl⟩
    obtain ⟨q2, hq2⟩ : ∃ q, q = (decide (ba = (t.T - 1 : Nat)) && decide (bb = (t.C - 1 : Nat))) := ⟨_, rfl⟩
    have ll2 : h.length ≤ h.length + 2 := by omega
    have ll3 : h.length ≤ h.length + 3 := by omega
    have er : (Ex.nrm == Ex.nrm) = true := rfl
    have keep : ∀ Q : AskQ t i (j + 1) ba bb ls, ∃ st pend2 fid2 ts2 ps2 as2 bd2 d2, h6[h.length + 5]? = some (.loop st pend2 fid2 ts2 ps2 as2 bd2 d2) ∧ ∃ b : Bool, Bo (Ex.nrm == Ex.nrm) = Bo b ∧ (if b then (∃ ba bb ls, AskH h k (h6.set (h.length + 5) (.loop (if Ex.nrm == Ex.nrm then .ready else .done) (if Ex.nrm == Ex.nrm then none else some Ex.nrm) fid2 ts2 ps2 as2 bd2 d2)) ba bb ls ∧ (h6.set (h.length + 5) (.loop (if Ex.nrm == Ex.nrm then .ready else .done) (if Ex.nrm == Ex.nrm then none else some Ex.nrm) fid2 ts2 ps2 as2 bd2 d2))[h.length + 5]? = some (.loop .ready none 88 TS [17] As88 Bd88 (h.length + 4)) ∧ AskQ t i (j + 1) ba bb ls) else False) := by
      intro Q
      refine ⟨.busy, none, 88, TS, [17], As88, Bd88, h.length + 4, n5, true, rfl, ?_⟩
      simp only [er, if_true]
      exact ⟨ba, bb, ls, A6.fr (by simp) fun o ho hn => by rw [List.getElem?_set_ne (by omega)], by rw [List.getElem?_set_self (by omega)], Q⟩
    unfold Bd88
    rw [hTS]
    cases q1
    case true =>
      have e1 := hq1.symm
      simp only [Bool.and_eq_true, decide_eq_true_eq] at e1
      simp (disch := first | assumption | omega | (simp only [az]; done)) only [ru, eq_self, if_true, if_false, BEq.rfl, binI, AO.row?, splice, fillL, mmAll, loadV, storeV, zeros, Am.rowAt, Am.part, addOff, Nat.reduceAdd, Nat.reduceMul, Nat.reduceLeDiff, Nat.reduceSub, Nat.reduceLT, Int.reduceEq, Int.reduceLT, Int.reduceLE, Int.reduceGT, Int.reduceGE, Int.reduceAdd, Int.reduceSub, Int.reduceMul, Int.reduceNeg, Int.reduceToNat, reduceCtorEq, reduceIte, na, nc, nd, n6, k103, pex_eqS, eqI2, ← hq1, List.drop_one, List.tail_cons]
      rw [← hTS]
      exact keep (Q.skip fun o => o.2.2 (by omega))
    have ho : oth t i j := ⟨hi, hj, fun h => by
      rw [decide_eq_true (by omega), decide_eq_true (by omega)] at hq1; cases hq1⟩
    have take : ∀ Q : AskQ t i (j + 1) i j m, ∃ st pend2 fid2 ts2 ps2 as2 bd2 d2, ((h6.set (h.length + 2) (.cells [I i, I j] false)).set (h.length + 3) (.cells [I m] false))[h.length + 5]? = some (.loop st pend2 fid2 ts2 ps2 as2 bd2 d2) ∧ ∃ b : Bool, Bo (Ex.nrm == Ex.nrm) = Bo b ∧ (if b then (∃ ba bb ls, AskH h k (((h6.set (h.length + 2) (.cells [I i, I j] false)).set (h.length + 3) (.cells [I m] false)).set (h.length + 5) (.loop (if Ex.nrm == Ex.nrm then .ready else .done) (if Ex.nrm == Ex.nrm then none else some Ex.nrm) fid2 ts2 ps2 as2 bd2 d2)) ba bb ls ∧ (((h6.set (h.length + 2) (.cells [I i, I j] false)).set (h.length + 3) (.cells [I m] false)).set (h.length + 5) (.loop (if Ex.nrm == Ex.nrm then .ready else .done) (if Ex.nrm == Ex.nrm then none else some Ex.nrm) fid2 ts2 ps2 as2 bd2 d2))[h.length + 5]? = some (.loop .ready none 88 TS [17] As88 Bd88 (h.length + 4)) ∧ AskQ t i (j + 1) ba bb ls) else False) := by
      intro Q
      refine ⟨.busy, none, 88, TS, [17], As88, Bd88, h.length + 4, by rw [List.getElem?_set_ne (by omega), List.getElem?_set_ne (by omega)]; exact n5, true, rfl, ?_⟩
      simp only [er, if_true]
      refine ⟨i, j, m, ⟨by simp; omega, fun o ho => ?_, ?_, ?_, ?_, ?_, ?_⟩, by rw [List.getElem?_set_self (by simp; omega)], Q⟩
      · rw [List.getElem?_set_ne (by omega), List.getElem?_set_ne (by omega), List.getElem?_set_ne (by omega)]; exact A6.f o ho
      · rw [List.getElem?_set_ne (by omega), List.getElem?_set_ne (by omega), List.getElem?_set_ne (by omega)]; exact A6.a
      · rw [List.getElem?_set_ne (by omega), List.getElem?_set_ne (by omega), List.getElem?_set_ne (by omega)]; exact A6.b
      · rw [List.getElem?_set_ne (by omega), List.getElem?_set_ne (by omega), List.getElem?_set_self (by omega)]
      · rw [List.getElem?_set_ne (by omega), List.getElem?_set_self (by simp; omega)]
      · rw [List.getElem?_set_ne (by omega), List.getElem?_set_ne (by omega), List.getElem?_set_ne (by omega)]; exact A6.e
    have nd2 : (h6.set (h.length + 2) (.cells [I i, I j] false))[h.length + 3]? = some (.cells [I ls] false) := by rw [List.getElem?_set_ne (by omega)]; exact nd
    cases q2
    case true =>
      have e2 := hq2.symm
      simp only [Bool.and_eq_true, decide_eq_true_eq] at e2
      simp (disch := first | assumption | omega | (simp only [az]; done)) only [ru, eq_self, if_true, if_false, BEq.rfl, binI, AO.row?, splice, fillL, mmAll, loadV, storeV, zeros, Am.rowAt, Am.part, addOff, Nat.reduceAdd, Nat.reduceMul, Nat.reduceLeDiff, Nat.reduceSub, Nat.reduceLT, Int.reduceEq, Int.reduceLT, Int.reduceLE, Int.reduceGT, Int.reduceGE, Int.reduceAdd, Int.reduceSub, Int.reduceMul, Int.reduceNeg, Int.reduceToNat, reduceCtorEq, reduceIte, na, nc, nd, nd2, n6, k103, c87, pex_eqS, eqI2, ← hq1, ← hq2, gUn, ll2, ll3, List.drop_one, List.tail_cons]
      rw [← hTS]
      exact take (Q.take ho hp (.inl e2))
    have ne2 : ¬ (ba = (t.T - 1 : Nat) ∧ bb = (t.C - 1 : Nat)) := fun h => by
      rw [decide_eq_true h.1, decide_eq_true h.2] at hq2; cases hq2
    by_cases g : m < ls
    · simp (disch := first | assumption | omega | (simp only [az]; done)) only [ru, eq_self, if_true, if_false, BEq.rfl, binI, AO.row?, splice, fillL, mmAll, loadV, storeV, zeros, Am.rowAt, Am.part, addOff, Nat.reduceAdd, Nat.reduceMul, Nat.reduceLeDiff, Nat.reduceSub, Nat.reduceLT, Int.reduceEq, Int.reduceLT, Int.reduceLE, Int.reduceGT, Int.reduceGE, Int.reduceAdd, Int.reduceSub, Int.reduceMul, Int.reduceNeg, Int.reduceToNat, reduceCtorEq, reduceIte, na, nc, nd, nd2, n6, k103, c87, pex_eqS, eqI2, ← hq1, ← hq2, g, gUn, ll2, ll3, List.drop_one, List.tail_cons]
      rw [← hTS]
      exact take (Q.take ho hp (.inr g))
    · simp (disch := first | assumption | omega | (simp only [az]; done)) only [ru, eq_self, if_true, if_false, BEq.rfl, binI, AO.row?, splice, fillL, mmAll, loadV, storeV, zeros, Am.rowAt, Am.part, addOff, Nat.reduceAdd, Nat.reduceMul, Nat.reduceLeDiff, Nat.reduceSub, Nat.reduceLT, Int.reduceEq, Int.reduceLT, Int.reduceLE, Int.reduceGT, Int.reduceGE, Int.reduceAdd, Int.reduceSub, Int.reduceMul, Int.reduceNeg, Int.reduceToNat, reduceCtorEq, reduceIte, na, nc, nd, nd2, n6, k103, c87, pex_eqS, eqI2, ← hq1, ← hq2, g, gUn, ll2, ll3, List.drop_one, List.tail_cons]
      rw [← hTS]
      exact keep (Q.keep hp ne2 g)
  · rintro i hk hi ⟨ba, bb, ls, A, g5, Q⟩
    exact ⟨ba, bb, ls, A, g5, Q.row⟩
  · exact ⟨_, _, _, A1, f5, AskQ.start⟩

theorem s49 {t : Trap} {o w : AV} (H : TrOk t o w) : ∃ a b e, (∀ st, Iso E 49 [trV t o w] st = some (.tup [.agg [I a, I b], I e])) ∧ AnsG t true (fun e => (0, 0, e)) (AskP t) (a, b, e) := by
  obtain ⟨p, e, K, q, hs⟩ := call73 H true [.cells [I t.ch, I t.tm, o, w] false, .cells [I 0, I 0] false]
  simp only [trV] at q ⊢
  cases hs with
  | bad hv =>
    refine ⟨0, 0, 10, fun st => ?_, .bad hv⟩
    refine Iso_of (es _ _ _ _) e49 ?_
    simp only [f49]
    simp (disch := first | assumption | omega | (simp only [az]; done)) only [ru, eq_self, if_true, if_false, BEq.rfl, binI, AO.row?, splice, fillL, mmAll, loadV, storeV, zeros, Am.rowAt, Am.part, addOff, Nat.reduceAdd, Nat.reduceMul, Nat.reduceLeDiff, Nat.reduceSub, Nat.reduceLT, Int.reduceEq, Int.reduceLT, Int.reduceLE, Int.reduceGT, Int.reduceGE, Int.reduceAdd, Int.reduceSub, Int.reduceMul, Int.reduceNeg, Int.reduceToNat, reduceCtorEq, reduceIte, lenV_sl H.o, lenV_sl H.w, elem_sl Ls.el H.o, elem_sl Wd.el H.w, view_sl H.o, view_sl H.w, scalar_sl H.o, scalar_sl H.w, cells_sl H.o, cells_sl H.w, pure_sl H.o, pure_sl H.w, Int.toNat_natCast]
    rw [q rfl rfl]
    simp (disch := first | assumption | omega | (simp only [az]; done)) only [ru, eq_self, if_true, if_false, BEq.rfl, binI, AO.row?, splice, fillL, mmAll, loadV, storeV, zeros, Am.rowAt, Am.part, addOff, Nat.reduceAdd, Nat.reduceMul, Nat.reduceLeDiff, Nat.reduceSub, Nat.reduceLT, Int.reduceEq, Int.reduceLT, Int.reduceLE, Int.reduceGT, Int.reduceGE, Int.reduceAdd, Int.reduceSub, Int.reduceMul, Int.reduceNeg, Int.reduceToNat, reduceCtorEq, reduceIte, lenV_sl H.o, lenV_sl H.w, elem_sl Ls.el H.o, elem_sl Wd.el H.w, view_sl H.o, view_sl H.w, scalar_sl H.o, scalar_sl H.w, cells_sl H.o, cells_sl H.w, pure_sl H.o, pure_sl H.w, Int.toNat_natCast, List.cons_append, List.nil_append]
    exact finS rfl rfl
  | arg hv hf => cases hf
  | none hv hf hn =>
    refine ⟨0, 0, 3, fun st => ?_, .none hv hf hn⟩
    refine Iso_of (es _ _ _ _) e49 ?_
    simp only [f49]
    simp (disch := first | assumption | omega | (simp only [az]; done)) only [ru, eq_self, if_true, if_false, BEq.rfl, binI, AO.row?, splice, fillL, mmAll, loadV, storeV, zeros, Am.rowAt, Am.part, addOff, Nat.reduceAdd, Nat.reduceMul, Nat.reduceLeDiff, Nat.reduceSub, Nat.reduceLT, Int.reduceEq, Int.reduceLT, Int.reduceLE, Int.reduceGT, Int.reduceGE, Int.reduceAdd, Int.reduceSub, Int.reduceMul, Int.reduceNeg, Int.reduceToNat, reduceCtorEq, reduceIte, lenV_sl H.o, lenV_sl H.w, elem_sl Ls.el H.o, elem_sl Wd.el H.w, view_sl H.o, view_sl H.w, scalar_sl H.o, scalar_sl H.w, cells_sl H.o, cells_sl H.w, pure_sl H.o, pure_sl H.w, Int.toNat_natCast]
    rw [q rfl rfl]
    simp (disch := first | assumption | omega | (simp only [az]; done)) only [ru, eq_self, if_true, if_false, BEq.rfl, binI, AO.row?, splice, fillL, mmAll, loadV, storeV, zeros, Am.rowAt, Am.part, addOff, Nat.reduceAdd, Nat.reduceMul, Nat.reduceLeDiff, Nat.reduceSub, Nat.reduceLT, Int.reduceEq, Int.reduceLT, Int.reduceLE, Int.reduceGT, Int.reduceGE, Int.reduceAdd, Int.reduceSub, Int.reduceMul, Int.reduceNeg, Int.reduceToNat, reduceCtorEq, reduceIte, lenV_sl H.o, lenV_sl H.w, elem_sl Ls.el H.o, elem_sl Wd.el H.w, view_sl H.o, view_sl H.w, scalar_sl H.o, scalar_sl H.w, cells_sl H.o, cells_sl H.w, pure_sl H.o, pure_sl H.w, Int.toNat_natCast, List.cons_append, List.nil_append]
    exact finS rfl rfl
  | @ok B hv hf hk hB hs =>
    have V := valid_trb hv
    have eC := eqC hv; have eT := eqT hv
    obtain ⟨a, b, e, c88, A⟩ := s88 H V (valid_w8 hv) hk hB hs
    simp only [List.cons_append, List.nil_append, List.length_cons, List.length_nil, Nat.zero_add, Nat.reduceAdd] at c88
    refine ⟨a, b, e, fun st => ?_, .ok hv hf (hs.solv hB) A⟩
    refine Iso_of (es _ _ _ _) e49 ?_
    simp only [f49]
    simp (disch := first | assumption | omega | (simp only [az]; done)) only [ru, eq_self, if_true, if_false, BEq.rfl, binI, AO.row?, splice, fillL, mmAll, loadV, storeV, zeros, Am.rowAt, Am.part, addOff, Nat.reduceAdd, Nat.reduceMul, Nat.reduceLeDiff, Nat.reduceSub, Nat.reduceLT, Int.reduceEq, Int.reduceLT, Int.reduceLE, Int.reduceGT, Int.reduceGE, Int.reduceAdd, Int.reduceSub, Int.reduceMul, Int.reduceNeg, Int.reduceToNat, reduceCtorEq, reduceIte, lenV_sl H.o, lenV_sl H.w, elem_sl Ls.el H.o, elem_sl Wd.el H.w, view_sl H.o, view_sl H.w, scalar_sl H.o, scalar_sl H.w, cells_sl H.o, cells_sl H.w, pure_sl H.o, pure_sl H.w, Int.toNat_natCast]
    rw [q rfl rfl]
    simp (disch := first | assumption | omega | (simp only [az]; done)) only [ru, eq_self, if_true, if_false, BEq.rfl, binI, AO.row?, splice, fillL, mmAll, loadV, storeV, zeros, Am.rowAt, Am.part, addOff, Nat.reduceAdd, Nat.reduceMul, Nat.reduceLeDiff, Nat.reduceSub, Nat.reduceLT, Int.reduceEq, Int.reduceLT, Int.reduceLE, Int.reduceGT, Int.reduceGE, Int.reduceAdd, Int.reduceSub, Int.reduceMul, Int.reduceNeg, Int.reduceToNat, reduceCtorEq, reduceIte, lenV_sl H.o, lenV_sl H.w, elem_sl Ls.el H.o, elem_sl Wd.el H.w, view_sl H.o, view_sl H.w, scalar_sl H.o, scalar_sl H.w, cells_sl H.o, cells_sl H.w, pure_sl H.o, pure_sl H.w, Int.toNat_natCast, List.cons_append, List.nil_append, c88]
    exact finS rfl rfl
end Go.Proofs.Ytjaaefdhdggnkaa.S

/-
The reference's Idle.
-/
namespace Go.Proofs.Ytjaaefdhdggnkaa.S
open Go Go.Am Go.Proofs.Ytjaaefdhdggnkaa.T
set_option maxRecDepth 100000
set_option linter.unusedSimpArgs false
set_option linter.unusedVariables false

/-- one number more, what is below stays -/
theorem liN_app2 {b : Nat} {h : List AO} {v : AV} {L : List Int} (H : LiN h v L) (n : Int) (hv : ∀ p m, v = .ms 1 p 0 m → b ≤ p) (hbl : b ≤ h.length) (hb : (L.length + 1) * 8 ≤ 1099511627776) : ∃ v' h', appV 0 h 1 8 v (.cs 1 1 [I n]) = some (v', h') ∧ LiN h' v' (L ++ [n]) ∧ (∀ p m, v' = .ms 1 p 0 m → b ≤ p) ∧ h.length ≤ h'.length ∧ ∀ k, k < b → h'[k]? = h[k]? := by
  have hr : Am.rowOf h (.cs 1 1 [I n]) = some [I n] := rfl
  rcases H with ⟨rfl, rfl⟩ | ⟨h0, p, rfl, hp⟩
  · have ev := appV_nil (lim := 0) (h := h) (esz := 1) (eb := 8) (n := 1) (x := .cs 1 1 [I n]) rfl hr rfl rfl (by omega) (by omega)
    rw [if_neg (by omega)] at ev
    exact ⟨_, _, ev, .inr ⟨by simp, h.length, rfl, by rw [atT0]; rfl⟩, fun p m e => (by cases e; exact hbl), by simp, fun k hk => at_ap (by omega)⟩
  · have bp := hv p _ rfl
    have ev := appV_ms (lim := 0) (esz := 1) (eb := 8) (n := 1) (len := L.length) (x := .cs 1 1 [I n]) hp (by rw [flat1]; omega) rfl hr rfl rfl hb (by omega) (Nat.zero_le _)
    rw [if_neg (by omega)] at ev
    refine ⟨_, _, ev, .inr ⟨by simp, h.length, by simp, ?_⟩, fun p m e => (by cases e; exact hbl), by simp, fun k hk => ?_⟩
    · rw [show h.length = (h.set p AO.tomb).length by simp, atT0, List.flatMap_append]; rfl
    · rw [at_ap (by simp; omega), List.getElem?_set_ne (by omega)]

set_option maxHeartbeats 2000000 in
theorem s68 {t : Trap} {o w : AV} (H : TrOk t o w) : ∃ v e, Iso E 68 [trV t o w] false = some (.tup [v, I e]) ∧ IdA t v e := by
  obtain ⟨e, c92, K⟩ := s92 H true
  simp only [trV] at c92 ⊢
  cases K with
  | bad hv =>
    refine ⟨.nils, 10, ?_, .bad hv⟩
    refine Iso_of (es _ _ _ _) e68 ?_
    simp only [f68]
    simp (disch := first | assumption | omega | (simp only [az]; done)) only [ru, eq_self, if_true, if_false, BEq.rfl, binI, AO.row?, splice, fillL, mmAll, loadV, storeV, zeros, Am.rowAt, Am.part, addOff, Nat.reduceAdd, Nat.reduceMul, Nat.reduceLeDiff, Nat.reduceSub, Nat.reduceLT, Int.reduceEq, Int.reduceLT, Int.reduceLE, Int.reduceGT, Int.reduceGE, Int.reduceAdd, Int.reduceSub, Int.reduceMul, Int.reduceNeg, Int.reduceToNat, reduceCtorEq, reduceIte, lenV_sl H.o, lenV_sl H.w, elem_sl Ls.el H.o, elem_sl Wd.el H.w, view_sl H.o, view_sl H.w, scalar_sl H.o, scalar_sl H.w, cells_sl H.o, cells_sl H.w, pure_sl H.o, pure_sl H.w, Int.toNat_natCast, c92]
  | arg hv hf => cases hf
  | none hv hf hn =>
    refine ⟨.nils, 3, ?_, .none hv hn⟩
    refine Iso_of (es _ _ _ _) e68 ?_
    simp only [f68]
    simp (disch := first | assumption | omega | (simp only [az]; done)) only [ru, eq_self, if_true, if_false, BEq.rfl, binI, AO.row?, splice, fillL, mmAll, loadV, storeV, zeros, Am.rowAt, Am.part, addOff, Nat.reduceAdd, Nat.reduceMul, Nat.reduceLeDiff, Nat.reduceSub, Nat.reduceLT, Int.reduceEq, Int.reduceLT, Int.reduceLE, Int.reduceGT, Int.reduceGE, Int.reduceAdd, Int.reduceSub, Int.reduceMul, Int.reduceNeg, Int.reduceToNat, reduceCtorEq, reduceIte, lenV_sl H.o, lenV_sl H.w, elem_sl Ls.el H.o, elem_sl Wd.el H.w, view_sl H.o, view_sl H.w, scalar_sl H.o, scalar_sl H.w, cells_sl H.o, cells_sl H.w, pure_sl H.o, pure_sl H.w, Int.toNat_natCast, c92]
  | ok hv hf hs =>
    have V := valid_trb hv
    have h8 := valid_w8 hv
    have eC := eqC hv; have eT := eqT hv
    have hw := H.w
    suffices hR : ∃ r h', R E (.fn 68) [.agg [I t.ch, I t.tm, o, w]] [] 0 = some (r, h') ∧ ∃ v, r = .tup [v, I 0] ∧ LiN h' v (idleL t) by
      obtain ⟨r, h', hr, v, rfl, hp⟩ := hR
      obtain ⟨u, hu, iu⟩ := hp.view 6
      refine ⟨u, 0, ?_, .ok hv hs iu⟩
      simp only [Iso, hr]
      show (([v, I 0].mapM (view false h' 7)).map AV.tup) = _
      simp only [List.mapM_cons, List.mapM_nil, hu false, view_int]
      rfl
    refine R_of (f := 68) (fun r h' => ∃ v, r = .tup [v, I 0] ∧ LiN h' v (idleL t)) (es _ _ _ _) e68 ?_
    simp only [f68]
    simp (disch := first | assumption | omega | (simp only [az]; done)) only [ru, eq_self, if_true, if_false, BEq.rfl, binI, AO.row?, splice, fillL, mmAll, loadV, storeV, zeros, Am.rowAt, Am.part, addOff, Nat.reduceAdd, Nat.reduceMul, Nat.reduceLeDiff, Nat.reduceSub, Nat.reduceLT, Int.reduceEq, Int.reduceLT, Int.reduceLE, Int.reduceGT, Int.reduceGE, Int.reduceAdd, Int.reduceSub, Int.reduceMul, Int.reduceNeg, Int.reduceToNat, reduceCtorEq, reduceIte, lenV_sl H.o, lenV_sl H.w, elem_sl Ls.el H.o, elem_sl Wd.el H.w, view_sl H.o, view_sl H.w, scalar_sl H.o, scalar_sl H.w, cells_sl H.o, cells_sl H.w, pure_sl H.o, pure_sl H.w, Int.toNat_natCast, c92]
    refine G_loop_ind (fun z ts hk mk => ∃ (i : Nat) (v : AV), i ≤ t.ws.length ∧ z = t.ws.length - i ∧ ts.length = 51 ∧ ts.getD 1 .undef = .ptr 0 0 ∧ ts.getD 5 .undef = v ∧ ts.getD 6 .undef = I i ∧
      1 ≤ hk.length ∧ hk[0]? = some (.cells [I t.ch, I t.tm, o, w] false) ∧ LiN hk v (idleU t i) ∧ (∀ p m, v = .ms 1 p 0 m → 1 ≤ p) ∧ mk = []) ?_ _ _ _ _
      ⟨0, .nils, Nat.zero_le _, rfl, rfl, rfl, rfl, rfl, by simp, rfl, .inl ⟨by simp [idleU], rfl⟩, fun p m e => (by cases e), rfl⟩
    rintro z ts hk mk ih ⟨i, v, hi, rfl, hl, q1, q5, q6, hg, k0, HL, hp1, rfl⟩
    rw [lit_all hl]
    simp only [lit0, litS, Nat.reduceAdd, q1, q5, q6]
    simp (disch := first | assumption | omega | (simp only [az]; done)) only [ru, eq_self, if_true, if_false, BEq.rfl, binI, AO.row?, splice, fillL, mmAll, loadV, storeV, zeros, Am.rowAt, Am.part, addOff, Nat.reduceAdd, Nat.reduceMul, Nat.reduceLeDiff, Nat.reduceSub, Nat.reduceLT, Int.reduceEq, Int.reduceLT, Int.reduceLE, Int.reduceGT, Int.reduceGE, Int.reduceAdd, Int.reduceSub, Int.reduceMul, Int.reduceNeg, Int.reduceToNat, reduceCtorEq, reduceIte, k0, lenV_sl hw, elem_sl Wd.el hw, view_sl hw, scalar_sl hw, cells_sl hw, pure_sl hw]
    by_cases hlt : (i : Int) < t.ws.length
    case neg =>
      have hi3 : i = t.ws.length := by omega
      subst hi3
      simp (disch := first | assumption | omega | (simp only [az]; done)) only [ru, eq_self, if_true, if_false, BEq.rfl, binI, AO.row?, splice, fillL, mmAll, loadV, storeV, zeros, Am.rowAt, Am.part, addOff, Nat.reduceAdd, Nat.reduceMul, Nat.reduceLeDiff, Nat.reduceSub, Nat.reduceLT, Int.reduceEq, Int.reduceLT, Int.reduceLE, Int.reduceGT, Int.reduceGE, Int.reduceAdd, Int.reduceSub, Int.reduceMul, Int.reduceNeg, Int.reduceToNat, reduceCtorEq, reduceIte, hlt]
      exact ⟨v, rfl, HL⟩
    have hi2 : i < t.ws.length := by omega
    have i0 : (0 : Int) ≤ i := by omega
    have kJ : ∀ J, (hk ++ J)[0]? = some (.cells [I t.ch, I t.tm, o, w] false) := fun J => by rw [at_ap (by omega)]; exact k0
    obtain ⟨y, hy⟩ : ∃ y, y = t.ws.getD i default := ⟨_, rfl⟩
    have hyf : fitB t y = true := by rw [hy]; exact fit_getD V hi2
    have hf2 := hyf
    simp only [fitB, placeB, Bool.and_eq_true, decide_eq_true_eq] at hf2
    have c51 := fun st => s51 H hi2 st
    have HD : TrOk (t.del i).cp (cpO (t.del i).op) (slV 4 Wd.e (t.del i).ws) := (del_ok H (k := i) slV_is).cpv
    have sv : Solv (t.del i).cp.C (t.del i).cp.T (t.del i).cp := cp_solv.2 (del_solv hi2 hs)
    refine (s93 HD (cp_trb (del_trb V)) sv (i := y.time.toNat) (c := y.ch.toNat) (by show _ < t.T; omega) (by show _ < t.C; omega)).elim fun lo h => h.elim fun hi' h => ?_
    have c93 := h.1
    have X : Xt (t.del i) (fun x => gap t.C x y.time.toNat y.ch.toNat) lo hi' := cp_xt h.2
    clear h
    have e1 : ((y.time.toNat : Nat) : Int) = y.time := by omega
    have e2 : ((y.ch.toNat : Nat) : Int) = y.ch := by omega
    rw [e1, e2] at c93
    have idl : idleB t i = true ↔ lo ≥ y.lo ∧ hi' ≤ y.hi := by
      rw [idleB_iff, ← hy]
      obtain ⟨x0, ⟨u1, u2, u3⟩, y1, y2, y3⟩ := xt_tr X
      try simp only at x0 u3 y3
      constructor
      · intro h
        have a := h u1 u2
        have b := h y1 y2
        unfold saysW at a b
        omega
      · intro h x hx
        have := x0 x hx
        unfold saysW
        omega
    have hq := HD.o
    have hq' := HD.w
    obtain ⟨o', eo⟩ : ∃ o', o' = cpO (t.del i).op := ⟨_, rfl⟩
    obtain ⟨w', ew⟩ : ∃ w', w' = slV 4 Wd.e (t.del i).ws := ⟨_, rfl⟩
    rw [← eo] at hq
    rw [← ew] at hq'
    have c51' : ∀ st, Iso E 51 [.agg [I t.ch, I t.tm, o, w], I i] st = some (.agg [I t.ch, I t.tm, o', w']) := by rw [eo, ew]; exact c51
    have c93' : ∀ st, Iso E 93 [.agg [I t.ch, I t.tm, o', w'], I y.time, I y.ch] st = some (.agg [I lo, I hi']) := by rw [eo, ew]; exact c93
    clear c51 c93 HD
    obtain ⟨G1, hG1⟩ : ∃ G1 : List AO, G1 = hk ++ [AO.cells [I y.time, I y.ch, I y.lo, I y.hi] false, AO.cells [I lo, I hi'] false] := ⟨_, rfl⟩
    have gl : G1.length = hk.length + 2 := by rw [hG1]; simp
    have gk : ∀ k, k < hk.length → G1[k]? = hk[k]? := fun k h => by rw [hG1, at_ap h]
    have gy : G1[hk.length]? = some (.cells [I y.time, I y.ch, I y.lo, I y.hi] false) := by rw [hG1, atT0]; rfl
    have gs : G1[hk.length + 1]? = some (.cells [I lo, I hi'] false) := by rw [hG1, atT]; rfl
    have g0 : G1[0]? = some (.cells [I t.ch, I t.tm, o, w] false) := (gk 0 (by omega)).trans k0
    have HL2 : LiN G1 v (idleU t i) := HL.fr gk
    have lu : (idleU t i).length ≤ i := idleU_len
    simp (disch := first | assumption | omega | (simp only [az]; done)) only [ru, eq_self, if_true, if_false, BEq.rfl, binI, AO.row?, splice, fillL, mmAll, loadV, storeV, zeros, Am.rowAt, Am.part, addOff, Nat.reduceAdd, Nat.reduceMul, Nat.reduceLeDiff, Nat.reduceSub, Nat.reduceLT, Int.reduceEq, Int.reduceLT, Int.reduceLE, Int.reduceGT, Int.reduceGE, Int.reduceAdd, Int.reduceSub, Int.reduceMul, Int.reduceNeg, Int.reduceToNat, reduceCtorEq, reduceIte, lenV_sl H.o, lenV_sl H.w, elem_sl Ls.el H.o, elem_sl Wd.el H.w, view_sl H.o, view_sl H.w, scalar_sl H.o, scalar_sl H.w, cells_sl H.o, cells_sl H.w, pure_sl H.o, pure_sl H.w, Int.toNat_natCast, hlt, k0, kJ, i0, Int.toNat_natCast, ← hy, Wd.e, lenV_sl hq, elem_sl Ls.el hq, view_sl hq, scalar_sl hq, cells_sl hq, pure_sl hq, lenV_sl hq', elem_sl Wd.el hq', view_sl hq', scalar_sl hq', cells_sl hq', pure_sl hq', c51', c93', hide, unhN, unhC, List.foldl_cons, List.foldl_nil, List.append_assoc, List.cons_append, List.nil_append, lenE, setT, setT0, atT, atT0, getT, getT0, Nat.add_assoc]
    rw [← hG1]
    have skip : ¬ (lo ≥ y.lo ∧ hi' ≤ y.hi) → idleU t (i + 1) = idleU t i := fun h => by
      rw [idleU_succ, if_neg (by rw [idl]; exact h), List.append_nil]
    by_cases g1 : lo ≥ y.lo
    case neg =>
      simp (disch := first | assumption | omega | (simp only [az]; done)) only [ru, eq_self, if_true, if_false, BEq.rfl, binI, AO.row?, splice, fillL, mmAll, loadV, storeV, zeros, Am.rowAt, Am.part, addOff, Nat.reduceAdd, Nat.reduceMul, Nat.reduceLeDiff, Nat.reduceSub, Nat.reduceLT, Int.reduceEq, Int.reduceLT, Int.reduceLE, Int.reduceGT, Int.reduceGE, Int.reduceAdd, Int.reduceSub, Int.reduceMul, Int.reduceNeg, Int.reduceToNat, reduceCtorEq, reduceIte, g0, gy, gs, g1, gUn]
      exact ih (t.ws.length - (i + 1)) _ _ _ (by omega) ⟨i + 1, v, by omega, rfl, rfl, rfl, rfl, rfl, by omega, g0, by rw [skip (by omega)]; exact HL2, hp1, rfl⟩
    by_cases g2 : hi' ≤ y.hi
    case neg =>
      simp (disch := first | assumption | omega | (simp only [az]; done)) only [ru, eq_self, if_true, if_false, BEq.rfl, binI, AO.row?, splice, fillL, mmAll, loadV, storeV, zeros, Am.rowAt, Am.part, addOff, Nat.reduceAdd, Nat.reduceMul, Nat.reduceLeDiff, Nat.reduceSub, Nat.reduceLT, Int.reduceEq, Int.reduceLT, Int.reduceLE, Int.reduceGT, Int.reduceGE, Int.reduceAdd, Int.reduceSub, Int.reduceMul, Int.reduceNeg, Int.reduceToNat, reduceCtorEq, reduceIte, g0, gy, gs, g1, g2, gUn]
      exact ih (t.ws.length - (i + 1)) _ _ _ (by omega) ⟨i + 1, v, by omega, rfl, rfl, rfl, rfl, rfl, by omega, g0, by rw [skip (by omega)]; exact HL2, hp1, rfl⟩
    refine (liN_app2 HL2 (i : Int) hp1 (by omega) (by omega)).elim fun v' hh => hh.elim fun h' hh => ?_
    have a1 := hh.1
    have a2 := hh.2.1
    have a3 := hh.2.2.1
    have a4 := hh.2.2.2.1
    have a5 := hh.2.2.2.2
    clear hh
    simp (disch := first | assumption | omega | (simp only [az]; done)) only [ru, eq_self, if_true, if_false, BEq.rfl, binI, AO.row?, splice, fillL, mmAll, loadV, storeV, zeros, Am.rowAt, Am.part, addOff, Nat.reduceAdd, Nat.reduceMul, Nat.reduceLeDiff, Nat.reduceSub, Nat.reduceLT, Int.reduceEq, Int.reduceLT, Int.reduceLE, Int.reduceGT, Int.reduceGE, Int.reduceAdd, Int.reduceSub, Int.reduceMul, Int.reduceNeg, Int.reduceToNat, reduceCtorEq, reduceIte, g0, gy, gs, g1, g2, gUn, a1]
    refine ih (t.ws.length - (i + 1)) _ _ _ (by omega) ⟨i + 1, v', by omega, rfl, rfl, rfl, rfl, rfl, by omega, (a5 0 (by omega)).trans g0, ?_, a3, rfl⟩
    rw [idleU_succ, if_pos (idl.2 ⟨g1, g2⟩)]; exact a2
end Go.Proofs.Ytjaaefdhdggnkaa.S

/-
The laws of Tell, Ask and Idle, and of what to count.
-/
namespace Go.Proofs.Ytjaaefdhdggnkaa.S
open Go Go.Am Go.Proofs.Ytjaaefdhdggnkaa.T
set_option maxRecDepth 100000
set_option linter.unusedSimpArgs false
set_option linter.unusedVariables false

theorem s46 {t : Trap} {o w : AV} (H0 : TrIn t o w) : ∃ b, (∀ st, Iso E 46 [trV t o w] st = some (Bo b)) ∧ (b = false → t.huge = false) := by
  have ho := H0.o
  have hw := H0.w
  have c53 := fun st => s53 H0 st
  simp only [trV] at c53 ⊢
  cases hg : t.huge
  case true =>
    rw [hg] at c53
    refine ⟨true, fun st => ?_, fun h => (by cases h)⟩
    refine Iso_of (es _ _ _ _) e46 ?_
    simp only [f46]
    simp (disch := first | assumption | omega | (simp only [az]; done)) only [ru, eq_self, if_true, if_false, BEq.rfl, binI, AO.row?, splice, fillL, mmAll, loadV, storeV, zeros, Am.rowAt, Am.part, addOff, Nat.reduceAdd, Nat.reduceMul, Nat.reduceLeDiff, Nat.reduceSub, Nat.reduceLT, Int.reduceEq, Int.reduceLT, Int.reduceLE, Int.reduceGT, Int.reduceGE, Int.reduceAdd, Int.reduceSub, Int.reduceMul, Int.reduceNeg, Int.reduceToNat, reduceCtorEq, reduceIte, lenV_sl ho, elem_sl Ls.el ho, view_sl ho, scalar_sl ho, cells_sl ho, pure_sl ho, lenV_sl hw, elem_sl Wd.el hw, view_sl hw, scalar_sl hw, cells_sl hw, pure_sl hw, c53, gUn]
  rw [hg] at c53
  have H := H0.ok hg
  have c55 := fun st => s55 H st
  simp only [trV] at c55
  obtain ⟨ce, hce⟩ : ∃ ce, ce = chkE t := ⟨_, rfl⟩
  rw [← hce] at c55
  by_cases g1 : t.ch > 3
  · refine ⟨ce == 0, fun st => ?_, fun _ => rfl⟩
    refine Iso_of (es _ _ _ _) e46 ?_
    simp only [f46]
    simp (disch := first | assumption | omega | (simp only [az]; done)) only [ru, eq_self, if_true, if_false, BEq.rfl, binI, AO.row?, splice, fillL, mmAll, loadV, storeV, zeros, Am.rowAt, Am.part, addOff, Nat.reduceAdd, Nat.reduceMul, Nat.reduceLeDiff, Nat.reduceSub, Nat.reduceLT, Int.reduceEq, Int.reduceLT, Int.reduceLE, Int.reduceGT, Int.reduceGE, Int.reduceAdd, Int.reduceSub, Int.reduceMul, Int.reduceNeg, Int.reduceToNat, reduceCtorEq, reduceIte, lenV_sl ho, elem_sl Ls.el ho, view_sl ho, scalar_sl ho, cells_sl ho, pure_sl ho, lenV_sl hw, elem_sl Wd.el hw, view_sl hw, scalar_sl hw, cells_sl hw, pure_sl hw, c53, c55, g1, gUn]
  · by_cases g2 : t.tm > 3
    · refine ⟨ce == 0, fun st => ?_, fun _ => rfl⟩
      refine Iso_of (es _ _ _ _) e46 ?_
      simp only [f46]
      simp (disch := first | assumption | omega | (simp only [az]; done)) only [ru, eq_self, if_true, if_false, BEq.rfl, binI, AO.row?, splice, fillL, mmAll, loadV, storeV, zeros, Am.rowAt, Am.part, addOff, Nat.reduceAdd, Nat.reduceMul, Nat.reduceLeDiff, Nat.reduceSub, Nat.reduceLT, Int.reduceEq, Int.reduceLT, Int.reduceLE, Int.reduceGT, Int.reduceGE, Int.reduceAdd, Int.reduceSub, Int.reduceMul, Int.reduceNeg, Int.reduceToNat, reduceCtorEq, reduceIte, lenV_sl ho, elem_sl Ls.el ho, view_sl ho, scalar_sl ho, cells_sl ho, pure_sl ho, lenV_sl hw, elem_sl Wd.el hw, view_sl hw, scalar_sl hw, cells_sl hw, pure_sl hw, c53, c55, g1, g2, gUn]
    · refine ⟨false, fun st => ?_, fun _ => rfl⟩
      refine Iso_of (es _ _ _ _) e46 ?_
      simp only [f46]
      simp (disch := first | assumption | omega | (simp only [az]; done)) only [ru, eq_self, if_true, if_false, BEq.rfl, binI, AO.row?, splice, fillL, mmAll, loadV, storeV, zeros, Am.rowAt, Am.part, addOff, Nat.reduceAdd, Nat.reduceMul, Nat.reduceLeDiff, Nat.reduceSub, Nat.reduceLT, Int.reduceEq, Int.reduceLT, Int.reduceLE, Int.reduceGT, Int.reduceGE, Int.reduceAdd, Int.reduceSub, Int.reduceMul, Int.reduceNeg, Int.reduceToNat, reduceCtorEq, reduceIte, lenV_sl ho, elem_sl Ls.el ho, view_sl ho, scalar_sl ho, cells_sl ho, pure_sl ho, lenV_sl hw, elem_sl Wd.el hw, view_sl hw, scalar_sl hw, cells_sl hw, pure_sl hw, c53, c55, g1, g2, gUn]

theorem tell_cp {t : Trap} {i c : Nat} {m : Int} : TellP t.cp i c m ↔ TellP t i c m := by
  unfold TellP
  simp only [tr_cp, cp_C, cp_T]
theorem askB_cp {t : Trap} {i c a b : Nat} {m : Int} (A : AskB t.cp i c a b m) : AskB t i c a b m :=
  ⟨A.fo, A.fb, tell_cp.1 A.fp, fun a' b' m' o h p => A.fl a' b' m' o h (tell_cp.2 p)⟩
theorem askP_cp {t : Trap} {r : Int × Int × Int} (A : AskP t.cp r) : AskP t r := by
  rcases A with ⟨e, A⟩ | ⟨⟨d, D, d0⟩, i, c, m, e, A⟩
  · exact .inl ⟨e, A.imp cp_dbt id⟩
  · exact .inr ⟨⟨d, cp_dbt D, d0⟩, i, c, m, e, askB_cp A⟩
theorem idleL_cp {t : Trap} : idleL t.cp = idleL t := by
  have e : ∀ k, idleB t.cp k = idleB t k := fun k => by
    rw [Bool.eq_iff_iff, idleB_iff, idleB_iff]
    exact forall_congr' fun x => imp_congr_left (tr_cp (t := t.del k))
  unfold idleL idleU
  rw [show idleB t.cp = idleB t from funext e]
  rfl
theorem nil_int : IsSl 1 intL ([] : List Int) .nils := .inr ⟨rfl, rfl⟩
theorem idA_two {t : Trap} {v v' : AV} {e e' : Int} (A : IdA t.cp v e) (B : IdA t v' e') : e = e' ∧ ∃ L : List Int, L.length ≤ t.ws.length ∧ IsSl 1 intL L v ∧ IsSl 1 intL L v' := by
  have hi : ∀ {s : Trap}, s.valid = true → s.valid = false → False := fun h h' => by rw [h] at h'; cases h'
  cases A with
  | bad h =>
    have h' := cp_valid.symm.trans h
    cases B with
    | bad _ => exact ⟨rfl, [], Nat.zero_le _, nil_int, nil_int⟩
    | none g _ => exact (hi g h').elim
    | ok g _ _ => exact (hi g h').elim
  | none h hn =>
    have h' := cp_valid.symm.trans h
    cases B with
    | bad g => exact (hi h' g).elim
    | none _ _ => exact ⟨rfl, [], Nat.zero_le _, nil_int, nil_int⟩
    | ok _ g _ => exact absurd (cp_solv.2 g) hn
  | ok h hs iv =>
    have h' := cp_valid.symm.trans h
    cases B with
    | bad g => exact (hi h' g).elim
    | none _ g => exact absurd (cp_solv.1 hs) g
    | ok _ _ iv' =>
      rw [idleL_cp] at iv
      exact ⟨rfl, _, idleU_len, iv, iv'⟩

set_option maxHeartbeats 2000000 in
theorem s15 {t : Trap} {o w : AV} (H0 : TrIn t o w) (a b : Int) : Iso E 15 [trV t o w, .agg [I a, I b]] false = some (Bo true) := by
  have ho := H0.o
  have hw := H0.w
  have d19 := s19
  obtain ⟨far, c46, hf⟩ := s46 H0
  simp only [trV] at c46
  cases far
  case true =>
    refine Iso_of (es _ _ _ _) e15 ?_
    simp only [f15, trV]
    simp (disch := first | assumption | omega | (simp only [az]; done)) only [ru, eq_self, if_true, if_false, BEq.rfl, binI, AO.row?, splice, fillL, mmAll, loadV, storeV, zeros, Am.rowAt, Am.part, addOff, Nat.reduceAdd, Nat.reduceMul, Nat.reduceLeDiff, Nat.reduceSub, Nat.reduceLT, Int.reduceEq, Int.reduceLT, Int.reduceLE, Int.reduceGT, Int.reduceGE, Int.reduceAdd, Int.reduceSub, Int.reduceMul, Int.reduceNeg, Int.reduceToNat, reduceCtorEq, reduceIte, lenV_sl ho, elem_sl Ls.el ho, view_sl ho, scalar_sl ho, cells_sl ho, pure_sl ho, lenV_sl hw, elem_sl Wd.el hw, view_sl hw, scalar_sl hw, cells_sl hw, pure_sl hw, c46, d19]
  have H := H0.ok (hf rfl)
  have HC := H.cpv
  have c41 := fun st => s41 H st
  obtain ⟨v1, e1, c48, A1⟩ := s48 HC a b
  obtain ⟨v2, e2, c66, A2⟩ := s66 H a b
  have A1' := cp_ansG (fit := placeB t a b) A1 (Q := fun r => TellP t a.toNat b.toNat r.1 ∧ r.2 = 0) fun r h => ⟨cp_tell h.1, h.2⟩
  obtain ⟨rfl, rfl⟩ : v1 = v2 ∧ e1 = e2 := by
    have := A1'.uniq (fun _ _ _ a b ha hb => Prod.ext (ha.1.uniq hb.1) (ha.2.trans hb.2.symm)) A2
    simpa only [Prod.mk.injEq] using this
  obtain ⟨a3, b3, e3, c49, A3⟩ := s49 HC
  obtain ⟨a4, b4, e4, c67, A4⟩ := s67 H
  obtain ⟨rfl, rfl, rfl⟩ : a3 = a4 ∧ b3 = b4 ∧ e3 = e4 := by
    have := (cp_ansG A3 fun r h => askP_cp h).uniq (fun _ _ _ a b ha hb => ha.uniq hb) A4
    simpa only [Prod.mk.injEq] using this
  obtain ⟨v5, e5, c50, A5⟩ := s50 HC
  obtain ⟨v6, e6, c68, A6⟩ := s68 H
  obtain ⟨rfl, L, hL, iv5, iv6⟩ := idA_two A5 A6
  have sw := H.sw
  have c69 := fun st => s69 iv5 iv6 (by omega) st
  have c58 := fun st => s58 HC H st
  have hq := HC.o
  have hq' := HC.w
  simp only [cpV] at c41
  obtain ⟨o', eo⟩ : ∃ o', o' = cpO t.op := ⟨_, rfl⟩
  obtain ⟨w', ew⟩ : ∃ w', w' = slV 4 Wd.e t.ws := ⟨_, rfl⟩
  rw [← eo] at hq
  rw [← ew] at hq'
  simp only [trV, ← eo, ← ew, Trap.cp] at c41 c48 c66 c49 c67 c50 c68 c58 hq hq'
  refine Iso_of (es _ _ _ _) e15 ?_
  simp only [f15, trV]
  simp (disch := first | assumption | omega | (simp only [az]; done)) only [ru, eq_self, if_true, if_false, BEq.rfl, binI, AO.row?, splice, fillL, mmAll, loadV, storeV, zeros, Am.rowAt, Am.part, addOff, Nat.reduceAdd, Nat.reduceMul, Nat.reduceLeDiff, Nat.reduceSub, Nat.reduceLT, Int.reduceEq, Int.reduceLT, Int.reduceLE, Int.reduceGT, Int.reduceGE, Int.reduceAdd, Int.reduceSub, Int.reduceMul, Int.reduceNeg, Int.reduceToNat, reduceCtorEq, reduceIte, lenV_sl ho, elem_sl Ls.el ho, view_sl ho, scalar_sl ho, cells_sl ho, pure_sl ho, lenV_sl hw, elem_sl Wd.el hw, view_sl hw, scalar_sl hw, cells_sl hw, pure_sl hw, lenV_sl hq, elem_sl Ls.el hq, view_sl hq, scalar_sl hq, cells_sl hq, pure_sl hq, lenV_sl hq', elem_sl Wd.el hq', view_sl hq', scalar_sl hq', cells_sl hq', pure_sl hq', lenV_sl iv5, elem_sl intE iv5, view_sl iv5, scalar_sl iv5, cells_sl iv5, pure_sl iv5, lenV_sl iv6, elem_sl intE iv6, view_sl iv6, scalar_sl iv6, cells_sl iv6, pure_sl iv6, c46, c41, c48, c66, c49, c67, c50, c68, c69, c58, d19, gUn]
  done
end Go.Proofs.Ytjaaefdhdggnkaa.S

