/-
The mathematics and the functions, one after another (S3).
-/
import Derived.Test.YtkmcbiimlnphmaaS2
import Derived.Test.YtkmcbiimlnphmaaAmZ

/-
Costs of words and of changes, and of two things together (specification).
-/
namespace Go.Proofs.Ytkmcbiimlnphmaa.S
open Go Go.Am Go.Proofs.Ytkmcbiimlnphmaa.T
set_option maxRecDepth 100000
set_option linter.unusedSimpArgs false
set_option linter.unusedVariables false

theorem TabN.congr {b e : Nat} {h : List AO} {n o : Nat} {q : Nat → Nat} {f g : Nat → Nat → Int} (T : TabN b e h n o q f) (hg : ∀ k, k < n → ∀ y, y < 31 → f k y = g k y) : TabN b e h n o q g :=
  ⟨T.ob, T.oc, fun i hi => ⟨(T.rows i hi).1, (T.rows i hi).2.1, by rw [← rw_congr (hg i hi)]; exact (T.rows i hi).2.2⟩, T.inj⟩

section
variable {t : List Pt} {v : AV}
end

/-! two things together -/
end Go.Proofs.Ytkmcbiimlnphmaa.S

/-
The least cost (specification): part by part, from the last one on.
-/
namespace Go.Proofs.Ytkmcbiimlnphmaa.S
open Go Go.Am Go.Proofs.Ytkmcbiimlnphmaa.T
set_option maxRecDepth 100000
set_option linter.unusedSimpArgs false
set_option linter.unusedVariables false

/-- a number that stands for a cost -/
def Rp (d n : Int) (m : Option Int) : Prop := (∀ v, m = some v → n = v ∧ -d ≤ v ∧ v ≤ d) ∧ (m = none → NV - d ≤ n ∧ n ≤ NV + 3000)
def Rpw (d n : Int) (m : Option Int) : Prop := (∀ v, m = some v → n = v ∧ -d ≤ v ∧ v ≤ d) ∧ (m = none → NV - d ≤ n)
theorem Rp.w {d n : Int} {m : Option Int} (h : Rp d n m) : Rpw d n m := ⟨h.1, fun e => (h.2 e).1⟩
theorem Rp.up {d e n : Int} {m : Option Int} (h : Rp d n m) (he : d ≤ e) : Rp e n m := ⟨fun v hv => by have := h.1 v hv; omega, fun hn => by have := h.2 hn; omega⟩
theorem Rpw.up {d e n : Int} {m : Option Int} (h : Rpw d n m) (he : d ≤ e) : Rpw e n m := ⟨fun v hv => by have := h.1 v hv; omega, fun hn => by have := h.2 hn; omega⟩
theorem Rp.mn {d n s : Int} {m m' : Option Int} (hd : d ≤ 400000000000) (h : Rp d n m) (h' : Rpw d s m') : Rp d (mn n s) (mo m m') := by
  have nv : NV = 1099511627776 := rfl
  cases m with
  | none =>
    have h1 := h.2 rfl
    cases m' with
    | none =>
      have h2 := h'.2 rfl
      refine ⟨(fun v hv => by cases hv), fun _ => ?_⟩
      unfold S.mn; split <;> omega
    | some b =>
      have h2 := h'.1 b rfl
      refine ⟨fun v hv => ?_, (fun e => by cases e)⟩
      cases hv
      unfold S.mn; split <;> omega
  | some a =>
    have h1 := h.1 a rfl
    cases m' with
    | none =>
      have h2 := h'.2 rfl
      refine ⟨fun v hv => ?_, (fun e => by cases e)⟩
      cases hv
      unfold S.mn; split <;> omega
    | some b =>
      have h2 := h'.1 b rfl
      refine ⟨fun v hv => ?_, (fun e => by cases e)⟩
      cases hv
      rw [h1.1, h2.1]
      unfold S.mn; split <;> omega
theorem Rpw.add {d e a b : Int} {m m' : Option Int} (hd : 0 ≤ d ∧ d ≤ 400000000000) (he : 0 ≤ e ∧ e ≤ 400000000000) (h : Rpw d a m) (h' : Rpw e b m') : Rpw (d + e) (a + b) (pl m m') := by
  have nv : NV = 1099511627776 := rfl
  cases m with
  | none =>
    have h1 := h.2 rfl
    refine ⟨(fun v hv => by rw [none_pl] at hv; cases hv), fun _ => ?_⟩
    cases m' with
    | none => have h2 := h'.2 rfl; omega
    | some y => have h2 := h'.1 y rfl; omega
  | some x =>
    have h1 := h.1 x rfl
    cases m' with
    | none =>
      have h2 := h'.2 rfl
      exact ⟨(fun v hv => by rw [pl_none] at hv; cases hv), fun _ => by omega⟩
    | some y =>
      have h2 := h'.1 y rfl
      exact ⟨fun v hv => by simp only [pl, Option.some.injEq] at hv; omega, (fun e => by cases e)⟩
theorem Rp.nv {d : Int} (hd : 0 ≤ d) : Rp d NV none := ⟨(fun v hv => by cases hv), fun _ => by omega⟩
/-- pieces, as they are read -/
def RdP (h : List AO) (p : AV) (f : Nat → Int) : Prop := (∃ r, p = .ms 1 r 0 31 ∧ h[r]? = some (.cells (rw_ 31 f) false)) ∨ IsSl 1 intL (rng 31 f) p
theorem RdP.view {h : List AO} {p : AV} {f : Nat → Int} (H : RdP h p f) (k : Nat) : Am.view false h (k + 1) p = some (slV 1 intL (rng 31 f)) := by
  rcases H with ⟨r, rfl, hr⟩ | H
  · have := RdC.view (enc := intL) (esz := 1) (l := rng 31 f) (h := h) (w := .ms 1 r 0 31) ⟨r, by rw [rng_len], hr⟩ intE intIv (st := false) (k := k)
    exact this
  · rcases H with rfl | ⟨rfl, e⟩
    · rw [view_cs]; rfl
    · have := congrArg List.length e; rw [rng_len] at this; simp at this
theorem RdP.el {h : List AO} {p : AV} {f : Nat → Int} (H : RdP h p f) {x : Nat} (hx : x < 31) : ∃ a, elemAt 1 p (I x) = some a ∧ loadV h false 1 a = some (I (f x)) := by
  rcases H with ⟨r, rfl, hr⟩ | H
  · refine ⟨_, elemAt_ms (nn x) (by omega), ?_⟩
    simp only [loadV, Am.rowAt, hr, Option.bind_some, AO.row?, Int.toNat_natCast, Nat.mul_one, Nat.zero_add]
    show Am.part false 1 _ = _
    exact rw_head hx
  · refine ⟨_, elem_in H x (nn x) (by rw [rng_len]; omega), ?_⟩
    rw [Int.toNat_natCast, rng_at hx]; rfl
theorem RdP.fr {h h' : List AO} {p : AV} {f : Nat → Int} (H : RdP h p f) (F : ∀ r, p = .ms 1 r 0 31 → h'[r]? = h[r]?) : RdP h' p f := by
  rcases H with ⟨r, e, hr⟩ | H
  · exact .inl ⟨r, e, (F r e).trans hr⟩
  · exact .inr H

section
variable {t : List Pt} {v : AV}
end
end Go.Proofs.Ytkmcbiimlnphmaa.S

/-
Is there a truth? Tables that are changed a little (specification). The helpers of the laws.
-/
namespace Go.Proofs.Ytkmcbiimlnphmaa.S
open Go Go.Am Go.Proofs.Ytkmcbiimlnphmaa.T
set_option maxRecDepth 100000
set_option linter.unusedSimpArgs false
set_option linter.unusedVariables false

section
variable {t : List Pt} {v : AV}
theorem c42 (H : TbOk t v) (Hh : List AO) : ∃ o H', C2 E 42 [v] Hh = some (.ms 6 o 0 t.length, H') ∧ Fr Hh H' ∧ Hh.length ≤ o ∧ H'[o]? = some (.cells (t.flatMap Pt.e) false) := by
  have sp := H.n
  obtain ⟨o, h', A, fr, ho, hc⟩ := cpyO (eb := 48) (lim := 0) (h := ([] : List AO)) H.i Pt.el Pt.sc (by omega) (by omega) (Nat.zero_le _)
  simp only [apN, len0, List.nil_append, List.length_nil] at A
  have hr : ∃ r h1, R E (.fn 42) [v] [] 0 = some (r, h1) ∧ (r = .ms 6 o 0 t.length ∧ h1 = h') := by
    refine R_of (fun r h1 => r = .ms 6 o 0 t.length ∧ h1 = h') (es _ _ _ _) e42 ?_
    simp only [f42]
    simp (disch := first | assumption | omega | (simp only [az]; done)) only [ru, eq_self, if_true, if_false, BEq.rfl, binI, AO.row?, splice, fillL, mmAll, loadV, storeV, zeros, Am.rowAt, Am.part, addOff, Nat.reduceAdd, Nat.reduceMul, Nat.reduceLeDiff, Nat.reduceSub, Nat.reduceLT, Int.reduceEq, Int.reduceLT, Int.reduceLE, Int.reduceGT, Int.reduceGE, Int.reduceAdd, Int.reduceSub, Int.reduceMul, Int.reduceNeg, Int.reduceToNat, reduceCtorEq, reduceIte, A]
  obtain ⟨_, _, hr, rfl, rfl⟩ := hr
  refine ⟨o + Hh.length, _, C2_of (by simp only [AV.pureV.go, pure_sl H.i, Bool.and_true]) hr, Fr.app _ _, by omega, ?_⟩
  rw [List.getElem?_append_right (by omega), Nat.add_sub_cancel, List.getElem?_map, hc]
  simp only [Option.map_some, AO.shift, pts_shift]
def onl (t : List Pt) (p : Nat) (n : Int) : List Pt := t.set p { t.getD p default with w := ⟨n, n⟩ }
theorem set_at {p i : Nat} (hp : p < t.length) {x : Pt} : (t.set p x).getD i default = if i = p then x else t.getD i default := by
  simp only [List.getD_eq_getElem?_getD]
  by_cases e : i = p
  · subst e; rw [List.getElem?_set_self hp, if_pos rfl]; rfl
  · rw [List.getElem?_set_ne (fun h => e h.symm), if_neg e]
theorem set_can {p : Nat} (hp : p < t.length) {x : Pt} (hx : x.of = (t.getD p default).of) (i : Int) : canC (t.set p x) i = canC t i := by
  have key : ∀ (a b : List Pt), a.length = b.length → (∀ j, (a.getD j default).of = (b.getD j default).of) → canC a i = true → canC b i = true := fun a b hl ha h => by
    simp only [canC, List.any_eq_true, decide_eq_true_eq] at h ⊢
    obtain ⟨x, hx, e⟩ := h
    obtain ⟨j, hj, rfl⟩ := mem_getD (d := default) hx
    exact ⟨b.getD j default, getD_mem (by omega), by rw [← ha j]; exact e⟩
  have hof : ∀ j, ((t.set p x).getD j default).of = (t.getD j default).of := fun j => by
    rw [set_at hp]; split
    · rename_i e; rw [e, hx]
    · rfl
  rw [Bool.eq_iff_iff]
  exact ⟨key _ _ (by simp) hof, key _ _ (by simp) fun j => (hof j).symm⟩
theorem set_W (T : TW t) {p : Nat} (hp : p < t.length) {x : Pt} (hx : x.of = (t.getD p default).of) (hw : 0 ≤ x.w.lo ∧ x.w.lo ≤ x.w.hi ∧ x.w.hi ≤ 30) (hs : 0 ≤ x.s.lo ∧ x.s.lo ≤ x.s.hi ∧ x.s.hi ≤ 30) (hpp : 0 ≤ x.p ∧ x.p ≤ 100) : TW (t.set p x) := by
  have L : (t.set p x).length = t.length := by simp
  refine ⟨⟨by rw [L]; exact T.n, fun i hi => ?_, fun i hi => ?_⟩, fun i hi => ?_, fun i hi => ?_⟩ <;> rw [L] at hi <;> rw [set_at hp] <;> split
  · rename_i e; rw [hx, e]; exact T.of p hp
  · exact T.of i hi
  · exact hs
  · exact T.s i hi
  · exact hw
  · exact T.w i hi
  · exact hpp
  · exact T.p i hi
theorem lin_small {r u : Nat → Int} {n : Nat} (hr : ∀ i, i < n → -100 ≤ r i ∧ r i ≤ 100) (hu : ∀ i, i < n → 0 ≤ u i ∧ u i ≤ 30) : ∀ {k : Nat}, k ≤ n → -(3000 * k) ≤ lin r u k ∧ lin r u k ≤ 3000 * k
  | 0, _ => by simp [lin]
  | k + 1, h => by
    have := lin_small hr hu (k := k) (by omega)
    have := mul_bd (hr k (by omega)) (hu k (by omega))
    simp only [lin]; omega
end
end Go.Proofs.Ytkmcbiimlnphmaa.S

/-
The helpers of the laws.
-/
namespace Go.Proofs.Ytkmcbiimlnphmaa.S
open Go Go.Am Go.Proofs.Ytkmcbiimlnphmaa.T
set_option maxRecDepth 100000
set_option linter.unusedSimpArgs false
set_option linter.unusedVariables false

/-! what the least list of weights is -/
section
variable {t : List Pt}
theorem fix_part (T : TG t) {m : Int} (hm : Lst t (cD t) = some m) : PartF t (fu (fixV t)) ∧ chg t (fu (fixV t)) t.length = m := by
  obtain ⟨u, h1, h2, h3⟩ := (LstP T (by rw [fixU_len]; exact Nat.le_refl _)).1 m (fixU_ok T hm (Nat.le_refl _))
  rw [fixU_len] at h2
  have e : ∀ i, i < t.length → fu (fixV t) i = u i := fun i hi => (h2 i hi).symm
  constructor
  · intro i hi
    have := h1 i hi
    rw [pcs_congr (w := u) e, e i hi]; exact this
  · rw [h3]
    have : ∀ k, k ≤ t.length → chg t (fu (fixV t)) k = chg t u k := by
      intro k
      induction k with
      | zero => intro _; rfl
      | succ k ih => intro hk; simp only [chg]; rw [ih (by omega), e k (by omega)]
    exact this _ (Nat.le_refl _)
theorem ear_at : ∀ {l m : List Int}, ear l m = true → ∃ k, k < l.length ∧ k < m.length ∧ (∀ i, i < k → l.getD i 0 = m.getD i 0) ∧ l.getD k 0 < m.getD k 0
  | [], _, h => by simp [ear] at h
  | _ :: _, [], h => by simp [ear] at h
  | a :: l, b :: m, h => by
    simp only [ear] at h
    by_cases e : a = b
    · subst e
      simp only [ne_eq, not_true_eq_false, if_false] at h
      obtain ⟨k, h1, h2, h3, h4⟩ := ear_at h
      refine ⟨k + 1, by simpa using h1, by simpa using h2, fun i hi => ?_, by simpa using h4⟩
      cases i with
      | zero => rfl
      | succ i => simpa using h3 i (by omega)
    · rw [if_pos e] at h
      exact ⟨0, by simp, by simp, fun i hi => by omega, by simpa using h⟩
/-- no parting with as little change is earlier -/
theorem fix_min (T : TG t) {m : Int} (hm : Lst t (cD t) = some m) {l : List Int} (hl : l.length = t.length) (hp : PartF t (fu l)) (hc : chg t (fu l) t.length = m) : ear l (fixV t) = false := by
  cases he : ear l (fixV t) with
  | false => rfl
  | true =>
    exfalso
    obtain ⟨k, h1, h2, h3, h4⟩ := ear_at he
    rw [fixU_len] at h2
    have hk := (hp k h2).1
    have e := fixU_lt (t := t) (k := t.length) (i := k) h2
    have bd : ∃ b, b < 31 ∧ (fun b : Nat => decide (Lst t (cP t (fixU t k ++ [(b : Int)])) = Lst t (cD t))) b = true := by
      refine ⟨(l.getD k 0).toNat, by have := hk; show (l.getD k 0).toNat < 31; have h5 : l.getD k 0 ≤ 30 := hk.2; omega, ?_⟩
      have h5 : 0 ≤ l.getD k 0 := hk.1
      show decide (Lst t (cP t (fixU t k ++ [(((l.getD k 0).toNat : Nat) : Int)])) = Lst t (cD t)) = true
      rw [show (((l.getD k 0).toNat : Nat) : Int) = l.getD k 0 by omega, decide_eq_true_eq, hm]
      have L := LstP T (l := fixU t k ++ [l.getD k 0]) (by simp [fixU_len]; omega)
      obtain ⟨y, hy, hle⟩ := L.2 m ⟨fu l, hp, fun i hi => by
        simp only [List.length_append, fixU_len, List.length_cons, List.length_nil] at hi
        by_cases e : i = k
        · subst e; rw [List.getD_eq_getElem?_getD, List.getElem?_append_right (by rw [fixU_len]; exact Nat.le_refl _), fixU_len, Nat.sub_self]; rfl
        · rw [List.getD_eq_getElem?_getD, List.getElem?_append_left (by rw [fixU_len]; omega), ← List.getD_eq_getElem?_getD]
          show l.getD i 0 = _
          rw [h3 i (by omega), fixU_lt (by omega), fixU_lt (by omega)], hc.symm⟩
      have := cP_ge T hm (by simp [fixU_len]; omega) hy
      rw [hy]; congr 1; omega
    have sp := fB_spec bd
    have : ¬ (l.getD k 0).toNat < fB fun b => decide (Lst t (cP t (fixU t k ++ [(b : Int)])) = Lst t (cD t)) := fun hlt => by
      have h6 := sp.2.2 _ hlt
      have h5 : 0 ≤ l.getD k 0 := hk.1
      have L := LstP T (l := fixU t k ++ [l.getD k 0]) (by simp [fixU_len]; omega)
      obtain ⟨y, hy, hle⟩ := L.2 m ⟨fu l, hp, fun i hi => by
        simp only [List.length_append, fixU_len, List.length_cons, List.length_nil] at hi
        by_cases e : i = k
        · subst e; rw [List.getD_eq_getElem?_getD, List.getElem?_append_right (by rw [fixU_len]; exact Nat.le_refl _), fixU_len, Nat.sub_self]; rfl
        · rw [List.getD_eq_getElem?_getD, List.getElem?_append_left (by rw [fixU_len]; omega), ← List.getD_eq_getElem?_getD]
          show l.getD i 0 = _
          rw [h3 i (by omega), fixU_lt (by omega), fixU_lt (by omega)], hc.symm⟩
      have h7 := cP_ge T hm (by simp [fixU_len]; omega) hy
      simp only [show (((l.getD k 0).toNat : Nat) : Int) = l.getD k 0 by omega, hy, hm, decide_eq_false_iff_not, Option.some.injEq] at h6
      omega
    have h5 : 0 ≤ l.getD k 0 := hk.1
    rw [e] at h4
    omega
theorem loV_eq {r : Nat → Int} (T : TG t) {x : Int} (u : Nat → Int) (hu : TruF t u) (e : lin r u t.length = x) (h : ∀ w, TruF t w → x ≤ lin r w t.length) : loV t r = x := by
  have h1 : is1 t = true := (is1_iff T).2 ⟨u, hu⟩
  obtain ⟨⟨w, hw, e2⟩, h3⟩ := loV_spec (r := r) T h1
  have := h3 u hu; have := h w hw; omega
theorem hiV_eq {r : Nat → Int} (T : TG t) {x : Int} (u : Nat → Int) (hu : TruF t u) (e : lin r u t.length = x) (h : ∀ w, TruF t w → lin r w t.length ≤ x) : hiV t r = x := by
  have h1 : is1 t = true := (is1_iff T).2 ⟨u, hu⟩
  obtain ⟨⟨w, hw, e2⟩, h3⟩ := hiV_spec (r := r) T h1
  have := h3 u hu; have := h w hw; omega
end

end Go.Proofs.Ytkmcbiimlnphmaa.S

/-
The chapter's examples.
-/
namespace Go.Proofs.Ytkmcbiimlnphmaa.S
open Go Go.Am Go.Proofs.Ytkmcbiimlnphmaa.T
set_option maxRecDepth 100000
set_option linter.unusedSimpArgs false
set_option linter.unusedVariables false

/-! the chapter's examples -/
def exT : List Pt := [⟨-1, ⟨20, 24⟩, ⟨1, 3⟩, 2⟩, ⟨0, ⟨8, 12⟩, ⟨0, 2⟩, 3⟩, ⟨0, ⟨9, 10⟩, ⟨0, 0⟩, 4⟩, ⟨1, ⟨6, 7⟩, ⟨0, 0⟩, 6⟩, ⟨1, ⟨0, 30⟩, ⟨0, 0⟩, 1⟩]
def exU : List Pt := [⟨-1, ⟨20, 24⟩, ⟨1, 3⟩, 2⟩, ⟨0, ⟨0, 5⟩, ⟨0, 2⟩, 3⟩, ⟨0, ⟨9, 10⟩, ⟨0, 0⟩, 4⟩, ⟨1, ⟨6, 7⟩, ⟨0, 0⟩, 6⟩, ⟨1, ⟨0, 30⟩, ⟨0, 0⟩, 1⟩]
theorem exT_v : tval exT = true := by decide +kernel
theorem exU_v : tval exU = true := by decide +kernel
theorem exT_W : TW exT := tval_W exT_v
theorem exU_W : TW exU := tval_W exU_v
theorem exT_par {u : Nat → Int} (h : PartF exT u) : 1 ≤ u 0 - (u 1 + u 2) ∧ u 0 - (u 1 + u 2) ≤ 3 ∧ 0 ≤ u 1 - (u 3 + u 4) ∧ u 1 - (u 3 + u 4) ≤ 2 ∧ 0 ≤ u 2 ∧ 0 ≤ u 3 ∧ 0 ≤ u 4 := by
  have h0 := (h 0 (by decide)).2
  have h1 := (h 1 (by decide)).2
  have h2 := (h 2 (by decide)).1
  have h3 := (h 3 (by decide)).1
  have h4 := (h 4 (by decide)).1
  have a0 : 1 ≤ u 0 - (0 + 0 + u 1 + u 2 + 0 + 0) ∧ u 0 - (0 + 0 + u 1 + u 2 + 0 + 0) ≤ 3 := h0
  have a1 : 0 ≤ u 1 - (0 + 0 + 0 + 0 + u 3 + u 4) ∧ u 1 - (0 + 0 + 0 + 0 + u 3 + u 4) ≤ 2 := h1
  omega
theorem exU_par {u : Nat → Int} (h : PartF exU u) : 1 ≤ u 0 - (u 1 + u 2) ∧ u 0 - (u 1 + u 2) ≤ 3 ∧ 0 ≤ u 1 - (u 3 + u 4) ∧ u 1 - (u 3 + u 4) ≤ 2 ∧ 0 ≤ u 2 ∧ 0 ≤ u 3 ∧ 0 ≤ u 4 := by
  have h0 := (h 0 (by decide)).2
  have h1 := (h 1 (by decide)).2
  have h2 := (h 2 (by decide)).1
  have h3 := (h 3 (by decide)).1
  have h4 := (h 4 (by decide)).1
  have a0 : 1 ≤ u 0 - (0 + 0 + u 1 + u 2 + 0 + 0) ∧ u 0 - (0 + 0 + u 1 + u 2 + 0 + 0) ≤ 3 := h0
  have a1 : 0 ≤ u 1 - (0 + 0 + 0 + 0 + u 3 + u 4) ∧ u 1 - (0 + 0 + 0 + 0 + u 3 + u 4) ≤ 2 := h1
  omega
theorem exT_tru {u : Nat → Int} (h : TruF exT u) : (20 ≤ u 0 ∧ u 0 ≤ 24) ∧ (8 ≤ u 1 ∧ u 1 ≤ 12) ∧ (9 ≤ u 2 ∧ u 2 ≤ 10) ∧ (6 ≤ u 3 ∧ u 3 ≤ 7) ∧ (0 ≤ u 4 ∧ u 4 ≤ 30) := ⟨h.2 0 (by decide), h.2 1 (by decide), h.2 2 (by decide), h.2 3 (by decide), h.2 4 (by decide)⟩
theorem tru_list {t : List Pt} (T : TW t) {l : List Int} (h : truB t l = true) : TruF t (fu l) := ((truB_iff T).1 h).2
theorem exT_1 : is1 exT = true := (is1_iff exT_W.toTG).2 ⟨_, tru_list exT_W (l := [20, 8, 9, 6, 0]) (by decide +kernel)⟩
theorem ex_w : loV exT (rA 4) = 0 ∧ hiV exT (rA 4) = 6 := by
  have e : ∀ u : Nat → Int, lin (rA 4) u exT.length = 0 + 0 * u 0 + 0 * u 1 + 0 * u 2 + 0 * u 3 + 1 * u 4 := fun u => rfl
  constructor
  · refine loV_eq exT_W.toTG _ (tru_list exT_W (l := [20, 8, 9, 6, 0]) (by decide +kernel)) rfl fun w hw => ?_
    have := exT_tru hw; rw [e]; omega
  · refine hiV_eq exT_W.toTG _ (tru_list exT_W (l := [24, 12, 10, 6, 6]) (by decide +kernel)) rfl fun w hw => ?_
    have := exT_tru hw; have := exT_par hw.1; rw [e]; omega
theorem ex_p : loV exT (rS exT [0, 1]) = 72 ∧ hiV exT (rS exT [0, 1]) = 87 := by
  have e : ∀ u : Nat → Int, lin (rS exT [0, 1]) u exT.length = 0 + 0 * u 0 + 0 * u 1 + 4 * u 2 + 6 * u 3 + 1 * u 4 := fun u => rfl
  constructor
  · refine loV_eq exT_W.toTG _ (tru_list exT_W (l := [20, 8, 9, 6, 0]) (by decide +kernel)) rfl fun w hw => ?_
    have := exT_tru hw; have := exT_par hw.1; rw [e]; omega
  · refine hiV_eq exT_W.toTG _ (tru_list exT_W (l := [24, 12, 10, 7, 5]) (by decide +kernel)) rfl fun w hw => ?_
    have := exT_tru hw; have := exT_par hw.1; rw [e]; omega
theorem ex_p0 : prc exT [] = 40 := by
  have e : ∀ u : Nat → Int, lin (rS exT []) u exT.length = 0 + 2 * u 0 + 0 * u 1 + 0 * u 2 + 0 * u 3 + 0 * u 4 := fun u => rfl
  refine loV_eq exT_W.toTG _ (tru_list exT_W (l := [20, 8, 9, 6, 0]) (by decide +kernel)) rfl fun w hw => ?_
  have := exT_tru hw; rw [e]; omega
theorem ex_p1 : prc exT [0] = 60 := by
  have e : ∀ u : Nat → Int, lin (rS exT [0]) u exT.length = 0 + 0 * u 0 + 3 * u 1 + 4 * u 2 + 0 * u 3 + 0 * u 4 := fun u => rfl
  refine loV_eq exT_W.toTG _ (tru_list exT_W (l := [20, 8, 9, 6, 0]) (by decide +kernel)) rfl fun w hw => ?_
  have := exT_tru hw; have := exT_par hw.1; rw [e]; omega
theorem ex_cut : bcut exT = [0, 1] := by
  have hc : cutsL exT = [[], [0], [0, 1]] := by decide +kernel
  have h2 : prc exT [0, 1] = 72 := ex_p.1
  unfold bcut
  rw [hc]
  simp only [bstC, bst, List.foldl, bstS, if_true, ex_p0, ex_p1, h2]
  rfl
theorem ex_rank : rnk exT [] [0] = 2 := by
  have e : ∀ u : Nat → Int, lin (fun i => rS exT [] i - rS exT [0] i) u exT.length = 0 + (2 - 0) * u 0 + (0 - 3) * u 1 + (0 - 4) * u 2 + (0 - 0) * u 3 + (0 - 0) * u 4 := fun u => rfl
  obtain ⟨⟨u, hu, e1⟩, _⟩ := loV_spec (r := fun i => rS exT [] i - rS exT [0] i) exT_W.toTG exT_1
  obtain ⟨⟨w, hw, e2⟩, _⟩ := hiV_spec (r := fun i => rS exT [] i - rS exT [0] i) exT_W.toTG exT_1
  have h1 : loV exT (fun i => rS exT [] i - rS exT [0] i) ≤ 0 := by
    rw [← e1, e]; have := exT_tru hu; have := exT_par hu.1; omega
  have h2 : hiV exT (fun i => rS exT [] i - rS exT [0] i) ≤ 0 := by
    rw [← e2, e]; have := exT_tru hw; have := exT_par hw.1; omega
  unfold rnk
  rw [if_neg (by omega), if_pos h2]
theorem awy_b {s : Spn} {w : Int} : s.lo - w ≤ awy s w ∧ w - s.hi ≤ awy s w ∧ 0 ≤ awy s w := ⟨Int.le_trans le_mx1 le_mx1, Int.le_trans le_mx2 le_mx1, le_mx2⟩
theorem exU_chg {u : Nat → Int} : chg exU u exU.length = 0 + awy ⟨20, 24⟩ (u 0) + awy ⟨0, 5⟩ (u 1) + awy ⟨9, 10⟩ (u 2) + awy ⟨6, 7⟩ (u 3) + awy ⟨0, 30⟩ (u 4) := rfl
theorem exU_p : PartF exU (fu [19, 6, 10, 6, 0]) := (parB_iff.1 (show parB exU [19, 6, 10, 6, 0] = true by decide +kernel)).2
theorem exU_c : Lst exU (cD exU) = some 2 := by
  have L := LstD exU_W.toTG
  obtain ⟨x, hx, hl⟩ := L.2 2 ⟨_, exU_p, by decide +kernel⟩
  obtain ⟨u, hu, e⟩ := L.1 x hx
  have h := exU_par hu
  rw [exU_chg] at e
  have a0 := @awy_b ⟨20, 24⟩ (u 0); have a1 := @awy_b ⟨0, 5⟩ (u 1); have a2 := @awy_b ⟨9, 10⟩ (u 2); have a3 := @awy_b ⟨6, 7⟩ (u 3); have a4 := @awy_b ⟨0, 30⟩ (u 4)
  simp only at a0 a1 a2 a3 a4
  rw [hx]; congr 1; omega
theorem exU_f : fixV exU = [19, 6, 10, 6, 0] := by
  have hm := exU_c
  obtain ⟨h1, h2⟩ := fix_part exU_W.toTG hm
  have hl : (fixV exU).length = 5 := fixU_len
  have mn := fix_min exU_W.toTG hm (l := [19, 6, 10, 6, 0]) rfl exU_p (by decide +kernel)
  clear hm
  generalize fixV exU = L at h1 h2 hl mn ⊢
  refine ear_total (by rw [hl]; rfl) ?_ mn
  cases he : ear L [19, 6, 10, 6, 0] with
  | false => rfl
  | true =>
    exfalso
    obtain ⟨k, k1, k2, k3, k4⟩ := ear_at he
    have h := exU_par h1
    rw [exU_chg] at h2
    obtain ⟨u, hu⟩ : ∃ u, u = fu L := ⟨_, rfl⟩
    have q : ∀ i, L.getD i 0 = u i := fun i => by rw [hu]
    rw [← hu] at h h2
    have a0 := @awy_b ⟨20, 24⟩ (u 0); have a1 := @awy_b ⟨0, 5⟩ (u 1); have a2 := @awy_b ⟨9, 10⟩ (u 2); have a3 := @awy_b ⟨6, 7⟩ (u 3); have a4 := @awy_b ⟨0, 30⟩ (u 4)
    simp only at a0 a1 a2 a3 a4
    match k, k2 with
    | 0, _ =>
      have k5 : u 0 < 19 := by have := k4; rw [q] at this; exact this
      omega
    | 1, _ =>
      have e0 : u 0 = 19 := by have := k3 0 (by omega); rw [q] at this; exact this
      have k5 : u 1 < 6 := by have := k4; rw [q] at this; exact this
      omega
    | 2, _ =>
      have e0 : u 0 = 19 := by have := k3 0 (by omega); rw [q] at this; exact this
      have e1 : u 1 = 6 := by have := k3 1 (by omega); rw [q] at this; exact this
      have k5 : u 2 < 10 := by have := k4; rw [q] at this; exact this
      omega
    | 3, _ =>
      have e0 : u 0 = 19 := by have := k3 0 (by omega); rw [q] at this; exact this
      have e1 : u 1 = 6 := by have := k3 1 (by omega); rw [q] at this; exact this
      have e2 : u 2 = 10 := by have := k3 2 (by omega); rw [q] at this; exact this
      have k5 : u 3 < 6 := by have := k4; rw [q] at this; exact this
      omega
    | 4, _ =>
      have k5 : u 4 < 0 := by have := k4; rw [q] at this; exact this
      omega

theorem s101 (a b c d e f : Int) (st : Bool) : Iso E 101 [I a, I b, I c, I d, I e, I f] st = some (.agg [I a, I b, I c, I d, I e, I f]) := by
  refine Iso_of (es _ _ _ _) e101 ?_
  simp only [f101]
  simp (disch := first | assumption | omega | (simp only [az]; done)) only [ru, eq_self, if_true, if_false, BEq.rfl, binI, AO.row?, splice, fillL, mmAll, loadV, storeV, zeros, Am.rowAt, Am.part, addOff, Nat.reduceAdd, Nat.reduceMul, Nat.reduceLeDiff, Nat.reduceSub, Nat.reduceLT, Int.reduceEq, Int.reduceLT, Int.reduceLE, Int.reduceGT, Int.reduceGE, Int.reduceAdd, Int.reduceSub, Int.reduceMul, Int.reduceNeg, Int.reduceToNat, reduceCtorEq, reduceIte, finC, getRes, Option.some.injEq, exists_eq_left', view_agg, List.mapM_cons, List.mapM_nil, view_int, Option.bind_eq_bind, Option.pure_def, Option.bind_some, Option.map_some]
theorem s50 {l : List Int} {u v : AV} (U : IsSl 1 intL l u) (V : IsSl 1 intL l v) (hl : l.length ≤ 100000) (st : Bool) : Iso E 50 [u, v] st = some (Bo true) := by
  refine Iso_of (es _ _ _ _) e50 ?_
  simp only [f50]
  simp (disch := first | assumption | omega | (simp only [az]; done)) only [ru, eq_self, if_true, if_false, BEq.rfl, binI, AO.row?, splice, fillL, mmAll, loadV, storeV, zeros, Am.rowAt, Am.part, addOff, Nat.reduceAdd, Nat.reduceMul, Nat.reduceLeDiff, Nat.reduceSub, Nat.reduceLT, Int.reduceEq, Int.reduceLT, Int.reduceLE, Int.reduceGT, Int.reduceGE, Int.reduceAdd, Int.reduceSub, Int.reduceMul, Int.reduceNeg, Int.reduceToNat, reduceCtorEq, reduceIte, lenV_sl U, elem_in U, view_sl U, scalar_sl U, cells_sl U, pure_sl U, Int.toNat_natCast, lenV_sl V, elem_in V, view_sl V, scalar_sl V, cells_sl V, pure_sl V, Int.toNat_natCast, decide_true, Bool.not_true]
  refine G_loop_ind (fun m ts h mk => ∃ i : Nat, i ≤ l.length ∧ m = l.length - i ∧ ts.length = 26 ∧ ts.getD 0 .undef = u ∧ ts.getD 1 .undef = v ∧ ts.getD 5 .undef = I i ∧ h = [] ∧ mk = []) ?_ _ _ _ _ ⟨0, Nat.zero_le _, rfl, rfl, rfl, rfl, rfl, rfl, rfl⟩
  rintro m ts h mk ih ⟨i, hi, rfl, hl', q0, q1, q5, rfl, rfl⟩
  rw [lit_all hl']
  simp only [lit0, litS, Nat.reduceAdd, q0, q1, q5]
  simp (disch := first | assumption | omega | (simp only [az]; done)) only [ru, eq_self, if_true, if_false, BEq.rfl, binI, AO.row?, splice, fillL, mmAll, loadV, storeV, zeros, Am.rowAt, Am.part, addOff, Nat.reduceAdd, Nat.reduceMul, Nat.reduceLeDiff, Nat.reduceSub, Nat.reduceLT, Int.reduceEq, Int.reduceLT, Int.reduceLE, Int.reduceGT, Int.reduceGE, Int.reduceAdd, Int.reduceSub, Int.reduceMul, Int.reduceNeg, Int.reduceToNat, reduceCtorEq, reduceIte, lenV_sl U, elem_in U, view_sl U, scalar_sl U, cells_sl U, pure_sl U, Int.toNat_natCast]
  by_cases hlt : (i : Int) < l.length
  case pos =>
    simp (disch := first | assumption | omega | (simp only [az]; done)) only [ru, eq_self, if_true, if_false, BEq.rfl, binI, AO.row?, splice, fillL, mmAll, loadV, storeV, zeros, Am.rowAt, Am.part, addOff, Nat.reduceAdd, Nat.reduceMul, Nat.reduceLeDiff, Nat.reduceSub, Nat.reduceLT, Int.reduceEq, Int.reduceLT, Int.reduceLE, Int.reduceGT, Int.reduceGE, Int.reduceAdd, Int.reduceSub, Int.reduceMul, Int.reduceNeg, Int.reduceToNat, reduceCtorEq, reduceIte, lenV_sl U, elem_in U, view_sl U, scalar_sl U, cells_sl U, pure_sl U, Int.toNat_natCast, lenV_sl V, elem_in V, view_sl V, scalar_sl V, cells_sl V, pure_sl V, Int.toNat_natCast, hlt, decide_true, Bool.not_true]
    exact ih (l.length - (i + 1)) _ _ _ (by omega) ⟨i + 1, by omega, rfl, rfl, rfl, rfl, rfl, rfl, rfl⟩
  simp (disch := first | assumption | omega | (simp only [az]; done)) only [ru, eq_self, if_true, if_false, BEq.rfl, binI, AO.row?, splice, fillL, mmAll, loadV, storeV, zeros, Am.rowAt, Am.part, addOff, Nat.reduceAdd, Nat.reduceMul, Nat.reduceLeDiff, Nat.reduceSub, Nat.reduceLT, Int.reduceEq, Int.reduceLT, Int.reduceLE, Int.reduceGT, Int.reduceGE, Int.reduceAdd, Int.reduceSub, Int.reduceMul, Int.reduceNeg, Int.reduceToNat, reduceCtorEq, reduceIte, hlt]
abbrev exTv : AV := slV 6 Pt.e exT
abbrev exUv : AV := slV 6 Pt.e exU
theorem exT_ok : TbOk exT exTv := ⟨slV_is, by decide⟩
theorem exU_ok : TbOk exU exUv := ⟨slV_is, by decide⟩
theorem s65 : Iso E 65 [] false = some (.tup [exTv, exUv]) := by
  have eT : AV.cs 6 5 (exT.flatMap Pt.e) = exTv := rfl
  obtain ⟨o, h', A, fr, ho, hc⟩ := cpyO (eb := 48) (lim := 0) (h := ([] : List AO)) (slV_is (esz := 6) (enc := Pt.e) (l := exT)) Pt.el Pt.sc (by decide) (by omega) (Nat.zero_le _)
  simp only [apN, len0, List.nil_append, List.length_nil] at A
  have tl : exT.length = 5 := rfl
  rw [tl] at A
  have ol := (List.getElem?_eq_some_iff.1 hc).1
  have hcl : (exT.flatMap Pt.e).length = 30 := rfl
  have fin : (exT.flatMap Pt.e).take (1 * 6) ++ [I 0, I 0, I 5, I 0, I 2, I 3] ++ (exT.flatMap Pt.e).drop (1 * 6 + 6) = exU.flatMap Pt.e := rfl
  have fin2 : (exT.flatMap Pt.e).take 6 ++ I 0 :: I 0 :: I 5 :: I 0 :: I 2 :: I 3 :: (exT.flatMap Pt.e).drop 12 = exU.flatMap Pt.e := rfl
  have vw := RdC.view (enc := Pt.e) (esz := 6) (l := exU) (h := h'.set o (.cells (exU.flatMap Pt.e) false)) (w := .ms 6 o 0 5) ⟨o, rfl, by rw [List.getElem?_set_self ol]⟩ Pt.el Pt.iv (st := false) (k := 6)
  have lt1 : (1 : Int) < ((5 : Nat) : Int) := by decide
  have fit : 1 * 6 + 6 ≤ (exT.flatMap Pt.e).length := by decide
  have fit2 : 12 ≤ (exT.flatMap Pt.e).length := by decide
  obtain ⟨Z, hZ⟩ : ∃ Z, Z = exT.flatMap Pt.e := ⟨_, rfl⟩
  have lz : [I (-1), I 20, I 24, I 1, I 3, I 2, I 0, I 8, I 12, I 0, I 2, I 3, I 0, I 9, I 10, I 0, I 0, I 4, I 1, I 6, I 7, I 0, I 0, I 6, I 1, I 0, I 30, I 0, I 0, I 1] = Z := by rw [hZ]; rfl
  have eT2 : AV.cs 6 5 Z = exTv := by rw [hZ]; rfl
  rw [← hZ] at hc fit2 fin2
  have A2 : appV 0 [AO.cells [] false] 6 48 (.ms 6 0 0 0) (.cs 6 5 Z) = some (.ms 6 o 0 5, h') := by rw [eT2]; exact A
  have i1 : (1 : Int).toNat * 6 = 6 := rfl
  have vT : ∀ h : List AO, view false h 7 exTv = some exTv := fun h => by rw [← eT, view_cs]
  have pz : AV.pureV.go Z = true := by rw [hZ]; rfl
  refine Iso_of (es _ _ _ _) e65 ?_
  simp only [f65]
  simp (disch := first | assumption | omega | (simp only [az]; done)) only [ru, eq_self, if_true, if_false, BEq.rfl, binI, AO.row?, splice, fillL, mmAll, loadV, storeV, zeros, Am.rowAt, Am.part, addOff, Nat.reduceAdd, Nat.reduceMul, Nat.reduceLeDiff, Nat.reduceSub, Nat.reduceLT, Int.reduceEq, Int.reduceLT, Int.reduceLE, Int.reduceGT, Int.reduceGE, Int.reduceAdd, Int.reduceSub, Int.reduceMul, Int.reduceNeg, Int.reduceToNat, reduceCtorEq, reduceIte, s101, exOp_litS, AV.pureV.go, AV.pureV, Bool.and_true, lz, pz, A, elemAt_ms, lt1, i1, Nat.zero_add, hc, fit2, List.append_assoc, fin2, vw, view_tup, List.mapM_cons, List.mapM_nil, Option.bind_eq_bind, Option.pure_def, Option.bind_some, Option.map_some, vT, eT2]
end Go.Proofs.Ytkmcbiimlnphmaa.S

/-
The chapter's examples hold; ready tables.
-/
namespace Go.Proofs.Ytkmcbiimlnphmaa.S
open Go Go.Am Go.Proofs.Ytkmcbiimlnphmaa.T
set_option maxRecDepth 100000
set_option linter.unusedSimpArgs false
set_option linter.unusedVariables false

theorem s18 : Iso E 18 [] false = some (Bo true) := by
  have V01 : IsSl 1 intL [0, 1] (.cs 1 2 [I 0, I 1]) := .inl rfl
  have V0 : IsSl 1 intL [0] (.cs 1 1 [I 0]) := .inl rfl
  have V5 : IsSl 1 intL [19, 6, 10, 6, 0] (.cs 1 5 [I 19, I 6, I 10, I 6, I 0]) := .inl rfl
  have VN : IsSl 1 intL [] .nils := .inr ⟨rfl, rfl⟩
  have c01 : cutB exT [0, 1] = true := by decide +kernel
  have c0 : cutB exT [0] = true := by decide +kernel
  have cN : cutB exT [] = true := by decide +kernel
  have i4 : inR 4 0 (exT.length - 1) = true := rfl
  have n4 : (4 : Int).toNat = 4 := rfl
  have a1 : ∀ st, Iso E 32 [exTv, I 4] st = some (.tup [.agg [I 0, I 6], I 0]) := fun st => by
    rw [s32 exT_ok]; simp only [askR, exT_v, i4, n4, if_true, btw, exT_1, ex_w.1, ex_w.2]
  have a2 : ∀ st, Iso E 27 [exTv, .cs 1 2 [I 0, I 1]] st = some (.tup [.agg [I 72, I 87], I 0]) := fun st => by
    rw [s27 exT_ok V01 (by decide)]; simp only [askR, exT_v, c01, if_true, btw, exT_1, ex_p.1, ex_p.2]
  have a3 : Iso E 46 [exTv] false = some (.tup [.cs 1 2 [I 0, I 1], I 0]) := by
    rw [s46 exT_ok]; simp only [cutO, exT_v, if_true, exT_1, ex_cut]; rfl
  have a4 : ∀ st, Iso E 43 [exUv] st = some (.tup [I 2, I 0]) := fun st => by
    rw [s43 exU_ok]; simp only [chaR, exU_v, if_true, exU_c]
  have a5 : Iso E 39 [exUv] false = some (.tup [.cs 1 5 [I 19, I 6, I 10, I 6, I 0], I 0]) := by
    rw [s39 exU_ok]; simp only [fixR, exU_v, if_true, exU_c, exU_f]; rfl
  have a6 : ∀ st, Iso E 28 [exTv, .nils, .cs 1 1 [I 0]] st = some (.tup [I 2, I 0]) := fun st => by
    rw [s28 exT_ok VN (by decide) V0 (by decide)]; simp only [rnkR, exT_v, cN, c0, Bool.and_true, if_true, exT_1, ex_rank]
  have a7 := fun st => s50 V01 V01 (by decide) st
  have a8 := fun st => s50 V5 V5 (by decide) st
  have a0 := s65
  obtain ⟨tv, ht⟩ : ∃ tv, tv = exTv := ⟨_, rfl⟩
  obtain ⟨uv, hu⟩ : ∃ uv, uv = exUv := ⟨_, rfl⟩
  rw [← ht] at a1 a2 a3 a6 a0
  rw [← hu] at a4 a5 a0
  have HT : TbOk exT tv := by rw [ht]; exact exT_ok
  have HU : TbOk exU uv := by rw [hu]; exact exU_ok
  refine Iso_of (es _ _ _ _) e18 ?_
  simp only [f18]
  simp (disch := first | assumption | omega | (simp only [az]; done)) only [ru, eq_self, if_true, if_false, BEq.rfl, binI, AO.row?, splice, fillL, mmAll, loadV, storeV, zeros, Am.rowAt, Am.part, addOff, Nat.reduceAdd, Nat.reduceMul, Nat.reduceLeDiff, Nat.reduceSub, Nat.reduceLT, Int.reduceEq, Int.reduceLT, Int.reduceLE, Int.reduceGT, Int.reduceGE, Int.reduceAdd, Int.reduceSub, Int.reduceMul, Int.reduceNeg, Int.reduceToNat, reduceCtorEq, reduceIte, lenV_sl HT.i, elem_pt HT.i, view_sl HT.i, scalar_sl HT.i, cells_sl HT.i, pure_sl HT.i, Int.toNat_natCast, lenV_sl HU.i, elem_pt HU.i, view_sl HU.i, scalar_sl HU.i, cells_sl HU.i, pure_sl HU.i, Int.toNat_natCast, a0, a1, a2, a3, a4, a5, a6, a7, a8, exOp_litS, AV.pureV.go, AV.pureV, Bool.and_true, decide_true]
  done
section
variable {t : List Pt} {v : AV}
/-- a table that is handed in -/
structure TbIn (t : List Pt) (v : AV) : Prop where
  i : IsSl 6 Pt.e t v
theorem s16 (hv : TbIn t v) (st : Bool) : Iso E 16 [v] st = some (Bo (tval t && decide (t.length ≤ 40))) := by
  refine Iso_of (es _ _ _ _) e16 ?_
  simp only [f16]
  by_cases hl : (t.length : Int) ≤ 40
  · have a := fun st => s53 ⟨hv.i, by omega⟩ st
    have hl' : t.length ≤ 40 := by omega
    cases h : tval t <;> simp (disch := first | assumption | omega | (simp only [az]; done)) only [ru, eq_self, if_true, if_false, BEq.rfl, binI, AO.row?, splice, fillL, mmAll, loadV, storeV, zeros, Am.rowAt, Am.part, addOff, Nat.reduceAdd, Nat.reduceMul, Nat.reduceLeDiff, Nat.reduceSub, Nat.reduceLT, Int.reduceEq, Int.reduceLT, Int.reduceLE, Int.reduceGT, Int.reduceGE, Int.reduceAdd, Int.reduceSub, Int.reduceMul, Int.reduceNeg, Int.reduceToNat, reduceCtorEq, reduceIte, lenV_sl hv.i, elem_pt hv.i, view_sl hv.i, scalar_sl hv.i, cells_sl hv.i, pure_sl hv.i, Int.toNat_natCast, a, hl, hl', h, decide_true]
  · have hl' : ¬ t.length ≤ 40 := by omega
    simp (disch := first | assumption | omega | (simp only [az]; done)) only [ru, eq_self, if_true, if_false, BEq.rfl, binI, AO.row?, splice, fillL, mmAll, loadV, storeV, zeros, Am.rowAt, Am.part, addOff, Nat.reduceAdd, Nat.reduceMul, Nat.reduceLeDiff, Nat.reduceSub, Nat.reduceLT, Int.reduceEq, Int.reduceLT, Int.reduceLE, Int.reduceGT, Int.reduceGE, Int.reduceAdd, Int.reduceSub, Int.reduceMul, Int.reduceNeg, Int.reduceToNat, reduceCtorEq, reduceIte, lenV_sl hv.i, elem_pt hv.i, view_sl hv.i, scalar_sl hv.i, cells_sl hv.i, pure_sl hv.i, Int.toNat_natCast, hl, hl', decide_false, Bool.and_false]
end
end Go.Proofs.Ytkmcbiimlnphmaa.S

/-
The inputs of the laws of stage 7, as the abstract machine has them.
-/
namespace Go.Proofs.Ytkmcbiimlnphmaa.S
open Go Go.Am Go.Proofs.Ytkmcbiimlnphmaa.T
set_option linter.unusedVariables false
set_option maxRecDepth 100000

theorem z3 : Try.prog.cellsOf 3 = 1 := by kernel_rfl
theorem z23 : Try.prog.cellsOf 23 = 1 := by kernel_rfl
theorem z25 : Try.prog.cellsOf 25 = 2 := by kernel_rfl
theorem z33 : Try.prog.cellsOf 33 = 2 := by kernel_rfl
theorem z41 : Try.prog.cellsOf 41 = 6 := by kernel_rfl
theorem wfIc {d : Nat} {c : List AV} (h : WfC Try.prog (d + 1) 3 c) : ∃ i, c = [I i] ∧ True := by
  obtain ⟨i, e, hw⟩ := wf_int Try.underlying3 h
  exact ⟨i, e, trivial⟩
theorem wfI {d : Nat} {a : AV} (h : WfC Try.prog (d + 1) 3 [a]) : ∃ i, a = I i ∧ True := by
  obtain ⟨i, e, _⟩ := wfIc h
  simp only [List.cons.injEq, and_true] at e
  exact ⟨i, e, trivial⟩
theorem wfSpn {d : Nat} {c : List AV} (h : WfC Try.prog (d + 2) 33 c) : ∃ x y, c = [I x, I y] ∧ True := by
  obtain ⟨hl, hf⟩ := wf_struct Try.underlying33 h
  rw [z33] at hl
  match c, hl with
  | [x, y], _ =>
    have h0 : WfC Try.prog (d + 1) 3 (([x, y].drop 0).take (Try.prog.cellsOf 3)) := hf 0 _ rfl
    have h1 : WfC Try.prog (d + 1) 3 (([x, y].drop 1).take (Try.prog.cellsOf 3)) := hf 1 _ rfl
    rw [z3] at h0 h1
    obtain ⟨i, rfl, _⟩ := wfI (show WfC Try.prog (d + 1) 3 [x] from h0)
    obtain ⟨j, rfl, _⟩ := wfI (show WfC Try.prog (d + 1) 3 [y] from h1)
    exact ⟨i, j, rfl, trivial⟩
theorem wfPt {d : Nat} {c : List AV} (h : WfC Try.prog (d + 3) 41 c) : ∃ s : Pt, c = s.e ∧ True := by
  obtain ⟨hl, hf⟩ := wf_struct Try.underlying41 h
  rw [z41] at hl
  match c, hl with
  | [x, y, z, u, v, w], _ =>
    have h0 : WfC Try.prog (d + 2) 3 (([x, y, z, u, v, w].drop 0).take (Try.prog.cellsOf 3)) := hf 0 _ rfl
    have h1 : WfC Try.prog (d + 2) 33 (([x, y, z, u, v, w].drop 1).take (Try.prog.cellsOf 33)) := hf 1 _ rfl
    have h2 : WfC Try.prog (d + 2) 33 (([x, y, z, u, v, w].drop 3).take (Try.prog.cellsOf 33)) := hf 2 _ rfl
    have h3 : WfC Try.prog (d + 2) 3 (([x, y, z, u, v, w].drop 5).take (Try.prog.cellsOf 3)) := hf 3 _ rfl
    rw [z3] at h0 h3
    rw [z33] at h1 h2
    obtain ⟨i, rfl, _⟩ := wfI (show WfC Try.prog (d + 1 + 1) 3 [x] from h0)
    obtain ⟨a, b, e1, _⟩ := wfSpn (show WfC Try.prog (d + 2) 33 [y, z] from h1)
    obtain ⟨a', b', e2, _⟩ := wfSpn (show WfC Try.prog (d + 2) 33 [u, v] from h2)
    obtain ⟨j, rfl, _⟩ := wfI (show WfC Try.prog (d + 1 + 1) 3 [w] from h3)
    simp only [List.cons.injEq, and_true] at e1 e2
    obtain ⟨rfl, rfl⟩ := e1
    obtain ⟨rfl, rfl⟩ := e2
    exact ⟨⟨i, ⟨a, b⟩, ⟨a', b'⟩, j⟩, rfl, trivial⟩
theorem wfTab {d : Nat} {c : List AV} (h : WfC Try.prog (d + 4) 22 c) : ∃ (l : List Pt) (v : AV), c = [v] ∧ TbIn l v := by
  obtain ⟨l, v, e, iv, _⟩ := wf_sl (d := d + 3) (enc := Pt.e) (p := fun _ => True) Try.underlying22 z41 (fun c hc => wfPt hc) h
  exact ⟨l, v, e, ⟨iv⟩⟩
theorem wfNums {d : Nat} {c : List AV} (h : WfC Try.prog (d + 2) 23 c) : ∃ (l : List Int) (v : AV), c = [v] ∧ IsSl 1 intL l v := by
  obtain ⟨l, v, e, iv, _⟩ := wf_sl (d := d + 1) (enc := intL) (p := fun _ => True) Try.underlying23 z3 (fun c hc => wfIc hc) h
  exact ⟨l, v, e, iv⟩
theorem wfSold {d : Nat} {c : List AV} (h : WfC Try.prog (d + 3) 25 c) : ∃ (l m : List Int) (v w : AV), c = [v, w] ∧ IsSl 1 intL l v ∧ IsSl 1 intL m w := by
  obtain ⟨hl, hf⟩ := wf_struct Try.underlying25 h
  rw [z25] at hl
  match c, hl with
  | [x, y], _ =>
    have h0 : WfC Try.prog (d + 2) 23 (([x, y].drop 0).take (Try.prog.cellsOf 23)) := hf 0 _ rfl
    have h1 : WfC Try.prog (d + 2) 23 (([x, y].drop 1).take (Try.prog.cellsOf 23)) := hf 1 _ rfl
    rw [z23] at h0 h1
    obtain ⟨l, v, e, iv⟩ := wfNums (show WfC Try.prog (d + 2) 23 [x] from h0)
    obtain ⟨m, w, e2, iw⟩ := wfNums (show WfC Try.prog (d + 2) 23 [y] from h1)
    simp only [List.cons.injEq, and_true] at e e2
    subst e; subst e2
    exact ⟨l, m, x, y, rfl, iv, iw⟩
theorem own : ownKnob Try.prog.godebug = none := by kernel_rfl
theorem laid : laidOutB Try.prog = true := by kernel_rfl
def twoW : Value := .agg #[.slice none 0 0, .slice none 0 0]
end Go.Proofs.Ytkmcbiimlnphmaa.S

