/-
CutsClear: clearer words.
-/
import Derived.Test.YtkmcbiimlnphmaaYi
namespace Go.Proofs.Ytkmcbiimlnphmaa.S
open Go Go.Am Go.Proofs.Ytkmcbiimlnphmaa.T
set_option maxRecDepth 100000
set_option linter.unusedSimpArgs false
set_option linter.unusedVariables false

def Spn.e (s : Spn) : List AV := [I s.lo, I s.hi]
theorem Spn.el (s : Spn) : s.e.length = 2 := rfl
theorem Spn.sc (s : Spn) : s.e.all AV.scalar = true := rfl
theorem elem_sp {l : List Spn} {v : AV} (h : IsSl 2 Spn.e l v) : ∀ i : Int, 0 ≤ i → i < l.length → elemAt 2 v (I i) = some (.cptr [I (l.getD i.toNat default).lo, I (l.getD i.toNat default).hi]) := elem_sl Spn.el h
def resS (l : List Spn) : AV := if l = [] then .nils else slV 2 Spn.e l
theorem resS_is (l : List Spn) : IsSl 2 Spn.e l (resS l) := by
  unfold resS; split
  · exact .inr ⟨rfl, by assumption⟩
  · exact .inl rfl
theorem outS_view {b : Nat} {h : List AO} {v : AV} {l : List Spn} (H : OutE Spn.e 2 b h v l) {st : Bool} {k : Nat} : Am.view st h (k + 1) v = some (resS l) := by
  by_cases hne : l = []
  · subst hne
    rcases H with ⟨_, rfl⟩ | ⟨h, _⟩
    · rfl
    · exact absurd rfl h
  · rw [outE_view Spn.el H hne fun a => by simp only [Spn.e, List.mapM_cons, List.mapM_nil, view_int, Option.bind_eq_bind, Option.pure_def, Option.bind_some], resS, if_neg hne]
theorem outS_len {b : Nat} {h : List AO} {v : AV} {l : List Spn} (H : OutE Spn.e 2 b h v l) : lenV v = some (I l.length) := by
  rcases H with ⟨rfl, rfl⟩ | ⟨_, o, _, rfl, _⟩ <;> rfl
theorem outS_more {b : Nat} {h : List AO} {v : AV} {l : List Spn} (H : OutE Spn.e 2 b h v l) (X : AO) : OutE Spn.e 2 b (h ++ [X]) v l := by
  rcases H with h1 | ⟨h1, o, h2, h3, h4⟩
  · exact .inl h1
  · exact .inr ⟨h1, o, h2, h3, Fr.at (Fr.app _ _) h4⟩
section
variable {t : List Pt} {v w : AV} {l : List Int}
/-- what each weight may be -/
def wsp (t : List Pt) (i : Nat) : Spn := ⟨loV t (rA i), hiV t (rA i)⟩
def wts (t : List Pt) : List Spn := (List.range t.length).map (wsp t)
theorem wts_len : (wts t).length = t.length := by simp [wts]
theorem wts_at {i : Nat} (h : i < t.length) : (wts t).getD i default = wsp t i := by
  simp [wts, List.getD_eq_getElem?_getD, h]
set_option maxHeartbeats 1000000 in
theorem s19 (H : TbOk t v) (hv : tval t = true) (h1 : is1 t = true) (st : Bool) : Iso E 19 [v] st = some (.tup [resS (wts t), Bo true]) := by
  have n8 := (tval_W hv).n
  refine Iso_of (es _ _ _ _) e19 ?_
  simp only [f19]
  simp (disch := first | assumption | omega | (simp only [az]; done)) only [ru, eq_self, if_true, if_false, BEq.rfl, binI, AO.row?, splice, fillL, mmAll, loadV, storeV, zeros, Am.rowAt, Am.part, addOff, Nat.reduceAdd, Nat.reduceMul, Nat.reduceLeDiff, Nat.reduceSub, Nat.reduceLT, Int.reduceEq, Int.reduceLT, Int.reduceLE, Int.reduceGT, Int.reduceGE, Int.reduceAdd, Int.reduceSub, Int.reduceMul, Int.reduceNeg, Int.reduceToNat, reduceCtorEq, reduceIte]
  refine G_loop_ind (fun m' ts h mk => ∃ (i : Nat) (o : AV), i ≤ t.length ∧ m' = t.length - i ∧ OutE Spn.e 2 0 h o ((List.range i).map (wsp t)) ∧ ts.length = 37 ∧ ts.getD 0 .undef = v ∧ ts.getD 4 .undef = o ∧ ts.getD 5 .undef = I i ∧ mk = []) ?_ _ _ _ _ ⟨0, .nils, Nat.zero_le _, rfl, .inl ⟨rfl, rfl⟩, rfl, rfl, rfl, rfl, rfl⟩
  rintro m' ts h mk ih ⟨i, o, hi, rfl, ho, hl', q0, q4, q5, rfl⟩
  rw [lit_all hl']
  simp only [lit0, litS, Nat.reduceAdd, q0, q4, q5]
  simp (disch := first | assumption | omega | (simp only [az]; done)) only [ru, eq_self, if_true, if_false, BEq.rfl, binI, AO.row?, splice, fillL, mmAll, loadV, storeV, zeros, Am.rowAt, Am.part, addOff, Nat.reduceAdd, Nat.reduceMul, Nat.reduceLeDiff, Nat.reduceSub, Nat.reduceLT, Int.reduceEq, Int.reduceLT, Int.reduceLE, Int.reduceGT, Int.reduceGE, Int.reduceAdd, Int.reduceSub, Int.reduceMul, Int.reduceNeg, Int.reduceToNat, reduceCtorEq, reduceIte, lenV_sl H.i, elem_pt H.i, view_sl H.i, scalar_sl H.i, cells_sl H.i, pure_sl H.i, Int.toNat_natCast]
  by_cases hlt : (i : Int) < t.length
  case pos =>
    have hi' : i < t.length := by omega
    have a := fun st => s32 H (i : Int) st
    have wi := wgt_in hv h1 hi'
    simp only [askR, hv, inR_iff.2 (show (0 : Int) ≤ (i : Int) ∧ (i : Int) ≤ t.length - 1 by omega), if_true, Int.toNat_natCast, btw, h1] at a
    obtain ⟨lo, hlo⟩ : ∃ lo, lo = loV t (rA i) := ⟨_, rfl⟩
    obtain ⟨hh, hhi⟩ : ∃ hh, hh = hiV t (rA i) := ⟨_, rfl⟩
    have ew : wsp t i = ⟨lo, hh⟩ := by rw [hlo, hhi]; rfl
    simp only [← hlo, ← hhi] at a wi
    obtain ⟨x, hx⟩ : ∃ x, x = t.getD i default := ⟨_, rfl⟩
    rw [← hx] at wi
    have wi2 : insB ⟨lo, hh⟩ ⟨x.w.lo, x.w.hi⟩ = true := wi
    obtain ⟨v', J', ha, ho'⟩ := outE_app (pre := []) (J := h ++ [AO.cells [I lo, I hh] false]) (eb := 16) (lim := 0) Spn.el Spn.sc (by omega) (by omega) (by omega) (outS_more ho _) (Nat.zero_le _) (by simp; omega) ⟨lo, hh⟩
    simp only [List.nil_append, Spn.e] at ha
    simp only [List.nil_append] at ho'
    simp (disch := first | assumption | omega | (simp only [az]; done)) only [ru, eq_self, if_true, if_false, BEq.rfl, binI, AO.row?, splice, fillL, mmAll, loadV, storeV, zeros, Am.rowAt, Am.part, addOff, Nat.reduceAdd, Nat.reduceMul, Nat.reduceLeDiff, Nat.reduceSub, Nat.reduceLT, Int.reduceEq, Int.reduceLT, Int.reduceLE, Int.reduceGT, Int.reduceGE, Int.reduceAdd, Int.reduceSub, Int.reduceMul, Int.reduceNeg, Int.reduceToNat, reduceCtorEq, reduceIte, lenV_sl H.i, elem_pt H.i, view_sl H.i, scalar_sl H.i, cells_sl H.i, pure_sl H.i, Int.toNat_natCast, hlt, a, ← hx, s35, wi2, decide_true, decide_false, Bool.not_true, atE, setE, lenE, Nat.le_refl, exOp_litS, AV.pureV.go, AV.pureV, Bool.and_true, ha, bne_self_eq_false]
    exact ih (t.length - (i + 1)) _ _ _ (by omega) ⟨i + 1, v', by omega, rfl, by rw [List.range_succ, List.map_append, List.map_singleton, ew]; exact ho', rfl, rfl, rfl, rfl, rfl⟩
  obtain rfl : i = t.length := by omega
  have vw := outS_view ho (st := st) (k := 6)
  simp (disch := first | assumption | omega | (simp only [az]; done)) only [ru, eq_self, if_true, if_false, BEq.rfl, binI, AO.row?, splice, fillL, mmAll, loadV, storeV, zeros, Am.rowAt, Am.part, addOff, Nat.reduceAdd, Nat.reduceMul, Nat.reduceLeDiff, Nat.reduceSub, Nat.reduceLT, Int.reduceEq, Int.reduceLT, Int.reduceLE, Int.reduceGT, Int.reduceGE, Int.reduceAdd, Int.reduceSub, Int.reduceMul, Int.reduceNeg, Int.reduceToNat, reduceCtorEq, reduceIte, hlt, vw]
  rfl
/-- clearer words: each parting is one of the others, too -/
theorem clr_at {p : Nat} (hp : p < t.length) {q lo hi : Int} (j : Nat) : (clr t p q lo hi).getD j default = if j = p then (if q = 1 then { t.getD p default with s := ⟨lo, hi⟩ } else { t.getD p default with w := ⟨lo, hi⟩ }) else t.getD j default := by
  unfold clr; rw [set_at hp]
theorem clr_of {p : Nat} (hp : p < t.length) {q lo hi : Int} (j : Nat) : ((clr t p q lo hi).getD j default).of = (t.getD j default).of := by
  rw [clr_at hp]; split
  · rename_i e; subst e; split <;> rfl
  · rfl
theorem clr_can {p : Nat} (hp : p < t.length) {q lo hi : Int} (i : Int) : canC (clr t p q lo hi) i = canC t i := by
  unfold clr; exact set_can hp (by split <;> rfl) i
theorem clr_parL {p : Nat} (hp : p < t.length) {q lo hi : Int} (hs : insB ⟨lo, hi⟩ (old t p q) = true) {u : Nat → Int} (h : PartF (clr t p q lo hi) u) : PartF t u := by
  intro i hi'
  have h1 := h i (by rw [clr_len]; exact hi')
  rw [clr_len, pcs_of (clr_of hp)] at h1
  refine ⟨h1.1, ?_⟩
  have h2 := h1.2
  have hs' := insB_iff.1 hs
  unfold wst at h2 ⊢
  rw [clr_can hp, clr_at hp] at h2
  cases hc : canC t i
  · rw [hc] at h2; exact h2
  · rw [hc] at h2
    simp only [if_true] at h2 ⊢
    by_cases e : i = p
    · subst e
      rw [if_pos rfl] at h2
      by_cases hq : q = 1
      · rw [if_pos hq] at h2
        rw [old, if_pos hq] at hs'
        simp only at h2 hs'
        omega
      · rw [if_neg hq] at h2; exact h2
    · rw [if_neg e] at h2; exact h2
theorem clr_w {p : Nat} (hp : p < t.length) {q lo hi : Int} (hs : insB ⟨lo, hi⟩ (old t p q) = true) (j : Nat) : (t.getD j default).w.lo ≤ ((clr t p q lo hi).getD j default).w.lo ∧ ((clr t p q lo hi).getD j default).w.hi ≤ (t.getD j default).w.hi := by
  have hs' := insB_iff.1 hs
  rw [clr_at hp]
  by_cases e : j = p
  · subst e
    rw [if_pos rfl]
    by_cases hq : q = 1
    · rw [if_pos hq]; exact ⟨Int.le_refl _, Int.le_refl _⟩
    · rw [if_neg hq]; rw [old, if_neg hq] at hs'; exact ⟨hs'.1, hs'.2.2⟩
  · rw [if_neg e]; exact ⟨Int.le_refl _, Int.le_refl _⟩
theorem clr_tru {p : Nat} (hp : p < t.length) {q lo hi : Int} (hs : insB ⟨lo, hi⟩ (old t p q) = true) {u : Nat → Int} (h : TruF (clr t p q lo hi) u) : TruF t u := by
  refine ⟨clr_parL hp hs h.1, fun i hi' => ?_⟩
  have h1 := h.2 i (by rw [clr_len]; exact hi')
  have h2 := clr_w hp hs i
  omega
theorem awy_nar {a b : Spn} {x : Int} (h : b.lo ≤ a.lo ∧ a.hi ≤ b.hi) : awy b x ≤ awy a x := by
  unfold awy mx; (repeat' split) <;> omega
theorem clr_chg {p : Nat} (hp : p < t.length) {q lo hi : Int} (hs : insB ⟨lo, hi⟩ (old t p q) = true) {u : Nat → Int} : ∀ {k : Nat}, chg t u k ≤ chg (clr t p q lo hi) u k
  | 0 => Int.le_refl _
  | k + 1 => by
    have h1 := clr_chg hp hs (u := u) (k := k)
    have h2 := awy_nar (x := u k) (clr_w hp hs k)
    simp only [chg]; omega
theorem clr_cha {p : Nat} (hp : p < t.length) {q lo hi : Int} (hs : insB ⟨lo, hi⟩ (old t p q) = true) (T : TW t) (T' : TW (clr t p q lo hi)) (h : 0 ≤ chaN (clr t p q lo hi)) : 0 ≤ chaN t ∧ chaN t ≤ chaN (clr t p q lo hi) := by
  unfold chaN at h ⊢
  cases h' : Lst (clr t p q lo hi) (cD (clr t p q lo hi)) with
  | none => rw [h'] at h; simp at h
  | some m =>
    obtain ⟨u, hu, e⟩ := (LstD T'.toTG).1 m h'
    obtain ⟨x, hx, hle⟩ := (LstD T.toTG).2 _ ⟨u, clr_parL hp hs hu, rfl⟩
    have h2 := clr_chg hp hs (u := u) (k := t.length)
    rw [clr_len] at e
    have r := cD_rng T hx
    rw [hx]; simp only [Option.getD_some]; omega
theorem nar_ask {t' : List Pt} (T : TW t) (T' : TW t') (hl : t'.length = t.length) (h : ∀ u, TruF t' u → TruF t u) (h1 : is1 t' = true) {r : Nat → Int} : is1 t = true ∧ insB ⟨loV t' r, hiV t' r⟩ ⟨loV t r, hiV t r⟩ = true := by
  obtain ⟨⟨u1, a1, b1⟩, c1⟩ := loV_spec (r := r) T'.toTG h1
  obtain ⟨⟨u2, a2, b2⟩, c2⟩ := hiV_spec (r := r) T'.toTG h1
  have i1 : is1 t = true := (is1_iff T.toTG).2 ⟨u1, h u1 a1⟩
  obtain ⟨_, d1⟩ := loV_spec (r := r) T.toTG i1
  obtain ⟨_, d2⟩ := hiV_spec (r := r) T.toTG i1
  refine ⟨i1, insB_iff.2 ?_⟩
  have x1 := d1 u1 (h u1 a1); have x2 := d2 u2 (h u2 a2); have x3 := c1 u2 a2
  rw [hl] at b1 b2 x3
  exact ⟨by show loV t r ≤ loV t' r; omega, by show loV t' r ≤ hiV t' r; omega, by show hiV t' r ≤ hiV t r; omega⟩
theorem clr_rW {p : Nat} (hp : p < t.length) {q lo hi : Int} : rW (clr t p q lo hi) = rW t := by
  funext i; unfold rW; rw [clr_len, clr_of hp]
set_option maxHeartbeats 4000000 in
theorem s5 (H0 : TbIn t v) (n q lo hi : Int) : Iso E 5 [v, .agg [I n, I q, I lo, I hi]] false = some (Bo true) := by
  have g0 := fun st => s16 H0 st
  refine Iso_of (es _ _ _ _) e5 ?_
  simp only [f5]
  cases hv : tval t
  case false => simp (disch := first | assumption | omega | (simp only [az]; done)) only [ru, eq_self, if_true, if_false, BEq.rfl, binI, AO.row?, splice, fillL, mmAll, loadV, storeV, zeros, Am.rowAt, Am.part, addOff, Nat.reduceAdd, Nat.reduceMul, Nat.reduceLeDiff, Nat.reduceSub, Nat.reduceLT, Int.reduceEq, Int.reduceLT, Int.reduceLE, Int.reduceGT, Int.reduceGE, Int.reduceAdd, Int.reduceSub, Int.reduceMul, Int.reduceNeg, Int.reduceToNat, reduceCtorEq, reduceIte, lenV_sl H0.i, elem_pt H0.i, view_sl H0.i, scalar_sl H0.i, cells_sl H0.i, pure_sl H0.i, Int.toNat_natCast, g0, hv, gUn, s18, Bool.false_and]
  have T := tval_W hv
  have n8 := T.n
  have n40 : t.length ≤ 40 := by omega
  have H : TbOk t v := ⟨H0.i, by omega⟩
  have g0 : ∀ st, Iso E 16 [v] st = some (Bo true) := fun st => by rw [g0, hv, decide_eq_true n40]; rfl
  have a1 := fun st => s31 H n st
  cases hp : inR n 0 (t.length - 1)
  · simp (disch := first | assumption | omega | (simp only [az]; done)) only [ru, eq_self, if_true, if_false, BEq.rfl, binI, AO.row?, splice, fillL, mmAll, loadV, storeV, zeros, Am.rowAt, Am.part, addOff, Nat.reduceAdd, Nat.reduceMul, Nat.reduceLeDiff, Nat.reduceSub, Nat.reduceLT, Int.reduceEq, Int.reduceLT, Int.reduceLE, Int.reduceGT, Int.reduceGE, Int.reduceAdd, Int.reduceSub, Int.reduceMul, Int.reduceNeg, Int.reduceToNat, reduceCtorEq, reduceIte, lenV_sl H0.i, elem_pt H0.i, view_sl H0.i, scalar_sl H0.i, cells_sl H0.i, pure_sl H0.i, Int.toNat_natCast, g0, a1, hp, gUn, s18, Bool.not_true]
  have hp' := inR_iff.1 hp
  obtain ⟨p, rfl⟩ : ∃ p : Nat, n = p := ⟨n.toNat, by omega⟩
  have hi' : p < t.length := by omega
  have a2 := s37 H hi' q lo hi
  have k1 := fun hs => clr_cha hi' (q := q) (lo := lo) (hi := hi) hs T
  have k2 := fun hs (h : tval (clr t p q lo hi) = true) => fun h1 {r} => nar_ask T (tval_W h) clr_len (fun u => clr_tru hi' (q := q) (lo := lo) (hi := hi) hs) h1 (r := r)
  have eW : rW (clr t p q lo hi) = rW t := clr_rW hi'
  obtain ⟨o, ho⟩ : ∃ o, o = old t p q := ⟨_, rfl⟩
  rw [← ho] at a2
  simp only [← ho] at k1 k2
  obtain ⟨C, hC⟩ : ∃ C, C = clr t p q lo hi := ⟨_, rfl⟩
  have lC : C.length = t.length := by rw [hC, clr_len]
  simp only [← hC] at a2 k1 k2 eW
  obtain ⟨cv, hcv⟩ : ∃ cv, cv = slV 6 Pt.e C := ⟨_, rfl⟩
  rw [← hcv] at a2
  have HC : TbOk C cv := ⟨by rw [hcv]; exact slV_is, by omega⟩
  have gC : ∀ st, Iso E 16 [cv] st = some (Bo (tval C)) := fun st => by rw [s16 ⟨HC.i⟩, decide_eq_true (show C.length ≤ 40 by omega), Bool.and_true]
  have e1 : ∀ st, Iso E 35 [.agg [I lo, I hi], .agg [I o.lo, I o.hi]] st = some (Bo (insB ⟨lo, hi⟩ o)) := fun st => s35 _ _ _ _ st
  cases hs : insB ⟨lo, hi⟩ o
  · simp (disch := first | assumption | omega | (simp only [az]; done)) only [ru, eq_self, if_true, if_false, BEq.rfl, binI, AO.row?, splice, fillL, mmAll, loadV, storeV, zeros, Am.rowAt, Am.part, addOff, Nat.reduceAdd, Nat.reduceMul, Nat.reduceLeDiff, Nat.reduceSub, Nat.reduceLT, Int.reduceEq, Int.reduceLT, Int.reduceLE, Int.reduceGT, Int.reduceGE, Int.reduceAdd, Int.reduceSub, Int.reduceMul, Int.reduceNeg, Int.reduceToNat, reduceCtorEq, reduceIte, lenV_sl H0.i, elem_pt H0.i, view_sl H0.i, scalar_sl H0.i, cells_sl H0.i, pure_sl H0.i, Int.toNat_natCast, lenV_sl HC.i, elem_pt HC.i, view_sl HC.i, scalar_sl HC.i, cells_sl HC.i, pure_sl HC.i, Int.toNat_natCast, g0, a1, hp, a2, e1, hs, gUn, s18, Bool.not_true, Bool.not_false, atE, setE, lenE, Nat.le_refl]
    done
  cases hc : tval C
  · simp (disch := first | assumption | omega | (simp only [az]; done)) only [ru, eq_self, if_true, if_false, BEq.rfl, binI, AO.row?, splice, fillL, mmAll, loadV, storeV, zeros, Am.rowAt, Am.part, addOff, Nat.reduceAdd, Nat.reduceMul, Nat.reduceLeDiff, Nat.reduceSub, Nat.reduceLT, Int.reduceEq, Int.reduceLT, Int.reduceLE, Int.reduceGT, Int.reduceGE, Int.reduceAdd, Int.reduceSub, Int.reduceMul, Int.reduceNeg, Int.reduceToNat, reduceCtorEq, reduceIte, lenV_sl H0.i, elem_pt H0.i, view_sl H0.i, scalar_sl H0.i, cells_sl H0.i, pure_sl H0.i, Int.toNat_natCast, lenV_sl HC.i, elem_pt HC.i, view_sl HC.i, scalar_sl HC.i, cells_sl HC.i, pure_sl HC.i, Int.toNat_natCast, g0, a1, hp, a2, e1, hs, gC, hc, gUn, s18, Bool.not_true, Bool.not_false, atE, setE, lenE, Nat.le_refl]
    done
  have TC := tval_W hc
  have k1 := k1 hs TC
  have k2 := fun h1 {r} => k2 hs hc h1 (r := r)
  have b1 := fun st => s38 H hv st
  have b2 := fun st => s38 HC hc st
  have b3 := fun st => s34 HC TC st
  obtain ⟨m, hm⟩ : ∃ m, m = chaN t := ⟨_, rfl⟩
  obtain ⟨mc, hmc⟩ : ∃ mc, mc = chaN C := ⟨_, rfl⟩
  simp only [← hm, ← hmc] at k1 b1 b2
  have cnd : (m < 0 ∧ ¬ mc ≥ 0) ∨ (¬ m < 0 ∧ ¬ mc ≥ 0) ∨ (¬ m < 0 ∧ mc ≥ 0 ∧ ¬ mc < m) := by
    by_cases h : 0 ≤ mc
    · have := k1 h; exact .inr (.inr ⟨by omega, h, by omega⟩)
    · by_cases h2 : m < 0
      · exact .inl ⟨h2, h⟩
      · exact .inr (.inl ⟨h2, h⟩)
  cases h1 : is1 C
  · rcases cnd with ⟨d1, d2⟩ | ⟨d1, d2⟩ | ⟨d1, d2, d3⟩
    · simp (disch := first | assumption | omega | (simp only [az]; done)) only [ru, eq_self, if_true, if_false, BEq.rfl, binI, AO.row?, splice, fillL, mmAll, loadV, storeV, zeros, Am.rowAt, Am.part, addOff, Nat.reduceAdd, Nat.reduceMul, Nat.reduceLeDiff, Nat.reduceSub, Nat.reduceLT, Int.reduceEq, Int.reduceLT, Int.reduceLE, Int.reduceGT, Int.reduceGE, Int.reduceAdd, Int.reduceSub, Int.reduceMul, Int.reduceNeg, Int.reduceToNat, reduceCtorEq, reduceIte, lenV_sl H0.i, elem_pt H0.i, view_sl H0.i, scalar_sl H0.i, cells_sl H0.i, pure_sl H0.i, Int.toNat_natCast, lenV_sl HC.i, elem_pt HC.i, view_sl HC.i, scalar_sl HC.i, cells_sl HC.i, pure_sl HC.i, Int.toNat_natCast, g0, a1, hp, a2, e1, hs, gC, hc, b1, b2, b3, h1, d1, d2, gUn, s18, decide_true, decide_false, Bool.not_true, Bool.not_false, atE, setE, lenE, Nat.le_refl]
      done
    · simp (disch := first | assumption | omega | (simp only [az]; done)) only [ru, eq_self, if_true, if_false, BEq.rfl, binI, AO.row?, splice, fillL, mmAll, loadV, storeV, zeros, Am.rowAt, Am.part, addOff, Nat.reduceAdd, Nat.reduceMul, Nat.reduceLeDiff, Nat.reduceSub, Nat.reduceLT, Int.reduceEq, Int.reduceLT, Int.reduceLE, Int.reduceGT, Int.reduceGE, Int.reduceAdd, Int.reduceSub, Int.reduceMul, Int.reduceNeg, Int.reduceToNat, reduceCtorEq, reduceIte, lenV_sl H0.i, elem_pt H0.i, view_sl H0.i, scalar_sl H0.i, cells_sl H0.i, pure_sl H0.i, Int.toNat_natCast, lenV_sl HC.i, elem_pt HC.i, view_sl HC.i, scalar_sl HC.i, cells_sl HC.i, pure_sl HC.i, Int.toNat_natCast, g0, a1, hp, a2, e1, hs, gC, hc, b1, b2, b3, h1, d1, d2, gUn, s18, decide_true, decide_false, Bool.not_true, Bool.not_false, atE, setE, lenE, Nat.le_refl]
      done
    · simp (disch := first | assumption | omega | (simp only [az]; done)) only [ru, eq_self, if_true, if_false, BEq.rfl, binI, AO.row?, splice, fillL, mmAll, loadV, storeV, zeros, Am.rowAt, Am.part, addOff, Nat.reduceAdd, Nat.reduceMul, Nat.reduceLeDiff, Nat.reduceSub, Nat.reduceLT, Int.reduceEq, Int.reduceLT, Int.reduceLE, Int.reduceGT, Int.reduceGE, Int.reduceAdd, Int.reduceSub, Int.reduceMul, Int.reduceNeg, Int.reduceToNat, reduceCtorEq, reduceIte, lenV_sl H0.i, elem_pt H0.i, view_sl H0.i, scalar_sl H0.i, cells_sl H0.i, pure_sl H0.i, Int.toNat_natCast, lenV_sl HC.i, elem_pt HC.i, view_sl HC.i, scalar_sl HC.i, cells_sl HC.i, pure_sl HC.i, Int.toNat_natCast, g0, a1, hp, a2, e1, hs, gC, hc, b1, b2, b3, h1, d1, d2, d3, gUn, s18, decide_true, decide_false, Bool.not_true, Bool.not_false, atE, setE, lenE, Nat.le_refl]
      done
  have k2 := fun {r} => k2 h1 (r := r)
  have i1 : is1 t = true := (k2 (r := rW t)).1
  have b4 := fun st => s19 H hv i1 st
  have b5 := fun st => s19 HC hc h1 st
  have b6 := fun st => s20 H st
  have b7 := fun st => s20 HC st
  have kW := (k2 (r := rW t)).2
  have kA : ∀ i, i < t.length → insB (wsp C i) (wsp t i) = true := fun i hi => (k2 (r := rA i)).2
  simp only [askR, hv, hc, if_true, btw, i1, h1, eW] at b6 b7
  obtain ⟨x1, hx1⟩ : ∃ x, x = loV t (rW t) := ⟨_, rfl⟩
  obtain ⟨x2, hx2⟩ : ∃ x, x = hiV t (rW t) := ⟨_, rfl⟩
  obtain ⟨y1, hy1⟩ : ∃ x, x = loV C (rW t) := ⟨_, rfl⟩
  obtain ⟨y2, hy2⟩ : ∃ x, x = hiV C (rW t) := ⟨_, rfl⟩
  simp only [← hx1, ← hx2, ← hy1, ← hy2] at b6 b7 kW
  obtain ⟨wt, hwt⟩ : ∃ wt, wt = resS (wts t) := ⟨_, rfl⟩
  obtain ⟨wc, hwc⟩ : ∃ wc, wc = resS (wts C) := ⟨_, rfl⟩
  have WT : IsSl 2 Spn.e (wts t) wt := by rw [hwt]; exact resS_is _
  have WC : IsSl 2 Spn.e (wts C) wc := by rw [hwc]; exact resS_is _
  rw [← hwt] at b4
  rw [← hwc] at b5
  rcases cnd with ⟨d1, d2⟩ | ⟨d1, d2⟩ | ⟨d1, d2, d3⟩
  all_goals
    first
    | simp (disch := first | assumption | omega | (simp only [az]; done)) only [ru, eq_self, if_true, if_false, BEq.rfl, binI, AO.row?, splice, fillL, mmAll, loadV, storeV, zeros, Am.rowAt, Am.part, addOff, Nat.reduceAdd, Nat.reduceMul, Nat.reduceLeDiff, Nat.reduceSub, Nat.reduceLT, Int.reduceEq, Int.reduceLT, Int.reduceLE, Int.reduceGT, Int.reduceGE, Int.reduceAdd, Int.reduceSub, Int.reduceMul, Int.reduceNeg, Int.reduceToNat, reduceCtorEq, reduceIte, lenV_sl H0.i, elem_pt H0.i, view_sl H0.i, scalar_sl H0.i, cells_sl H0.i, pure_sl H0.i, Int.toNat_natCast, lenV_sl HC.i, elem_pt HC.i, view_sl HC.i, scalar_sl HC.i, cells_sl HC.i, pure_sl HC.i, Int.toNat_natCast, lenV_sl WT, view_sl WT, scalar_sl WT, cells_sl WT, pure_sl WT, lenV_sl WC, view_sl WC, scalar_sl WC, cells_sl WC, pure_sl WC, g0, a1, hp, a2, e1, hs, gC, hc, b1, b2, b3, h1, d1, d2, d3, b4, b5, b6, b7, s35, kW, gUn, s18, decide_true, decide_false, Bool.not_true, Bool.not_false, atE, setE, lenE, Nat.le_refl, bne_self_eq_false]
    | simp (disch := first | assumption | omega | (simp only [az]; done)) only [ru, eq_self, if_true, if_false, BEq.rfl, binI, AO.row?, splice, fillL, mmAll, loadV, storeV, zeros, Am.rowAt, Am.part, addOff, Nat.reduceAdd, Nat.reduceMul, Nat.reduceLeDiff, Nat.reduceSub, Nat.reduceLT, Int.reduceEq, Int.reduceLT, Int.reduceLE, Int.reduceGT, Int.reduceGE, Int.reduceAdd, Int.reduceSub, Int.reduceMul, Int.reduceNeg, Int.reduceToNat, reduceCtorEq, reduceIte, lenV_sl H0.i, elem_pt H0.i, view_sl H0.i, scalar_sl H0.i, cells_sl H0.i, pure_sl H0.i, Int.toNat_natCast, lenV_sl HC.i, elem_pt HC.i, view_sl HC.i, scalar_sl HC.i, cells_sl HC.i, pure_sl HC.i, Int.toNat_natCast, lenV_sl WT, view_sl WT, scalar_sl WT, cells_sl WT, pure_sl WT, lenV_sl WC, view_sl WC, scalar_sl WC, cells_sl WC, pure_sl WC, g0, a1, hp, a2, e1, hs, gC, hc, b1, b2, b3, h1, d1, d2, b4, b5, b6, b7, s35, kW, gUn, s18, decide_true, decide_false, Bool.not_true, Bool.not_false, atE, setE, lenE, Nat.le_refl, bne_self_eq_false]
    refine G_loop_ind (fun m' ts h mk => ∃ i : Nat, i ≤ t.length ∧ m' = t.length - i ∧ ts.length = 142 ∧ ts.getD 0 .undef = v ∧ ts.getD 11 .undef = wt ∧ ts.getD 13 .undef = wc ∧ ts.getD 19 .undef = I i ∧ mk = []) ?_ _ _ _ _ ⟨0, Nat.zero_le _, rfl, rfl, rfl, rfl, rfl, rfl, rfl⟩
    rintro m' ts h mk ih ⟨i, hi, rfl, hl', q0, q11, q13, q19, rfl⟩
    rw [lit_all hl']
    simp only [lit0, litS, Nat.reduceAdd, q0, q11, q13, q19]
    simp (disch := first | assumption | omega | (simp only [az]; done)) only [ru, eq_self, if_true, if_false, BEq.rfl, binI, AO.row?, splice, fillL, mmAll, loadV, storeV, zeros, Am.rowAt, Am.part, addOff, Nat.reduceAdd, Nat.reduceMul, Nat.reduceLeDiff, Nat.reduceSub, Nat.reduceLT, Int.reduceEq, Int.reduceLT, Int.reduceLE, Int.reduceGT, Int.reduceGE, Int.reduceAdd, Int.reduceSub, Int.reduceMul, Int.reduceNeg, Int.reduceToNat, reduceCtorEq, reduceIte, lenV_sl H.i, elem_pt H.i, view_sl H.i, scalar_sl H.i, cells_sl H.i, pure_sl H.i, Int.toNat_natCast]
    by_cases hlt : (i : Int) < t.length
    case neg => simp (disch := first | assumption | omega | (simp only [az]; done)) only [ru, eq_self, if_true, if_false, BEq.rfl, binI, AO.row?, splice, fillL, mmAll, loadV, storeV, zeros, Am.rowAt, Am.part, addOff, Nat.reduceAdd, Nat.reduceMul, Nat.reduceLeDiff, Nat.reduceSub, Nat.reduceLT, Int.reduceEq, Int.reduceLT, Int.reduceLE, Int.reduceGT, Int.reduceGE, Int.reduceAdd, Int.reduceSub, Int.reduceMul, Int.reduceNeg, Int.reduceToNat, reduceCtorEq, reduceIte, hlt, s18]
    have l1 : (i : Int) < (wts t).length := by rw [wts_len]; exact hlt
    have l2 : (i : Int) < (wts C).length := by rw [wts_len]; omega
    have ka := kA i (by omega)
    rw [← wts_at (t := t) (by omega), ← wts_at (t := C) (by omega)] at ka
    have ka2 : ∀ st, Iso E 35 [.agg [I ((wts C).getD i default).lo, I ((wts C).getD i default).hi], .agg [I ((wts t).getD i default).lo, I ((wts t).getD i default).hi]] st = some (Bo true) := fun st => by rw [s35, ← ka]
    simp (disch := first | assumption | omega | (simp only [az]; done)) only [ru, eq_self, if_true, if_false, BEq.rfl, binI, AO.row?, splice, fillL, mmAll, loadV, storeV, zeros, Am.rowAt, Am.part, addOff, Nat.reduceAdd, Nat.reduceMul, Nat.reduceLeDiff, Nat.reduceSub, Nat.reduceLT, Int.reduceEq, Int.reduceLT, Int.reduceLE, Int.reduceGT, Int.reduceGE, Int.reduceAdd, Int.reduceSub, Int.reduceMul, Int.reduceNeg, Int.reduceToNat, reduceCtorEq, reduceIte, lenV_sl H.i, elem_pt H.i, view_sl H.i, scalar_sl H.i, cells_sl H.i, pure_sl H.i, Int.toNat_natCast, lenV_sl WT, view_sl WT, scalar_sl WT, cells_sl WT, pure_sl WT, lenV_sl WC, view_sl WC, scalar_sl WC, cells_sl WC, pure_sl WC, elem_sp WT, elem_sp WC, hlt, l1, l2, ka2, Int.toNat_natCast, Bool.not_true]
    exact ih (t.length - (i + 1)) _ _ _ (by omega) ⟨i + 1, by omega, rfl, rfl, rfl, rfl, rfl, rfl, rfl⟩
end
end Go.Proofs.Ytkmcbiimlnphmaa.S
