/-
CutsPound: one pound more room.
-/
import Derived.Test.YtkmcbiimlnphmaaYi
namespace Go.Proofs.Ytkmcbiimlnphmaa.S
open Go Go.Am Go.Proofs.Ytkmcbiimlnphmaa.T
set_option maxRecDepth 100000
set_option linter.unusedSimpArgs false
set_option linter.unusedVariables false

section
variable {t : List Pt} {v w : AV} {l : List Int}
theorem clr_par {p : Nat} (hp : p < t.length) {q lo hi : Int} (hq : q ≠ 1) {u : Nat → Int} : PartF (clr t p q lo hi) u ↔ PartF t u := by
  have e : clr t p q lo hi = t.set p { t.getD p default with w := ⟨lo, hi⟩ } := by unfold clr; rw [if_neg hq]
  rw [e]
  refine par_same (a := t.set p { t.getD p default with w := ⟨lo, hi⟩ }) (b := t) List.length_set (set_can hp rfl) fun j => ?_
  rw [set_at hp]; split
  · rename_i e; subst e; exact ⟨rfl, rfl⟩
  · exact ⟨rfl, rfl⟩
theorem chg_clr {p : Nat} (hp : p < t.length) {q lo hi d : Int} (hq : q ≠ 1) {u : Nat → Int} (h : awy ⟨lo, hi⟩ (u p) ≤ awy (t.getD p default).w (u p) ∧ awy (t.getD p default).w (u p) ≤ awy ⟨lo, hi⟩ (u p) + 1) :
    ∀ {k : Nat}, (k ≤ p → chg (clr t p q lo hi) u k = chg t u k) ∧ chg (clr t p q lo hi) u k ≤ chg t u k ∧ chg t u k ≤ chg (clr t p q lo hi) u k + 1
  | 0 => ⟨fun _ => rfl, by simp only [chg]; omega, by simp only [chg]; omega⟩
  | k + 1 => by
    obtain ⟨h1, h2, h3⟩ := chg_clr hp hq h (k := k) (d := d)
    have e : ((clr t p q lo hi).getD k default).w = if k = p then ⟨lo, hi⟩ else (t.getD k default).w := by
      unfold clr; rw [if_neg hq, set_at hp]; split <;> rfl
    simp only [chg, e]
    by_cases ek : k = p
    · subst ek
      rw [if_pos rfl]
      have := h1 (Nat.le_refl _)
      exact ⟨fun h => by omega, by omega, by omega⟩
    · rw [if_neg ek]
      exact ⟨fun h => by rw [h1 (by omega)], by omega, by omega⟩
theorem awy_up {s : Spn} {x : Int} (hs : s.lo ≤ s.hi) : awy ⟨s.lo, s.hi + 1⟩ x ≤ awy s x ∧ awy s x ≤ awy ⟨s.lo, s.hi + 1⟩ x + 1 := by
  unfold awy mx; simp only; (repeat' split) <;> omega
theorem awy_dn {s : Spn} {x : Int} (hs : s.lo ≤ s.hi) : awy ⟨s.lo - 1, s.hi⟩ x ≤ awy s x ∧ awy s x ≤ awy ⟨s.lo - 1, s.hi⟩ x + 1 := by
  unfold awy mx; simp only; (repeat' split) <;> omega
theorem pound_key {t' : List Pt} (T : TW t) (T' : TW t') (hp : ∀ u, PartF t' u ↔ PartF t u) (hc : ∀ u, chg t' u t'.length ≤ chg t u t.length ∧ chg t u t.length ≤ chg t' u t'.length + 1) :
    (chaN t' < 0 ↔ chaN t < 0) ∧ (chaN t' = chaN t ∨ chaN t' = chaN t - 1) := by
  unfold chaN
  have L := LstD T.toTG; have L' := LstD T'.toTG
  cases h : Lst t (cD t) with
  | none =>
    cases h' : Lst t' (cD t') with
    | none => exact ⟨Iff.rfl, .inl rfl⟩
    | some m =>
      obtain ⟨u, hu, _⟩ := L'.1 m h'
      obtain ⟨x, hx, _⟩ := L.2 _ ⟨u, (hp u).1 hu, rfl⟩
      rw [hx] at h; cases h
  | some m =>
    obtain ⟨u, hu, e⟩ := L.1 m h
    obtain ⟨x, hx, hle⟩ := L'.2 _ ⟨u, (hp u).2 hu, rfl⟩
    obtain ⟨u2, hu2, e2⟩ := L'.1 x hx
    obtain ⟨y, hy, hle2⟩ := L.2 _ ⟨u2, (hp u2).1 hu2, rfl⟩
    rw [h] at hy; cases hy
    have h1 := hc u; have h2 := hc u2
    have r := cD_rng T h; have r' := cD_rng T' hx
    rw [hx]
    simp only [Option.getD_some]
    omega
theorem chaN_rng (T : TW t) : -1 ≤ chaN t ∧ chaN t ≤ 240 := by
  unfold chaN
  cases h : Lst t (cD t) with
  | none => simp
  | some m => have := cD_rng T h; simp only [Option.getD_some]; omega
set_option maxHeartbeats 4000000 in
theorem s7 (H0 : TbIn t v) (n : Int) : Iso E 7 [v, I n] false = some (Bo true) := by
  have g0 := fun st => s16 H0 st
  refine Iso_of (es _ _ _ _) e7 ?_
  simp only [f7]
  cases hv : tval t
  case false => simp (disch := first | assumption | omega | (simp only [az]; done)) only [ru, eq_self, if_true, if_false, BEq.rfl, binI, AO.row?, splice, fillL, mmAll, loadV, storeV, zeros, Am.rowAt, Am.part, addOff, Nat.reduceAdd, Nat.reduceMul, Nat.reduceLeDiff, Nat.reduceSub, Nat.reduceLT, Int.reduceEq, Int.reduceLT, Int.reduceLE, Int.reduceGT, Int.reduceGE, Int.reduceAdd, Int.reduceSub, Int.reduceMul, Int.reduceNeg, Int.reduceToNat, reduceCtorEq, reduceIte, lenV_sl H0.i, elem_pt H0.i, view_sl H0.i, scalar_sl H0.i, cells_sl H0.i, pure_sl H0.i, Int.toNat_natCast, g0, hv, gUn, s18, Bool.false_and]
  have T := tval_W hv
  have n8 := T.n
  have n40 : t.length ≤ 40 := by omega
  have H : TbOk t v := ⟨H0.i, by omega⟩
  have g0 : ∀ st, Iso E 16 [v] st = some (Bo true) := fun st => by rw [g0, hv, decide_eq_true n40]; rfl
  have a1 := fun st => s31 H n st
  cases hp : inR n 0 (t.length - 1)
  · simp (disch := first | assumption | omega | (simp only [az]; done)) only [ru, eq_self, if_true, if_false, BEq.rfl, binI, AO.row?, splice, fillL, mmAll, loadV, storeV, zeros, Am.rowAt, Am.part, addOff, Nat.reduceAdd, Nat.reduceMul, Nat.reduceLeDiff, Nat.reduceSub, Nat.reduceLT, Int.reduceEq, Int.reduceLT, Int.reduceLE, Int.reduceGT, Int.reduceGE, Int.reduceAdd, Int.reduceSub, Int.reduceMul, Int.reduceNeg, Int.reduceToNat, reduceCtorEq, reduceIte, lenV_sl H0.i, elem_pt H0.i, view_sl H0.i, scalar_sl H0.i, cells_sl H0.i, pure_sl H0.i, Int.toNat_natCast, g0, a1, hp, gUn, s18, Bool.not_true]
  have hp' := inR_iff.1 hp
  obtain ⟨p, rfl⟩ : ∃ p : Nat, n = p := ⟨n.toNat, by omega⟩
  have hi : p < t.length := by omega
  have hlt : (p : Int) < t.length := by omega
  have a2 := fun st => s38 H hv st
  have a3 := fun lo hh => s37 H hi 0 lo hh
  have od : old t p 0 = (t.getD p default).w := rfl
  simp only [od] at a3
  have xw := T.w p hi
  have kA : ∀ t', t' = clr t p 0 (t.getD p default).w.lo ((t.getD p default).w.hi + 1) → tval t' = true → (chaN t' < 0 ↔ chaN t < 0) ∧ (chaN t' = chaN t ∨ chaN t' = chaN t - 1) := fun t' e h => by
    subst e
    exact pound_key T (tval_W h) (fun u => clr_par hi (by decide)) fun u => by rw [clr_len]; exact (chg_clr (d := 0) hi (by decide) (awy_up xw.2.1)).2
  have kB : ∀ t', t' = clr t p 0 ((t.getD p default).w.lo - 1) (t.getD p default).w.hi → tval t' = true → (chaN t' < 0 ↔ chaN t < 0) ∧ (chaN t' = chaN t ∨ chaN t' = chaN t - 1) := fun t' e h => by
    subst e
    exact pound_key T (tval_W h) (fun u => clr_par hi (by decide)) fun u => by rw [clr_len]; exact (chg_clr (d := 0) hi (by decide) (awy_dn xw.2.1)).2
  obtain ⟨x, hx⟩ : ∃ x, x = t.getD p default := ⟨_, rfl⟩
  rw [← hx] at xw
  simp only [← hx] at a3 kA kB
  obtain ⟨TA, hTA⟩ : ∃ TA, TA = clr t p 0 x.w.lo (x.w.hi + 1) := ⟨_, rfl⟩
  obtain ⟨TB, hTB⟩ : ∃ TB, TB = clr t p 0 (x.w.lo - 1) x.w.hi := ⟨_, rfl⟩
  have lA : TA.length ≤ 40 := by rw [hTA, clr_len]; omega
  have lB : TB.length ≤ 40 := by rw [hTB, clr_len]; omega
  have aA := a3 x.w.lo (x.w.hi + 1)
  have aB := a3 (x.w.lo - 1) x.w.hi
  rw [← hTA] at aA
  rw [← hTB] at aB
  have kA := kA TA hTA
  have kB := kB TB hTB
  obtain ⟨va, hva⟩ : ∃ va, va = slV 6 Pt.e TA := ⟨_, rfl⟩
  obtain ⟨vb, hvb⟩ : ∃ vb, vb = slV 6 Pt.e TB := ⟨_, rfl⟩
  have VA : TbOk TA va := ⟨by rw [hva]; exact slV_is, by omega⟩
  have VB : TbOk TB vb := ⟨by rw [hvb]; exact slV_is, by omega⟩
  rw [← hva] at aA
  rw [← hvb] at aB
  have gA : ∀ st, Iso E 16 [va] st = some (Bo (tval TA)) := fun st => by rw [s16 ⟨VA.i⟩, decide_eq_true lA, Bool.and_true]
  have gB : ∀ st, Iso E 16 [vb] st = some (Bo (tval TB)) := fun st => by rw [s16 ⟨VB.i⟩, decide_eq_true lB, Bool.and_true]
  have cA := fun h st => s38 VA h st
  have cB := fun h st => s38 VB h st
  obtain ⟨m, hm⟩ : ∃ m, m = chaN t := ⟨_, rfl⟩
  obtain ⟨ma, hma⟩ : ∃ ma, ma = chaN TA := ⟨_, rfl⟩
  obtain ⟨mb, hmb⟩ : ∃ mb, mb = chaN TB := ⟨_, rfl⟩
  have mr := chaN_rng T
  simp only [← hm] at a2 mr kA kB
  simp only [← hma] at cA kA
  simp only [← hmb] at cB kB
  clear a3
  simp (disch := first | assumption | omega | (simp only [az]; done)) only [ru, eq_self, if_true, if_false, BEq.rfl, binI, AO.row?, splice, fillL, mmAll, loadV, storeV, zeros, Am.rowAt, Am.part, addOff, Nat.reduceAdd, Nat.reduceMul, Nat.reduceLeDiff, Nat.reduceSub, Nat.reduceLT, Int.reduceEq, Int.reduceLT, Int.reduceLE, Int.reduceGT, Int.reduceGE, Int.reduceAdd, Int.reduceSub, Int.reduceMul, Int.reduceNeg, Int.reduceToNat, reduceCtorEq, reduceIte, lenV_sl H0.i, elem_pt H0.i, view_sl H0.i, scalar_sl H0.i, cells_sl H0.i, pure_sl H0.i, Int.toNat_natCast, lenV_sl VA.i, elem_pt VA.i, view_sl VA.i, scalar_sl VA.i, cells_sl VA.i, pure_sl VA.i, Int.toNat_natCast, lenV_sl VB.i, elem_pt VB.i, view_sl VB.i, scalar_sl VB.i, cells_sl VB.i, pure_sl VB.i, Int.toNat_natCast, g0, a1, hp, a2, hlt, ← hx, aA, aB, gA, gUn, s18, Bool.not_true, atE, setE, lenE, Nat.le_refl]
  refine GC_join (fun ts h mk => mk = [] ∧ ts.length = 119 ∧ ts.getD 6 .undef = I m ∧ ts.getD 10 .undef = vb) (fun hg => ?_) (fun hg => ?_) ?_
  · have k := kA hg
    have c := fun st => cA hg st
    by_cases e : ma = m
    · subst e
      by_cases n0 : ma < 0
      · simp (disch := first | assumption | omega | (simp only [az]; done)) only [ru, eq_self, if_true, if_false, BEq.rfl, binI, AO.row?, splice, fillL, mmAll, loadV, storeV, zeros, Am.rowAt, Am.part, addOff, Nat.reduceAdd, Nat.reduceMul, Nat.reduceLeDiff, Nat.reduceSub, Nat.reduceLT, Int.reduceEq, Int.reduceLT, Int.reduceLE, Int.reduceGT, Int.reduceGE, Int.reduceAdd, Int.reduceSub, Int.reduceMul, Int.reduceNeg, Int.reduceToNat, reduceCtorEq, reduceIte, lenV_sl VA.i, elem_pt VA.i, view_sl VA.i, scalar_sl VA.i, cells_sl VA.i, pure_sl VA.i, Int.toNat_natCast, c, n0, gUn, decide_true, decide_false, Bool.not_true, bne_self_eq_false, G_skip_nil]
      · simp (disch := first | assumption | omega | (simp only [az]; done)) only [ru, eq_self, if_true, if_false, BEq.rfl, binI, AO.row?, splice, fillL, mmAll, loadV, storeV, zeros, Am.rowAt, Am.part, addOff, Nat.reduceAdd, Nat.reduceMul, Nat.reduceLeDiff, Nat.reduceSub, Nat.reduceLT, Int.reduceEq, Int.reduceLT, Int.reduceLE, Int.reduceGT, Int.reduceGE, Int.reduceAdd, Int.reduceSub, Int.reduceMul, Int.reduceNeg, Int.reduceToNat, reduceCtorEq, reduceIte, lenV_sl VA.i, elem_pt VA.i, view_sl VA.i, scalar_sl VA.i, cells_sl VA.i, pure_sl VA.i, Int.toNat_natCast, c, n0, gUn, decide_true, decide_false, Bool.not_true, bne_self_eq_false, G_skip_nil]
    · obtain rfl : ma = m - 1 := k.2.resolve_left e
      have k1 := k.1
      have m0 := mr.1
      have m1 := (chaN_rng (tval_W hg)).1
      rw [← hma] at m1
      have n0 : ¬ m < 0 := fun h => by omega
      have n1 : ¬ m - 1 < 0 := fun h => n0 (k1.1 h)
      simp (disch := first | assumption | omega | (simp only [az]; done)) only [ru, eq_self, if_true, if_false, BEq.rfl, binI, AO.row?, splice, fillL, mmAll, loadV, storeV, zeros, Am.rowAt, Am.part, addOff, Nat.reduceAdd, Nat.reduceMul, Nat.reduceLeDiff, Nat.reduceSub, Nat.reduceLT, Int.reduceEq, Int.reduceLT, Int.reduceLE, Int.reduceGT, Int.reduceGE, Int.reduceAdd, Int.reduceSub, Int.reduceMul, Int.reduceNeg, Int.reduceToNat, reduceCtorEq, reduceIte, lenV_sl VA.i, elem_pt VA.i, view_sl VA.i, scalar_sl VA.i, cells_sl VA.i, pure_sl VA.i, Int.toNat_natCast, c, e, n0, n1, gUn, decide_true, decide_false, Bool.not_true, bne_self_eq_false, G_skip_nil]
  · simp (disch := first | assumption | omega | (simp only [az]; done)) only [ru, eq_self, if_true, if_false, BEq.rfl, binI, AO.row?, splice, fillL, mmAll, loadV, storeV, zeros, Am.rowAt, Am.part, addOff, Nat.reduceAdd, Nat.reduceMul, Nat.reduceLeDiff, Nat.reduceSub, Nat.reduceLT, Int.reduceEq, Int.reduceLT, Int.reduceLE, Int.reduceGT, Int.reduceGE, Int.reduceAdd, Int.reduceSub, Int.reduceMul, Int.reduceNeg, Int.reduceToNat, reduceCtorEq, reduceIte, G_skip_nil]
  rintro ts h mk ⟨rfl, tl, q6, q10⟩
  rw [lit_all tl]
  simp only [lit0, litS, Nat.reduceAdd, q6, q10]
  simp (disch := first | assumption | omega | (simp only [az]; done)) only [ru, eq_self, if_true, if_false, BEq.rfl, binI, AO.row?, splice, fillL, mmAll, loadV, storeV, zeros, Am.rowAt, Am.part, addOff, Nat.reduceAdd, Nat.reduceMul, Nat.reduceLeDiff, Nat.reduceSub, Nat.reduceLT, Int.reduceEq, Int.reduceLT, Int.reduceLE, Int.reduceGT, Int.reduceGE, Int.reduceAdd, Int.reduceSub, Int.reduceMul, Int.reduceNeg, Int.reduceToNat, reduceCtorEq, reduceIte, lenV_sl VB.i, elem_pt VB.i, view_sl VB.i, scalar_sl VB.i, cells_sl VB.i, pure_sl VB.i, Int.toNat_natCast, gB]
  refine GC_join (fun ts h mk => mk = [] ∧ ts.length = 119) (fun hg => ?_) (fun hg => ?_) ?_
  · have k := kB hg
    have c := fun st => cB hg st
    by_cases e : mb = m
    · subst e
      by_cases n0 : mb < 0
      · simp (disch := first | assumption | omega | (simp only [az]; done)) only [ru, eq_self, if_true, if_false, BEq.rfl, binI, AO.row?, splice, fillL, mmAll, loadV, storeV, zeros, Am.rowAt, Am.part, addOff, Nat.reduceAdd, Nat.reduceMul, Nat.reduceLeDiff, Nat.reduceSub, Nat.reduceLT, Int.reduceEq, Int.reduceLT, Int.reduceLE, Int.reduceGT, Int.reduceGE, Int.reduceAdd, Int.reduceSub, Int.reduceMul, Int.reduceNeg, Int.reduceToNat, reduceCtorEq, reduceIte, lenV_sl VB.i, elem_pt VB.i, view_sl VB.i, scalar_sl VB.i, cells_sl VB.i, pure_sl VB.i, Int.toNat_natCast, c, n0, gUn, decide_true, decide_false, Bool.not_true, bne_self_eq_false, G_skip_nil]
      · simp (disch := first | assumption | omega | (simp only [az]; done)) only [ru, eq_self, if_true, if_false, BEq.rfl, binI, AO.row?, splice, fillL, mmAll, loadV, storeV, zeros, Am.rowAt, Am.part, addOff, Nat.reduceAdd, Nat.reduceMul, Nat.reduceLeDiff, Nat.reduceSub, Nat.reduceLT, Int.reduceEq, Int.reduceLT, Int.reduceLE, Int.reduceGT, Int.reduceGE, Int.reduceAdd, Int.reduceSub, Int.reduceMul, Int.reduceNeg, Int.reduceToNat, reduceCtorEq, reduceIte, lenV_sl VB.i, elem_pt VB.i, view_sl VB.i, scalar_sl VB.i, cells_sl VB.i, pure_sl VB.i, Int.toNat_natCast, c, n0, gUn, decide_true, decide_false, Bool.not_true, bne_self_eq_false, G_skip_nil]
    · obtain rfl : mb = m - 1 := k.2.resolve_left e
      have k1 := k.1
      have m0 := mr.1
      have m1 := (chaN_rng (tval_W hg)).1
      rw [← hmb] at m1
      have n0 : ¬ m < 0 := fun h => by omega
      have n1 : ¬ m - 1 < 0 := fun h => n0 (k1.1 h)
      simp (disch := first | assumption | omega | (simp only [az]; done)) only [ru, eq_self, if_true, if_false, BEq.rfl, binI, AO.row?, splice, fillL, mmAll, loadV, storeV, zeros, Am.rowAt, Am.part, addOff, Nat.reduceAdd, Nat.reduceMul, Nat.reduceLeDiff, Nat.reduceSub, Nat.reduceLT, Int.reduceEq, Int.reduceLT, Int.reduceLE, Int.reduceGT, Int.reduceGE, Int.reduceAdd, Int.reduceSub, Int.reduceMul, Int.reduceNeg, Int.reduceToNat, reduceCtorEq, reduceIte, lenV_sl VB.i, elem_pt VB.i, view_sl VB.i, scalar_sl VB.i, cells_sl VB.i, pure_sl VB.i, Int.toNat_natCast, c, e, n0, n1, gUn, decide_true, decide_false, Bool.not_true, bne_self_eq_false, G_skip_nil]
  · simp (disch := first | assumption | omega | (simp only [az]; done)) only [ru, eq_self, if_true, if_false, BEq.rfl, binI, AO.row?, splice, fillL, mmAll, loadV, storeV, zeros, Am.rowAt, Am.part, addOff, Nat.reduceAdd, Nat.reduceMul, Nat.reduceLeDiff, Nat.reduceSub, Nat.reduceLT, Int.reduceEq, Int.reduceLT, Int.reduceLE, Int.reduceGT, Int.reduceGE, Int.reduceAdd, Int.reduceSub, Int.reduceMul, Int.reduceNeg, Int.reduceToNat, reduceCtorEq, reduceIte, G_skip_nil]
  rintro ts h mk ⟨rfl, tl⟩
  rw [lit_all tl]
  simp only [lit0, litS, Nat.reduceAdd, List.length_nil]
  simp (disch := first | assumption | omega | (simp only [az]; done)) only [ru, eq_self, if_true, if_false, BEq.rfl, binI, AO.row?, splice, fillL, mmAll, loadV, storeV, zeros, Am.rowAt, Am.part, addOff, Nat.reduceAdd, Nat.reduceMul, Nat.reduceLeDiff, Nat.reduceSub, Nat.reduceLT, Int.reduceEq, Int.reduceLT, Int.reduceLE, Int.reduceGT, Int.reduceGE, Int.reduceAdd, Int.reduceSub, Int.reduceMul, Int.reduceNeg, Int.reduceToNat, reduceCtorEq, reduceIte, s18]
end
end Go.Proofs.Ytkmcbiimlnphmaa.S
