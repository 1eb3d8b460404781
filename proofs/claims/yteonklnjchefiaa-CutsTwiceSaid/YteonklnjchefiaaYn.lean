/-
What each weight may be.
-/
import Derived.Test.YteonklnjchefiaaYh
namespace Go.Proofs.Yteonklnjchefiaa.S
open Go Go.Am Go.Proofs.Yteonklnjchefiaa.T
set_option maxRecDepth 100000
set_option linter.unusedSimpArgs false
set_option linter.unusedVariables false

def Spn.e (s : Spn) : List AV := [I s.lo, I s.hi]
theorem Spn.el (s : Spn) : s.e.length = 2 := rfl
theorem Spn.sc (s : Spn) : s.e.all AV.scalar = true := rfl
theorem elem_sp {l : List Spn} {v : AV} (h : IsSl 2 Spn.e l v) : ∀ i : Int, 0 ≤ i → i < l.length → elemAt 2 v (I i) = some (.cptr [I (l.getD i.toNat default).lo, I (l.getD i.toNat default).hi]) := elem_sl Spn.el h
def resS (l : List Spn) : AV := if l = [] then .nils else slV 2 Spn.e l
theorem resS_is (l : List Spn) : IsSl 2 Spn.e l (resS l) := by
  unfold resS; split
  · exact .inr ⟨rfl, by assumption⟩
  · exact .inl rfl
theorem outS_view {b : Nat} {h : List AO} {v : AV} {l : List Spn} (H : OutE Spn.e 2 b h v l) {st : Bool} {k : Nat} : Am.view st h (k + 1) v = some (resS l) := by
  by_cases hne : l = []
  · subst hne
    rcases H with ⟨_, rfl⟩ | ⟨h, _⟩
    · rfl
    · exact absurd rfl h
  · rw [outE_view Spn.el H hne fun a => by simp only [Spn.e, List.mapM_cons, List.mapM_nil, view_int, Option.bind_eq_bind, Option.pure_def, Option.bind_some], resS, if_neg hne]
theorem outS_len {b : Nat} {h : List AO} {v : AV} {l : List Spn} (H : OutE Spn.e 2 b h v l) : lenV v = some (I l.length) := by
  rcases H with ⟨rfl, rfl⟩ | ⟨_, o, _, rfl, _⟩ <;> rfl
theorem outS_more {b : Nat} {h : List AO} {v : AV} {l : List Spn} (H : OutE Spn.e 2 b h v l) (X : AO) : OutE Spn.e 2 b (h ++ [X]) v l := by
  rcases H with h1 | ⟨h1, o, h2, h3, h4⟩
  · exact .inl h1
  · exact .inr ⟨h1, o, h2, h3, Fr.at (Fr.app _ _) h4⟩
section
variable {t : List Pt} {v w : AV} {l : List Int}
/-- what each weight may be -/
def wsp (t : List Pt) (i : Nat) : Spn := ⟨loV t (rA i), hiV t (rA i)⟩
def wts (t : List Pt) : List Spn := (List.range t.length).map (wsp t)
theorem wts_len : (wts t).length = t.length := by simp [wts]
theorem wts_at {i : Nat} (h : i < t.length) : (wts t).getD i default = wsp t i := by
  simp [wts, List.getD_eq_getElem?_getD, h]
set_option maxHeartbeats 1000000 in
theorem s19 (H : TbOk t v) (hv : tval t = true) (h1 : is1 t = true) (st : Bool) : Iso E 19 [v] st = some (.tup [resS (wts t), Bo true]) := by
  have n8 := (tval_W hv).n
  refine Iso_of (es _ _ _ _) e19 ?_
  simp only [f19]
  simp (disch := first | assumption | omega | (simp only [az]; done)) only [ru, eq_self, if_true, if_false, BEq.rfl, binI, AO.row?, splice, fillL, mmAll, loadV, storeV, zeros, Am.rowAt, Am.part, addOff, Nat.reduceAdd, Nat.reduceMul, Nat.reduceLeDiff, Nat.reduceSub, Nat.reduceLT, Int.reduceEq, Int.reduceLT, Int.reduceLE, Int.reduceGT, Int.reduceGE, Int.reduceAdd, Int.reduceSub, Int.reduceMul, Int.reduceNeg, Int.reduceToNat, reduceCtorEq, reduceIte]
  refine G_loop_ind (fun m' ts h mk => ∃ (i : Nat) (o : AV), i ≤ t.length ∧ m' = t.length - i ∧ OutE Spn.e 2 0 h o ((List.range i).map (wsp t)) ∧ ts.length = 37 ∧ ts.getD 0 .undef = v ∧ ts.getD 4 .undef = o ∧ ts.getD 5 .undef = I i ∧ mk = []) ?_ _ _ _ _ ⟨0, .nils, Nat.zero_le _, rfl, .inl ⟨rfl, rfl⟩, rfl, rfl, rfl, rfl, rfl⟩
  rintro m' ts h mk ih ⟨i, o, hi, rfl, ho, hl', q0, q4, q5, rfl⟩
  rw [lit_all hl']
  simp only [lit0, litS, Nat.reduceAdd, q0, q4, q5]
  simp (disch := first | assumption | omega | (simp only [az]; done)) only [ru, eq_self, if_true, if_false, BEq.rfl, binI, AO.row?, splice, fillL, mmAll, loadV, storeV, zeros, Am.rowAt, Am.part, addOff, Nat.reduceAdd, Nat.reduceMul, Nat.reduceLeDiff, Nat.reduceSub, Nat.reduceLT, Int.reduceEq, Int.reduceLT, Int.reduceLE, Int.reduceGT, Int.reduceGE, Int.reduceAdd, Int.reduceSub, Int.reduceMul, Int.reduceNeg, Int.reduceToNat, reduceCtorEq, reduceIte, lenV_sl H.i, elem_pt H.i, view_sl H.i, scalar_sl H.i, cells_sl H.i, pure_sl H.i, Int.toNat_natCast]
  by_cases hlt : (i : Int) < t.length
  case pos =>
    have hi' : i < t.length := by omega
    have a := fun st => s32 H (i : Int) st
    have wi := wgt_in hv h1 hi'
    simp only [askR, hv, inR_iff.2 (show (0 : Int) ≤ (i : Int) ∧ (i : Int) ≤ t.length - 1 by omega), if_true, Int.toNat_natCast, btw, h1] at a
    obtain ⟨lo, hlo⟩ : ∃ lo, lo = loV t (rA i) := ⟨_, rfl⟩
    obtain ⟨hh, hhi⟩ : ∃ hh, hh = hiV t (rA i) := ⟨_, rfl⟩
    have ew : wsp t i = ⟨lo, hh⟩ := by rw [hlo, hhi]; rfl
    simp only [← hlo, ← hhi] at a wi
    obtain ⟨x, hx⟩ : ∃ x, x = t.getD i default := ⟨_, rfl⟩
    rw [← hx] at wi
    have wi2 : insB ⟨lo, hh⟩ ⟨x.w.lo, x.w.hi⟩ = true := wi
    obtain ⟨v', J', ha, ho'⟩ := outE_app (pre := []) (J := h ++ [AO.cells [I lo, I hh] false]) (eb := 16) (lim := 0) Spn.el Spn.sc (by omega) (by omega) (by omega) (outS_more ho _) (Nat.zero_le _) (by simp; omega) ⟨lo, hh⟩
    simp only [List.nil_append, Spn.e] at ha
    simp only [List.nil_append] at ho'
    simp (disch := first | assumption | omega | (simp only [az]; done)) only [ru, eq_self, if_true, if_false, BEq.rfl, binI, AO.row?, splice, fillL, mmAll, loadV, storeV, zeros, Am.rowAt, Am.part, addOff, Nat.reduceAdd, Nat.reduceMul, Nat.reduceLeDiff, Nat.reduceSub, Nat.reduceLT, Int.reduceEq, Int.reduceLT, Int.reduceLE, Int.reduceGT, Int.reduceGE, Int.reduceAdd, Int.reduceSub, Int.reduceMul, Int.reduceNeg, Int.reduceToNat, reduceCtorEq, reduceIte, lenV_sl H.i, elem_pt H.i, view_sl H.i, scalar_sl H.i, cells_sl H.i, pure_sl H.i, Int.toNat_natCast, hlt, a, ← hx, s35, wi2, decide_true, decide_false, Bool.not_true, atE, setE, lenE, Nat.le_refl, exOp_litS, AV.pureV.go, AV.pureV, Bool.and_true, ha, bne_self_eq_false]
    exact ih (t.length - (i + 1)) _ _ _ (by omega) ⟨i + 1, v', by omega, rfl, by rw [List.range_succ, List.map_append, List.map_singleton, ew]; exact ho', rfl, rfl, rfl, rfl, rfl⟩
  obtain rfl : i = t.length := by omega
  have vw := outS_view ho (st := st) (k := 6)
  simp (disch := first | assumption | omega | (simp only [az]; done)) only [ru, eq_self, if_true, if_false, BEq.rfl, binI, AO.row?, splice, fillL, mmAll, loadV, storeV, zeros, Am.rowAt, Am.part, addOff, Nat.reduceAdd, Nat.reduceMul, Nat.reduceLeDiff, Nat.reduceSub, Nat.reduceLT, Int.reduceEq, Int.reduceLT, Int.reduceLE, Int.reduceGT, Int.reduceGE, Int.reduceAdd, Int.reduceSub, Int.reduceMul, Int.reduceNeg, Int.reduceToNat, reduceCtorEq, reduceIte, hlt, vw]
  rfl
end
end Go.Proofs.Yteonklnjchefiaa.S

