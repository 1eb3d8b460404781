/-
The roughest and the calmest truth of a net, as the program lays them.
-/
import Derived.Test.YtpflneddfhifkaaSy
namespace Go.Proofs.Ytpflneddfhifkaa.S
open Go Go.Am Go.Proofs.Ytpflneddfhifkaa.T
set_option maxRecDepth 100000
set_option linter.unusedSimpArgs false
set_option linter.unusedVariables false



theorem GO_mcallv {X : Cx} {base : Nat} {k : List KF} {ts : List AV} {h : List AO} {mk : List Nat} {r : List AOper} {d : Option Nat} {f : Opd} {args : List Opd} {m : List Nat} :
    GO X base (⟨d, .callv true f args, none, none, m⟩ :: r) k ts h mk = GP X base (match Opd.ev ts f with | .fn g a b => Ro X.E g (a ++ args.map (Opd.ev ts) ++ b) (hide base m h) | _ => none) d r k ts h mk := GO_maskR (by
  rw [exOp_callv1]
  cases Opd.ev ts f <;> rfl)
/-- an append in a region of open order, to a slice of its own -/
noncomputable def appS (lim p : Nat) (h : List AO) (s x : AV) : Option (AV × List AO) := exOp (fun _ _ _ _ => none) lim (some p) (fun o => match o with | .t 0 => s | _ => x) h (.append false 1 8 (.t 0) (.t 1))
theorem exOp_sapp {call : Am.Callee} {lim p : Nat} {ρ : Opd → AV} {h : List AO} {a x : Opd} : exOp call lim (some p) ρ h (.append false 1 8 a x) = appS lim p h (ρ a) (ρ x) := id rfl
theorem appS_nil {lim p : Nat} {h : List AO} {y : Int} : appS lim p h .nils (.cs 1 1 [I y]) = some (.ms 1 p 0 1, h.set p (.cells [I y] false)) := by
  simp [appS, exOp, lenOf, rowOf, newAt, AV.scalar]
theorem appS_ms {lim p : Nat} {h : List AO} {y : Int} {o len : Nat} : appS lim p h (.ms 1 o 0 len) (.cs 1 1 [I y]) = (match h[o]? with
    | some (.cells c sh) => if (len + 1) * 8 ≤ 1099511627776 ∧ lim ≤ o ∧ (len = c.length ∨ (sh = false ∧ len ≤ c.length)) then some (.ms 1 p 0 (len + 1), (h.set o .tomb).set p (.cells (c.take len ++ [I y]) sh)) else none
    | _ => none) := by
  simp only [appS, exOp, lenOf, rowOf, newObj', AV.scalar, List.length_singleton, Nat.reduceMul, if_true, Nat.mul_one, Option.getD_some, List.all_cons, List.all_nil, Bool.and_true]
  by_cases h1 : (len + 1) * 8 ≤ 1099511627776
  · cases h2 : h[o]? with
    | none => simp [h1, h2]
    | some x => cases x <;> simp [h1, h2]
  · cases h2 : h[o]? with
    | none => simp [h1, h2]
    | some x => cases x <;> simp [h1, h2]

theorem r116 (s : Spn) (h : List AO) : Ro E 116 [.agg [I s.lo, I s.hi]] h = some (I s.lo) := by
  refine Ro_of (es _ _ _ _) e116 ?_
  simp only [f116]
  simp (disch := first | assumption | omega | (simp only [az]; done)) only [ru, eq_self, if_true, if_false, BEq.rfl, binI, AO.row?, splice, fillL, mmAll, loadV, storeV, zeros, Am.rowAt, Am.part, addOff, Nat.reduceAdd, Nat.reduceMul, Nat.reduceLeDiff, Nat.reduceSub, Nat.reduceLT, Int.reduceEq, Int.reduceLT, Int.reduceLE, Int.reduceGT, Int.reduceGE, Int.reduceAdd, Int.reduceSub, Int.reduceMul, Int.reduceNeg, Int.reduceToNat, reduceCtorEq, reduceIte]
  simp [AV.under]
theorem r117 (s : Spn) (h : List AO) : Ro E 117 [.agg [I s.lo, I s.hi]] h = some (I s.hi) := by
  refine Ro_of (es _ _ _ _) e117 ?_
  simp only [f117]
  simp (disch := first | assumption | omega | (simp only [az]; done)) only [ru, eq_self, if_true, if_false, BEq.rfl, binI, AO.row?, splice, fillL, mmAll, loadV, storeV, zeros, Am.rowAt, Am.part, addOff, Nat.reduceAdd, Nat.reduceMul, Nat.reduceLeDiff, Nat.reduceSub, Nat.reduceLT, Int.reduceEq, Int.reduceLT, Int.reduceLE, Int.reduceGT, Int.reduceGE, Int.reduceAdd, Int.reduceSub, Int.reduceMul, Int.reduceNeg, Int.reduceToNat, reduceCtorEq, reduceIte]
  simp [AV.under]

def rough (n : Net) : Tru := ⟨n.wind.hi, n.cur.hi, n.grips.map Spn.lo⟩
def calm (n : Net) : Tru := ⟨n.wind.lo, n.cur.lo, n.grips.map Spn.hi⟩

theorem s115r {n : Net} {g a w : AV} (H : NetOk n g a w) (hl : n.grips.length ≤ 3) : Iso E 115 [netV n g a w, .fn 117 [] [], .fn 116 [] []] false =
    some (.agg [I n.wind.lo, I n.wind.hi, I n.cur.lo, I n.cur.hi, g, a, w, I n.wind.hi, I n.cur.hi, resL (n.grips.map Spn.lo)]) := by
  refine Iso_of (es _ _ _ _) e115 ?_
  have w0 := r117 n.wind
  have w1 := r117 n.cur
  obtain ⟨L, hL⟩ : ∃ L, L = n.grips := ⟨_, rfl⟩
  rw [← hL] at hl ⊢
  simp only [f115, netV]
  match L, hl with
  | [], _ =>
    have e : (n.grips.length : Int) = 0 := by rw [← hL]; rfl
    simp (disch := first | assumption | omega | (simp only [az]; done)) only [ru, eq_self, if_true, if_false, BEq.rfl, binI, AO.row?, splice, fillL, mmAll, loadV, storeV, zeros, Am.rowAt, Am.part, addOff, Nat.reduceAdd, Nat.reduceMul, Nat.reduceLeDiff, Nat.reduceSub, Nat.reduceLT, Int.reduceEq, Int.reduceLT, Int.reduceLE, Int.reduceGT, Int.reduceGE, Int.reduceAdd, Int.reduceSub, Int.reduceMul, Int.reduceNeg, Int.reduceToNat, reduceCtorEq, reduceIte, GO_mcallv, lenV_sl H.g, lenV_sl H.a, lenV_sl H.w, elem_sl Spn.el H.g, elem_sl Anc.el H.a, elem_sl Wal.el H.w, view_sl H.g, view_sl H.a, view_sl H.w, scalar_sl H.g, scalar_sl H.a, scalar_sl H.w, cells_sl H.g, cells_sl H.a, cells_sl H.w, pure_sl H.g, pure_sl H.a, pure_sl H.w, Spn.e, Anc.e, Wal.e, Spn.eta, Anc.eta, Wal.eta, Int.toNat_natCast, w0, w1, e]
    rw [G_loop]
    simp (disch := first | assumption | omega | (simp only [az]; done)) only [ru, eq_self, if_true, if_false, BEq.rfl, binI, AO.row?, splice, fillL, mmAll, loadV, storeV, zeros, Am.rowAt, Am.part, addOff, Nat.reduceAdd, Nat.reduceMul, Nat.reduceLeDiff, Nat.reduceSub, Nat.reduceLT, Int.reduceEq, Int.reduceLT, Int.reduceLE, Int.reduceGT, Int.reduceGE, Int.reduceAdd, Int.reduceSub, Int.reduceMul, Int.reduceNeg, Int.reduceToNat, reduceCtorEq, reduceIte, lenV_sl H.g, lenV_sl H.a, lenV_sl H.w, elem_sl Spn.el H.g, elem_sl Anc.el H.a, elem_sl Wal.el H.w, view_sl H.g, view_sl H.a, view_sl H.w, scalar_sl H.g, scalar_sl H.a, scalar_sl H.w, cells_sl H.g, cells_sl H.a, cells_sl H.w, pure_sl H.g, pure_sl H.a, pure_sl H.w, Spn.e, Anc.e, Wal.e, Spn.eta, Anc.eta, Wal.eta, Int.toNat_natCast, e, finC, getRes, Option.some.injEq, exists_eq_left']
    rfl
  | [s0], _ =>
    have e : (n.grips.length : Int) = 1 := by rw [← hL]; rfl
    have d0 : n.grips.getD 0 default = s0 := by rw [← hL]; rfl
    have v0 := r116 s0
    simp (disch := first | assumption | omega | (simp only [az]; done)) only [ru, eq_self, if_true, if_false, BEq.rfl, binI, AO.row?, splice, fillL, mmAll, loadV, storeV, zeros, Am.rowAt, Am.part, addOff, Nat.reduceAdd, Nat.reduceMul, Nat.reduceLeDiff, Nat.reduceSub, Nat.reduceLT, Int.reduceEq, Int.reduceLT, Int.reduceLE, Int.reduceGT, Int.reduceGE, Int.reduceAdd, Int.reduceSub, Int.reduceMul, Int.reduceNeg, Int.reduceToNat, reduceCtorEq, reduceIte, GO_mcallv, lenV_sl H.g, lenV_sl H.a, lenV_sl H.w, elem_sl Spn.el H.g, elem_sl Anc.el H.a, elem_sl Wal.el H.w, view_sl H.g, view_sl H.a, view_sl H.w, scalar_sl H.g, scalar_sl H.a, scalar_sl H.w, cells_sl H.g, cells_sl H.a, cells_sl H.w, pure_sl H.g, pure_sl H.a, pure_sl H.w, Spn.e, Anc.e, Wal.e, Spn.eta, Anc.eta, Wal.eta, Int.toNat_natCast, w0, w1, e]
    rw [G_loop]
    simp (disch := first | assumption | omega | (simp only [az]; done)) only [ru, eq_self, if_true, if_false, BEq.rfl, binI, AO.row?, splice, fillL, mmAll, loadV, storeV, zeros, Am.rowAt, Am.part, addOff, Nat.reduceAdd, Nat.reduceMul, Nat.reduceLeDiff, Nat.reduceSub, Nat.reduceLT, Int.reduceEq, Int.reduceLT, Int.reduceLE, Int.reduceGT, Int.reduceGE, Int.reduceAdd, Int.reduceSub, Int.reduceMul, Int.reduceNeg, Int.reduceToNat, reduceCtorEq, reduceIte, GO_mcallv, GO_sappend, exOp_sapp, appS_nil, appS_ms, lenV_sl H.g, lenV_sl H.a, lenV_sl H.w, elem_sl Spn.el H.g, elem_sl Anc.el H.a, elem_sl Wal.el H.w, view_sl H.g, view_sl H.a, view_sl H.w, scalar_sl H.g, scalar_sl H.a, scalar_sl H.w, cells_sl H.g, cells_sl H.a, cells_sl H.w, pure_sl H.g, pure_sl H.a, pure_sl H.w, Spn.e, Anc.e, Wal.e, Spn.eta, Anc.eta, Wal.eta, Int.toNat_natCast, e, d0, v0, List.length_cons, List.length_nil, List.length_singleton, List.cons_append, List.nil_append, true_or]
    rw [G_loop]
    simp (disch := first | assumption | omega | (simp only [az]; done)) only [ru, eq_self, if_true, if_false, BEq.rfl, binI, AO.row?, splice, fillL, mmAll, loadV, storeV, zeros, Am.rowAt, Am.part, addOff, Nat.reduceAdd, Nat.reduceMul, Nat.reduceLeDiff, Nat.reduceSub, Nat.reduceLT, Int.reduceEq, Int.reduceLT, Int.reduceLE, Int.reduceGT, Int.reduceGE, Int.reduceAdd, Int.reduceSub, Int.reduceMul, Int.reduceNeg, Int.reduceToNat, reduceCtorEq, reduceIte, lenV_sl H.g, lenV_sl H.a, lenV_sl H.w, elem_sl Spn.el H.g, elem_sl Anc.el H.a, elem_sl Wal.el H.w, view_sl H.g, view_sl H.a, view_sl H.w, scalar_sl H.g, scalar_sl H.a, scalar_sl H.w, cells_sl H.g, cells_sl H.a, cells_sl H.w, pure_sl H.g, pure_sl H.a, pure_sl H.w, Spn.e, Anc.e, Wal.e, Spn.eta, Anc.eta, Wal.eta, Int.toNat_natCast, e, finC, getRes, Option.some.injEq, exists_eq_left']
    rfl
  | [s0, s1], _ =>
    have e : (n.grips.length : Int) = 2 := by rw [← hL]; rfl
    have d0 : n.grips.getD 0 default = s0 := by rw [← hL]; rfl
    have v0 := r116 s0
    have d1 : n.grips.getD 1 default = s1 := by rw [← hL]; rfl
    have v1 := r116 s1
    simp (disch := first | assumption | omega | (simp only [az]; done)) only [ru, eq_self, if_true, if_false, BEq.rfl, binI, AO.row?, splice, fillL, mmAll, loadV, storeV, zeros, Am.rowAt, Am.part, addOff, Nat.reduceAdd, Nat.reduceMul, Nat.reduceLeDiff, Nat.reduceSub, Nat.reduceLT, Int.reduceEq, Int.reduceLT, Int.reduceLE, Int.reduceGT, Int.reduceGE, Int.reduceAdd, Int.reduceSub, Int.reduceMul, Int.reduceNeg, Int.reduceToNat, reduceCtorEq, reduceIte, GO_mcallv, lenV_sl H.g, lenV_sl H.a, lenV_sl H.w, elem_sl Spn.el H.g, elem_sl Anc.el H.a, elem_sl Wal.el H.w, view_sl H.g, view_sl H.a, view_sl H.w, scalar_sl H.g, scalar_sl H.a, scalar_sl H.w, cells_sl H.g, cells_sl H.a, cells_sl H.w, pure_sl H.g, pure_sl H.a, pure_sl H.w, Spn.e, Anc.e, Wal.e, Spn.eta, Anc.eta, Wal.eta, Int.toNat_natCast, w0, w1, e]
    rw [G_loop]
    simp (disch := first | assumption | omega | (simp only [az]; done)) only [ru, eq_self, if_true, if_false, BEq.rfl, binI, AO.row?, splice, fillL, mmAll, loadV, storeV, zeros, Am.rowAt, Am.part, addOff, Nat.reduceAdd, Nat.reduceMul, Nat.reduceLeDiff, Nat.reduceSub, Nat.reduceLT, Int.reduceEq, Int.reduceLT, Int.reduceLE, Int.reduceGT, Int.reduceGE, Int.reduceAdd, Int.reduceSub, Int.reduceMul, Int.reduceNeg, Int.reduceToNat, reduceCtorEq, reduceIte, GO_mcallv, GO_sappend, exOp_sapp, appS_nil, appS_ms, lenV_sl H.g, lenV_sl H.a, lenV_sl H.w, elem_sl Spn.el H.g, elem_sl Anc.el H.a, elem_sl Wal.el H.w, view_sl H.g, view_sl H.a, view_sl H.w, scalar_sl H.g, scalar_sl H.a, scalar_sl H.w, cells_sl H.g, cells_sl H.a, cells_sl H.w, pure_sl H.g, pure_sl H.a, pure_sl H.w, Spn.e, Anc.e, Wal.e, Spn.eta, Anc.eta, Wal.eta, Int.toNat_natCast, e, d0, v0, List.length_cons, List.length_nil, List.length_singleton, List.cons_append, List.nil_append, true_or]
    rw [G_loop]
    simp (disch := first | assumption | omega | (simp only [az]; done)) only [ru, eq_self, if_true, if_false, BEq.rfl, binI, AO.row?, splice, fillL, mmAll, loadV, storeV, zeros, Am.rowAt, Am.part, addOff, Nat.reduceAdd, Nat.reduceMul, Nat.reduceLeDiff, Nat.reduceSub, Nat.reduceLT, Int.reduceEq, Int.reduceLT, Int.reduceLE, Int.reduceGT, Int.reduceGE, Int.reduceAdd, Int.reduceSub, Int.reduceMul, Int.reduceNeg, Int.reduceToNat, reduceCtorEq, reduceIte, GO_mcallv, GO_sappend, exOp_sapp, appS_nil, appS_ms, lenV_sl H.g, lenV_sl H.a, lenV_sl H.w, elem_sl Spn.el H.g, elem_sl Anc.el H.a, elem_sl Wal.el H.w, view_sl H.g, view_sl H.a, view_sl H.w, scalar_sl H.g, scalar_sl H.a, scalar_sl H.w, cells_sl H.g, cells_sl H.a, cells_sl H.w, pure_sl H.g, pure_sl H.a, pure_sl H.w, Spn.e, Anc.e, Wal.e, Spn.eta, Anc.eta, Wal.eta, Int.toNat_natCast, e, d1, v1, List.length_cons, List.length_nil, List.length_singleton, List.cons_append, List.nil_append, true_or]
    rw [G_loop]
    simp (disch := first | assumption | omega | (simp only [az]; done)) only [ru, eq_self, if_true, if_false, BEq.rfl, binI, AO.row?, splice, fillL, mmAll, loadV, storeV, zeros, Am.rowAt, Am.part, addOff, Nat.reduceAdd, Nat.reduceMul, Nat.reduceLeDiff, Nat.reduceSub, Nat.reduceLT, Int.reduceEq, Int.reduceLT, Int.reduceLE, Int.reduceGT, Int.reduceGE, Int.reduceAdd, Int.reduceSub, Int.reduceMul, Int.reduceNeg, Int.reduceToNat, reduceCtorEq, reduceIte, lenV_sl H.g, lenV_sl H.a, lenV_sl H.w, elem_sl Spn.el H.g, elem_sl Anc.el H.a, elem_sl Wal.el H.w, view_sl H.g, view_sl H.a, view_sl H.w, scalar_sl H.g, scalar_sl H.a, scalar_sl H.w, cells_sl H.g, cells_sl H.a, cells_sl H.w, pure_sl H.g, pure_sl H.a, pure_sl H.w, Spn.e, Anc.e, Wal.e, Spn.eta, Anc.eta, Wal.eta, Int.toNat_natCast, e, finC, getRes, Option.some.injEq, exists_eq_left']
    rfl
  | [s0, s1, s2], _ =>
    have e : (n.grips.length : Int) = 3 := by rw [← hL]; rfl
    have d0 : n.grips.getD 0 default = s0 := by rw [← hL]; rfl
    have v0 := r116 s0
    have d1 : n.grips.getD 1 default = s1 := by rw [← hL]; rfl
    have v1 := r116 s1
    have d2 : n.grips.getD 2 default = s2 := by rw [← hL]; rfl
    have v2 := r116 s2
    simp (disch := first | assumption | omega | (simp only [az]; done)) only [ru, eq_self, if_true, if_false, BEq.rfl, binI, AO.row?, splice, fillL, mmAll, loadV, storeV, zeros, Am.rowAt, Am.part, addOff, Nat.reduceAdd, Nat.reduceMul, Nat.reduceLeDiff, Nat.reduceSub, Nat.reduceLT, Int.reduceEq, Int.reduceLT, Int.reduceLE, Int.reduceGT, Int.reduceGE, Int.reduceAdd, Int.reduceSub, Int.reduceMul, Int.reduceNeg, Int.reduceToNat, reduceCtorEq, reduceIte, GO_mcallv, lenV_sl H.g, lenV_sl H.a, lenV_sl H.w, elem_sl Spn.el H.g, elem_sl Anc.el H.a, elem_sl Wal.el H.w, view_sl H.g, view_sl H.a, view_sl H.w, scalar_sl H.g, scalar_sl H.a, scalar_sl H.w, cells_sl H.g, cells_sl H.a, cells_sl H.w, pure_sl H.g, pure_sl H.a, pure_sl H.w, Spn.e, Anc.e, Wal.e, Spn.eta, Anc.eta, Wal.eta, Int.toNat_natCast, w0, w1, e]
    rw [G_loop]
    simp (disch := first | assumption | omega | (simp only [az]; done)) only [ru, eq_self, if_true, if_false, BEq.rfl, binI, AO.row?, splice, fillL, mmAll, loadV, storeV, zeros, Am.rowAt, Am.part, addOff, Nat.reduceAdd, Nat.reduceMul, Nat.reduceLeDiff, Nat.reduceSub, Nat.reduceLT, Int.reduceEq, Int.reduceLT, Int.reduceLE, Int.reduceGT, Int.reduceGE, Int.reduceAdd, Int.reduceSub, Int.reduceMul, Int.reduceNeg, Int.reduceToNat, reduceCtorEq, reduceIte, GO_mcallv, GO_sappend, exOp_sapp, appS_nil, appS_ms, lenV_sl H.g, lenV_sl H.a, lenV_sl H.w, elem_sl Spn.el H.g, elem_sl Anc.el H.a, elem_sl Wal.el H.w, view_sl H.g, view_sl H.a, view_sl H.w, scalar_sl H.g, scalar_sl H.a, scalar_sl H.w, cells_sl H.g, cells_sl H.a, cells_sl H.w, pure_sl H.g, pure_sl H.a, pure_sl H.w, Spn.e, Anc.e, Wal.e, Spn.eta, Anc.eta, Wal.eta, Int.toNat_natCast, e, d0, v0, List.length_cons, List.length_nil, List.length_singleton, List.cons_append, List.nil_append, true_or]
    rw [G_loop]
    simp (disch := first | assumption | omega | (simp only [az]; done)) only [ru, eq_self, if_true, if_false, BEq.rfl, binI, AO.row?, splice, fillL, mmAll, loadV, storeV, zeros, Am.rowAt, Am.part, addOff, Nat.reduceAdd, Nat.reduceMul, Nat.reduceLeDiff, Nat.reduceSub, Nat.reduceLT, Int.reduceEq, Int.reduceLT, Int.reduceLE, Int.reduceGT, Int.reduceGE, Int.reduceAdd, Int.reduceSub, Int.reduceMul, Int.reduceNeg, Int.reduceToNat, reduceCtorEq, reduceIte, GO_mcallv, GO_sappend, exOp_sapp, appS_nil, appS_ms, lenV_sl H.g, lenV_sl H.a, lenV_sl H.w, elem_sl Spn.el H.g, elem_sl Anc.el H.a, elem_sl Wal.el H.w, view_sl H.g, view_sl H.a, view_sl H.w, scalar_sl H.g, scalar_sl H.a, scalar_sl H.w, cells_sl H.g, cells_sl H.a, cells_sl H.w, pure_sl H.g, pure_sl H.a, pure_sl H.w, Spn.e, Anc.e, Wal.e, Spn.eta, Anc.eta, Wal.eta, Int.toNat_natCast, e, d1, v1, List.length_cons, List.length_nil, List.length_singleton, List.cons_append, List.nil_append, true_or]
    rw [G_loop]
    simp (disch := first | assumption | omega | (simp only [az]; done)) only [ru, eq_self, if_true, if_false, BEq.rfl, binI, AO.row?, splice, fillL, mmAll, loadV, storeV, zeros, Am.rowAt, Am.part, addOff, Nat.reduceAdd, Nat.reduceMul, Nat.reduceLeDiff, Nat.reduceSub, Nat.reduceLT, Int.reduceEq, Int.reduceLT, Int.reduceLE, Int.reduceGT, Int.reduceGE, Int.reduceAdd, Int.reduceSub, Int.reduceMul, Int.reduceNeg, Int.reduceToNat, reduceCtorEq, reduceIte, GO_mcallv, GO_sappend, exOp_sapp, appS_nil, appS_ms, lenV_sl H.g, lenV_sl H.a, lenV_sl H.w, elem_sl Spn.el H.g, elem_sl Anc.el H.a, elem_sl Wal.el H.w, view_sl H.g, view_sl H.a, view_sl H.w, scalar_sl H.g, scalar_sl H.a, scalar_sl H.w, cells_sl H.g, cells_sl H.a, cells_sl H.w, pure_sl H.g, pure_sl H.a, pure_sl H.w, Spn.e, Anc.e, Wal.e, Spn.eta, Anc.eta, Wal.eta, Int.toNat_natCast, e, d2, v2, List.length_cons, List.length_nil, List.length_singleton, List.cons_append, List.nil_append, true_or]
    rw [G_loop]
    simp (disch := first | assumption | omega | (simp only [az]; done)) only [ru, eq_self, if_true, if_false, BEq.rfl, binI, AO.row?, splice, fillL, mmAll, loadV, storeV, zeros, Am.rowAt, Am.part, addOff, Nat.reduceAdd, Nat.reduceMul, Nat.reduceLeDiff, Nat.reduceSub, Nat.reduceLT, Int.reduceEq, Int.reduceLT, Int.reduceLE, Int.reduceGT, Int.reduceGE, Int.reduceAdd, Int.reduceSub, Int.reduceMul, Int.reduceNeg, Int.reduceToNat, reduceCtorEq, reduceIte, lenV_sl H.g, lenV_sl H.a, lenV_sl H.w, elem_sl Spn.el H.g, elem_sl Anc.el H.a, elem_sl Wal.el H.w, view_sl H.g, view_sl H.a, view_sl H.w, scalar_sl H.g, scalar_sl H.a, scalar_sl H.w, cells_sl H.g, cells_sl H.a, cells_sl H.w, pure_sl H.g, pure_sl H.a, pure_sl H.w, Spn.e, Anc.e, Wal.e, Spn.eta, Anc.eta, Wal.eta, Int.toNat_natCast, e, finC, getRes, Option.some.injEq, exists_eq_left']
    rfl

theorem shI {k : Nat} {t : IntKind} {i : Int} : AV.shift k (.int t i) = .int t i := id rfl
/-- the roughest truth, laid behind whatever heap there is -/
theorem r115 {n : Net} {g a w : AV} (Hg : IsSl 2 Spn.e n.grips g) (Hw : IsSl 5 Wal.e n.walls w) (asc : a.scalar = true) (hl : n.grips.length ≤ 3) {h : List AO} {lim : Nat} (hlim : lim ≤ h.length) :
    ∃ v J, R E (.fn 115) [netV n g a w, .fn 117 [] [], .fn 116 [] []] h lim = some (.agg [I n.wind.lo, I n.wind.hi, I n.cur.lo, I n.cur.hi, g, a, w, I n.wind.hi, I n.cur.hi, v], h ++ J) ∧
      ((n.grips.map Spn.lo = [] ∧ v = .nils) ∨ (n.grips.map Spn.lo ≠ [] ∧ ∃ q sh, v = .ms 1 (h.length + q) 0 (n.grips.map Spn.lo).length ∧ J[q]? = some (.cells ((n.grips.map Spn.lo).flatMap fun n => [I n]) sh))) := by
  suffices hh : ∃ r h', R E (.fn 115) [netV n g a w, .fn 117 [] [], .fn 116 [] []] h lim = some (r, h') ∧ ∃ v J, (r = .agg [I n.wind.lo, I n.wind.hi, I n.cur.lo, I n.cur.hi, g, a, w, I n.wind.hi, I n.cur.hi, v] ∧ h' = h ++ J) ∧
      ((n.grips.map Spn.lo = [] ∧ v = .nils) ∨ (n.grips.map Spn.lo ≠ [] ∧ ∃ q sh, v = .ms 1 (h.length + q) 0 (n.grips.map Spn.lo).length ∧ J[q]? = some (.cells ((n.grips.map Spn.lo).flatMap fun n => [I n]) sh))) by
    obtain ⟨r, h', h1, v, J, ⟨rfl, rfl⟩, h2⟩ := hh
    exact ⟨v, J, h1, h2⟩
  refine R_of _ (es _ _ _ _) e115 ?_
  have w0 := r117 n.wind
  have w1 := r117 n.cur
  have k1 : ∀ k, lim ≤ h.length + k := fun k => by omega
  have gs := scalar_sl Hg; have ws := scalar_sl Hw
  have gc := cells_sl Hg; have wc := cells_sl Hw
  obtain ⟨L, hL⟩ : ∃ L, L = n.grips := ⟨_, rfl⟩
  rw [← hL] at hl ⊢
  simp only [f115, netV]
  match L, hl with
  | [], _ =>
    have e : (n.grips.length : Int) = 0 := by rw [← hL]; rfl
    simp (disch := first | assumption | omega | (simp only [az]; done)) only [ru, eq_self, if_true, if_false, BEq.rfl, binI, AO.row?, splice, fillL, mmAll, loadV, storeV, zeros, Am.rowAt, Am.part, addOff, Nat.reduceAdd, Nat.reduceMul, Nat.reduceLeDiff, Nat.reduceSub, Nat.reduceLT, Int.reduceEq, Int.reduceLT, Int.reduceLE, Int.reduceGT, Int.reduceGE, Int.reduceAdd, Int.reduceSub, Int.reduceMul, Int.reduceNeg, Int.reduceToNat, reduceCtorEq, reduceIte, GO_mcallv, lenV_sl Hg, elem_sl Spn.el Hg, Spn.e, Spn.eta, Int.toNat_natCast, asc, gs, ws, w0, w1, e, List.append_assoc, lenE, setT, setT0, atT, atT0, getT, getT0, Nat.add_assoc, k1, hlim]
    rw [G_loop]
    simp (disch := first | assumption | omega | (simp only [az]; done)) only [ru, eq_self, if_true, if_false, BEq.rfl, binI, AO.row?, splice, fillL, mmAll, loadV, storeV, zeros, Am.rowAt, Am.part, addOff, Nat.reduceAdd, Nat.reduceMul, Nat.reduceLeDiff, Nat.reduceSub, Nat.reduceLT, Int.reduceEq, Int.reduceLT, Int.reduceLE, Int.reduceGT, Int.reduceGE, Int.reduceAdd, Int.reduceSub, Int.reduceMul, Int.reduceNeg, Int.reduceToNat, reduceCtorEq, reduceIte, e, finC, getRes, Option.some.injEq, exists_eq_left', List.append_assoc, lenE, setT, setT0, atT, atT0, getT, getT0, Nat.add_assoc, k1, hlim, asc, gs, ws]
    refine ⟨_, _, ⟨rfl, rfl⟩, ?_⟩
    simp
  | [s0], _ =>
    have e : (n.grips.length : Int) = 1 := by rw [← hL]; rfl
    have d0 : n.grips.getD 0 default = s0 := by rw [← hL]; rfl
    have v0 := r116 s0
    simp (disch := first | assumption | omega | (simp only [az]; done)) only [ru, eq_self, if_true, if_false, BEq.rfl, binI, AO.row?, splice, fillL, mmAll, loadV, storeV, zeros, Am.rowAt, Am.part, addOff, Nat.reduceAdd, Nat.reduceMul, Nat.reduceLeDiff, Nat.reduceSub, Nat.reduceLT, Int.reduceEq, Int.reduceLT, Int.reduceLE, Int.reduceGT, Int.reduceGE, Int.reduceAdd, Int.reduceSub, Int.reduceMul, Int.reduceNeg, Int.reduceToNat, reduceCtorEq, reduceIte, GO_mcallv, lenV_sl Hg, elem_sl Spn.el Hg, Spn.e, Spn.eta, Int.toNat_natCast, asc, gs, ws, w0, w1, e, List.append_assoc, lenE, setT, setT0, atT, atT0, getT, getT0, Nat.add_assoc, k1, hlim]
    rw [G_loop]
    simp (disch := first | assumption | omega | (simp only [az]; done)) only [ru, eq_self, if_true, if_false, BEq.rfl, binI, AO.row?, splice, fillL, mmAll, loadV, storeV, zeros, Am.rowAt, Am.part, addOff, Nat.reduceAdd, Nat.reduceMul, Nat.reduceLeDiff, Nat.reduceSub, Nat.reduceLT, Int.reduceEq, Int.reduceLT, Int.reduceLE, Int.reduceGT, Int.reduceGE, Int.reduceAdd, Int.reduceSub, Int.reduceMul, Int.reduceNeg, Int.reduceToNat, reduceCtorEq, reduceIte, GO_mcallv, GO_sappend, exOp_sapp, appS_nil, appS_ms, lenV_sl Hg, elem_sl Spn.el Hg, Spn.e, Spn.eta, Int.toNat_natCast, e, d0, v0, List.length_cons, List.length_nil, List.length_singleton, List.cons_append, List.nil_append, true_or, List.append_assoc, lenE, setT, setT0, atT, atT0, getT, getT0, Nat.add_assoc, k1, hlim]
    rw [G_loop]
    simp (disch := first | assumption | omega | (simp only [az]; done)) only [ru, eq_self, if_true, if_false, BEq.rfl, binI, AO.row?, splice, fillL, mmAll, loadV, storeV, zeros, Am.rowAt, Am.part, addOff, Nat.reduceAdd, Nat.reduceMul, Nat.reduceLeDiff, Nat.reduceSub, Nat.reduceLT, Int.reduceEq, Int.reduceLT, Int.reduceLE, Int.reduceGT, Int.reduceGE, Int.reduceAdd, Int.reduceSub, Int.reduceMul, Int.reduceNeg, Int.reduceToNat, reduceCtorEq, reduceIte, e, finC, getRes, Option.some.injEq, exists_eq_left', List.append_assoc, lenE, setT, setT0, atT, atT0, getT, getT0, Nat.add_assoc, k1, hlim, asc, gs, ws]
    exact ⟨_, _, ⟨rfl, rfl⟩, .inr ⟨by simp, _, _, rfl, rfl⟩⟩
  | [s0, s1], _ =>
    have e : (n.grips.length : Int) = 2 := by rw [← hL]; rfl
    have d0 : n.grips.getD 0 default = s0 := by rw [← hL]; rfl
    have v0 := r116 s0
    have d1 : n.grips.getD 1 default = s1 := by rw [← hL]; rfl
    have v1 := r116 s1
    simp (disch := first | assumption | omega | (simp only [az]; done)) only [ru, eq_self, if_true, if_false, BEq.rfl, binI, AO.row?, splice, fillL, mmAll, loadV, storeV, zeros, Am.rowAt, Am.part, addOff, Nat.reduceAdd, Nat.reduceMul, Nat.reduceLeDiff, Nat.reduceSub, Nat.reduceLT, Int.reduceEq, Int.reduceLT, Int.reduceLE, Int.reduceGT, Int.reduceGE, Int.reduceAdd, Int.reduceSub, Int.reduceMul, Int.reduceNeg, Int.reduceToNat, reduceCtorEq, reduceIte, GO_mcallv, lenV_sl Hg, elem_sl Spn.el Hg, Spn.e, Spn.eta, Int.toNat_natCast, w0, w1, e, List.append_assoc, lenE, setT, setT0, atT, atT0, getT, getT0, Nat.add_assoc, k1, hlim, asc, gs, ws]
    rw [G_loop]
    simp (disch := first | assumption | omega | (simp only [az]; done)) only [ru, eq_self, if_true, if_false, BEq.rfl, binI, AO.row?, splice, fillL, mmAll, loadV, storeV, zeros, Am.rowAt, Am.part, addOff, Nat.reduceAdd, Nat.reduceMul, Nat.reduceLeDiff, Nat.reduceSub, Nat.reduceLT, Int.reduceEq, Int.reduceLT, Int.reduceLE, Int.reduceGT, Int.reduceGE, Int.reduceAdd, Int.reduceSub, Int.reduceMul, Int.reduceNeg, Int.reduceToNat, reduceCtorEq, reduceIte, GO_mcallv, GO_sappend, exOp_sapp, appS_nil, appS_ms, lenV_sl Hg, elem_sl Spn.el Hg, Spn.e, Spn.eta, Int.toNat_natCast, e, d0, v0, List.length_cons, List.length_nil, List.length_singleton, List.cons_append, List.nil_append, true_or, List.append_assoc, lenE, setT, setT0, atT, atT0, getT, getT0, Nat.add_assoc, k1, hlim, asc, gs, ws]
    rw [G_loop]
    simp (disch := first | assumption | omega | (simp only [az]; done)) only [ru, eq_self, if_true, if_false, BEq.rfl, binI, AO.row?, splice, fillL, mmAll, loadV, storeV, zeros, Am.rowAt, Am.part, addOff, Nat.reduceAdd, Nat.reduceMul, Nat.reduceLeDiff, Nat.reduceSub, Nat.reduceLT, Int.reduceEq, Int.reduceLT, Int.reduceLE, Int.reduceGT, Int.reduceGE, Int.reduceAdd, Int.reduceSub, Int.reduceMul, Int.reduceNeg, Int.reduceToNat, reduceCtorEq, reduceIte, GO_mcallv, GO_sappend, exOp_sapp, appS_nil, appS_ms, lenV_sl Hg, elem_sl Spn.el Hg, Spn.e, Spn.eta, Int.toNat_natCast, e, d1, v1, List.length_cons, List.length_nil, List.length_singleton, List.cons_append, List.nil_append, true_or, List.append_assoc, lenE, setT, setT0, atT, atT0, getT, getT0, Nat.add_assoc, k1, hlim, asc, gs, ws]
    rw [G_loop]
    simp (disch := first | assumption | omega | (simp only [az]; done)) only [ru, eq_self, if_true, if_false, BEq.rfl, binI, AO.row?, splice, fillL, mmAll, loadV, storeV, zeros, Am.rowAt, Am.part, addOff, Nat.reduceAdd, Nat.reduceMul, Nat.reduceLeDiff, Nat.reduceSub, Nat.reduceLT, Int.reduceEq, Int.reduceLT, Int.reduceLE, Int.reduceGT, Int.reduceGE, Int.reduceAdd, Int.reduceSub, Int.reduceMul, Int.reduceNeg, Int.reduceToNat, reduceCtorEq, reduceIte, e, finC, getRes, Option.some.injEq, exists_eq_left', List.append_assoc, lenE, setT, setT0, atT, atT0, getT, getT0, Nat.add_assoc, k1, hlim, asc, gs, ws]
    exact ⟨_, _, ⟨rfl, rfl⟩, .inr ⟨by simp, _, _, rfl, rfl⟩⟩
  | [s0, s1, s2], _ =>
    have e : (n.grips.length : Int) = 3 := by rw [← hL]; rfl
    have d0 : n.grips.getD 0 default = s0 := by rw [← hL]; rfl
    have v0 := r116 s0
    have d1 : n.grips.getD 1 default = s1 := by rw [← hL]; rfl
    have v1 := r116 s1
    have d2 : n.grips.getD 2 default = s2 := by rw [← hL]; rfl
    have v2 := r116 s2
    simp (disch := first | assumption | omega | (simp only [az]; done)) only [ru, eq_self, if_true, if_false, BEq.rfl, binI, AO.row?, splice, fillL, mmAll, loadV, storeV, zeros, Am.rowAt, Am.part, addOff, Nat.reduceAdd, Nat.reduceMul, Nat.reduceLeDiff, Nat.reduceSub, Nat.reduceLT, Int.reduceEq, Int.reduceLT, Int.reduceLE, Int.reduceGT, Int.reduceGE, Int.reduceAdd, Int.reduceSub, Int.reduceMul, Int.reduceNeg, Int.reduceToNat, reduceCtorEq, reduceIte, GO_mcallv, lenV_sl Hg, elem_sl Spn.el Hg, Spn.e, Spn.eta, Int.toNat_natCast, w0, w1, e, List.append_assoc, lenE, setT, setT0, atT, atT0, getT, getT0, Nat.add_assoc, k1, hlim, asc, gs, ws]
    rw [G_loop]
    simp (disch := first | assumption | omega | (simp only [az]; done)) only [ru, eq_self, if_true, if_false, BEq.rfl, binI, AO.row?, splice, fillL, mmAll, loadV, storeV, zeros, Am.rowAt, Am.part, addOff, Nat.reduceAdd, Nat.reduceMul, Nat.reduceLeDiff, Nat.reduceSub, Nat.reduceLT, Int.reduceEq, Int.reduceLT, Int.reduceLE, Int.reduceGT, Int.reduceGE, Int.reduceAdd, Int.reduceSub, Int.reduceMul, Int.reduceNeg, Int.reduceToNat, reduceCtorEq, reduceIte, GO_mcallv, GO_sappend, exOp_sapp, appS_nil, appS_ms, lenV_sl Hg, elem_sl Spn.el Hg, Spn.e, Spn.eta, Int.toNat_natCast, e, d0, v0, List.length_cons, List.length_nil, List.length_singleton, List.cons_append, List.nil_append, true_or, List.append_assoc, lenE, setT, setT0, atT, atT0, getT, getT0, Nat.add_assoc, k1, hlim, asc, gs, ws]
    rw [G_loop]
    simp (disch := first | assumption | omega | (simp only [az]; done)) only [ru, eq_self, if_true, if_false, BEq.rfl, binI, AO.row?, splice, fillL, mmAll, loadV, storeV, zeros, Am.rowAt, Am.part, addOff, Nat.reduceAdd, Nat.reduceMul, Nat.reduceLeDiff, Nat.reduceSub, Nat.reduceLT, Int.reduceEq, Int.reduceLT, Int.reduceLE, Int.reduceGT, Int.reduceGE, Int.reduceAdd, Int.reduceSub, Int.reduceMul, Int.reduceNeg, Int.reduceToNat, reduceCtorEq, reduceIte, GO_mcallv, GO_sappend, exOp_sapp, appS_nil, appS_ms, lenV_sl Hg, elem_sl Spn.el Hg, Spn.e, Spn.eta, Int.toNat_natCast, e, d1, v1, List.length_cons, List.length_nil, List.length_singleton, List.cons_append, List.nil_append, true_or, List.append_assoc, lenE, setT, setT0, atT, atT0, getT, getT0, Nat.add_assoc, k1, hlim, asc, gs, ws]
    rw [G_loop]
    simp (disch := first | assumption | omega | (simp only [az]; done)) only [ru, eq_self, if_true, if_false, BEq.rfl, binI, AO.row?, splice, fillL, mmAll, loadV, storeV, zeros, Am.rowAt, Am.part, addOff, Nat.reduceAdd, Nat.reduceMul, Nat.reduceLeDiff, Nat.reduceSub, Nat.reduceLT, Int.reduceEq, Int.reduceLT, Int.reduceLE, Int.reduceGT, Int.reduceGE, Int.reduceAdd, Int.reduceSub, Int.reduceMul, Int.reduceNeg, Int.reduceToNat, reduceCtorEq, reduceIte, GO_mcallv, GO_sappend, exOp_sapp, appS_nil, appS_ms, lenV_sl Hg, elem_sl Spn.el Hg, Spn.e, Spn.eta, Int.toNat_natCast, e, d2, v2, List.length_cons, List.length_nil, List.length_singleton, List.cons_append, List.nil_append, true_or, List.append_assoc, lenE, setT, setT0, atT, atT0, getT, getT0, Nat.add_assoc, k1, hlim, asc, gs, ws]
    rw [G_loop]
    simp (disch := first | assumption | omega | (simp only [az]; done)) only [ru, eq_self, if_true, if_false, BEq.rfl, binI, AO.row?, splice, fillL, mmAll, loadV, storeV, zeros, Am.rowAt, Am.part, addOff, Nat.reduceAdd, Nat.reduceMul, Nat.reduceLeDiff, Nat.reduceSub, Nat.reduceLT, Int.reduceEq, Int.reduceLT, Int.reduceLE, Int.reduceGT, Int.reduceGE, Int.reduceAdd, Int.reduceSub, Int.reduceMul, Int.reduceNeg, Int.reduceToNat, reduceCtorEq, reduceIte, e, finC, getRes, Option.some.injEq, exists_eq_left', List.append_assoc, lenE, setT, setT0, atT, atT0, getT, getT0, Nat.add_assoc, k1, hlim, asc, gs, ws]
    exact ⟨_, _, ⟨rfl, rfl⟩, .inr ⟨by simp, _, _, rfl, rfl⟩⟩

theorem s115c {n : Net} {g a w : AV} (H : NetOk n g a w) (hl : n.grips.length ≤ 3) : Iso E 115 [netV n g a w, .fn 116 [] [], .fn 117 [] []] false =
    some (.agg [I n.wind.lo, I n.wind.hi, I n.cur.lo, I n.cur.hi, g, a, w, I n.wind.lo, I n.cur.lo, resL (n.grips.map Spn.hi)]) := by
  refine Iso_of (es _ _ _ _) e115 ?_
  have w0 := r116 n.wind
  have w1 := r116 n.cur
  obtain ⟨L, hL⟩ : ∃ L, L = n.grips := ⟨_, rfl⟩
  rw [← hL] at hl ⊢
  simp only [f115, netV]
  match L, hl with
  | [], _ =>
    have e : (n.grips.length : Int) = 0 := by rw [← hL]; rfl
    simp (disch := first | assumption | omega | (simp only [az]; done)) only [ru, eq_self, if_true, if_false, BEq.rfl, binI, AO.row?, splice, fillL, mmAll, loadV, storeV, zeros, Am.rowAt, Am.part, addOff, Nat.reduceAdd, Nat.reduceMul, Nat.reduceLeDiff, Nat.reduceSub, Nat.reduceLT, Int.reduceEq, Int.reduceLT, Int.reduceLE, Int.reduceGT, Int.reduceGE, Int.reduceAdd, Int.reduceSub, Int.reduceMul, Int.reduceNeg, Int.reduceToNat, reduceCtorEq, reduceIte, GO_mcallv, lenV_sl H.g, lenV_sl H.a, lenV_sl H.w, elem_sl Spn.el H.g, elem_sl Anc.el H.a, elem_sl Wal.el H.w, view_sl H.g, view_sl H.a, view_sl H.w, scalar_sl H.g, scalar_sl H.a, scalar_sl H.w, cells_sl H.g, cells_sl H.a, cells_sl H.w, pure_sl H.g, pure_sl H.a, pure_sl H.w, Spn.e, Anc.e, Wal.e, Spn.eta, Anc.eta, Wal.eta, Int.toNat_natCast, w0, w1, e]
    rw [G_loop]
    simp (disch := first | assumption | omega | (simp only [az]; done)) only [ru, eq_self, if_true, if_false, BEq.rfl, binI, AO.row?, splice, fillL, mmAll, loadV, storeV, zeros, Am.rowAt, Am.part, addOff, Nat.reduceAdd, Nat.reduceMul, Nat.reduceLeDiff, Nat.reduceSub, Nat.reduceLT, Int.reduceEq, Int.reduceLT, Int.reduceLE, Int.reduceGT, Int.reduceGE, Int.reduceAdd, Int.reduceSub, Int.reduceMul, Int.reduceNeg, Int.reduceToNat, reduceCtorEq, reduceIte, lenV_sl H.g, lenV_sl H.a, lenV_sl H.w, elem_sl Spn.el H.g, elem_sl Anc.el H.a, elem_sl Wal.el H.w, view_sl H.g, view_sl H.a, view_sl H.w, scalar_sl H.g, scalar_sl H.a, scalar_sl H.w, cells_sl H.g, cells_sl H.a, cells_sl H.w, pure_sl H.g, pure_sl H.a, pure_sl H.w, Spn.e, Anc.e, Wal.e, Spn.eta, Anc.eta, Wal.eta, Int.toNat_natCast, e, finC, getRes, Option.some.injEq, exists_eq_left']
    rfl
  | [s0], _ =>
    have e : (n.grips.length : Int) = 1 := by rw [← hL]; rfl
    have d0 : n.grips.getD 0 default = s0 := by rw [← hL]; rfl
    have v0 := r117 s0
    simp (disch := first | assumption | omega | (simp only [az]; done)) only [ru, eq_self, if_true, if_false, BEq.rfl, binI, AO.row?, splice, fillL, mmAll, loadV, storeV, zeros, Am.rowAt, Am.part, addOff, Nat.reduceAdd, Nat.reduceMul, Nat.reduceLeDiff, Nat.reduceSub, Nat.reduceLT, Int.reduceEq, Int.reduceLT, Int.reduceLE, Int.reduceGT, Int.reduceGE, Int.reduceAdd, Int.reduceSub, Int.reduceMul, Int.reduceNeg, Int.reduceToNat, reduceCtorEq, reduceIte, GO_mcallv, lenV_sl H.g, lenV_sl H.a, lenV_sl H.w, elem_sl Spn.el H.g, elem_sl Anc.el H.a, elem_sl Wal.el H.w, view_sl H.g, view_sl H.a, view_sl H.w, scalar_sl H.g, scalar_sl H.a, scalar_sl H.w, cells_sl H.g, cells_sl H.a, cells_sl H.w, pure_sl H.g, pure_sl H.a, pure_sl H.w, Spn.e, Anc.e, Wal.e, Spn.eta, Anc.eta, Wal.eta, Int.toNat_natCast, w0, w1, e]
    rw [G_loop]
    simp (disch := first | assumption | omega | (simp only [az]; done)) only [ru, eq_self, if_true, if_false, BEq.rfl, binI, AO.row?, splice, fillL, mmAll, loadV, storeV, zeros, Am.rowAt, Am.part, addOff, Nat.reduceAdd, Nat.reduceMul, Nat.reduceLeDiff, Nat.reduceSub, Nat.reduceLT, Int.reduceEq, Int.reduceLT, Int.reduceLE, Int.reduceGT, Int.reduceGE, Int.reduceAdd, Int.reduceSub, Int.reduceMul, Int.reduceNeg, Int.reduceToNat, reduceCtorEq, reduceIte, GO_mcallv, GO_sappend, exOp_sapp, appS_nil, appS_ms, lenV_sl H.g, lenV_sl H.a, lenV_sl H.w, elem_sl Spn.el H.g, elem_sl Anc.el H.a, elem_sl Wal.el H.w, view_sl H.g, view_sl H.a, view_sl H.w, scalar_sl H.g, scalar_sl H.a, scalar_sl H.w, cells_sl H.g, cells_sl H.a, cells_sl H.w, pure_sl H.g, pure_sl H.a, pure_sl H.w, Spn.e, Anc.e, Wal.e, Spn.eta, Anc.eta, Wal.eta, Int.toNat_natCast, e, d0, v0, List.length_cons, List.length_nil, List.length_singleton, List.cons_append, List.nil_append, true_or]
    rw [G_loop]
    simp (disch := first | assumption | omega | (simp only [az]; done)) only [ru, eq_self, if_true, if_false, BEq.rfl, binI, AO.row?, splice, fillL, mmAll, loadV, storeV, zeros, Am.rowAt, Am.part, addOff, Nat.reduceAdd, Nat.reduceMul, Nat.reduceLeDiff, Nat.reduceSub, Nat.reduceLT, Int.reduceEq, Int.reduceLT, Int.reduceLE, Int.reduceGT, Int.reduceGE, Int.reduceAdd, Int.reduceSub, Int.reduceMul, Int.reduceNeg, Int.reduceToNat, reduceCtorEq, reduceIte, lenV_sl H.g, lenV_sl H.a, lenV_sl H.w, elem_sl Spn.el H.g, elem_sl Anc.el H.a, elem_sl Wal.el H.w, view_sl H.g, view_sl H.a, view_sl H.w, scalar_sl H.g, scalar_sl H.a, scalar_sl H.w, cells_sl H.g, cells_sl H.a, cells_sl H.w, pure_sl H.g, pure_sl H.a, pure_sl H.w, Spn.e, Anc.e, Wal.e, Spn.eta, Anc.eta, Wal.eta, Int.toNat_natCast, e, finC, getRes, Option.some.injEq, exists_eq_left']
    rfl
  | [s0, s1], _ =>
    have e : (n.grips.length : Int) = 2 := by rw [← hL]; rfl
    have d0 : n.grips.getD 0 default = s0 := by rw [← hL]; rfl
    have v0 := r117 s0
    have d1 : n.grips.getD 1 default = s1 := by rw [← hL]; rfl
    have v1 := r117 s1
    simp (disch := first | assumption | omega | (simp only [az]; done)) only [ru, eq_self, if_true, if_false, BEq.rfl, binI, AO.row?, splice, fillL, mmAll, loadV, storeV, zeros, Am.rowAt, Am.part, addOff, Nat.reduceAdd, Nat.reduceMul, Nat.reduceLeDiff, Nat.reduceSub, Nat.reduceLT, Int.reduceEq, Int.reduceLT, Int.reduceLE, Int.reduceGT, Int.reduceGE, Int.reduceAdd, Int.reduceSub, Int.reduceMul, Int.reduceNeg, Int.reduceToNat, reduceCtorEq, reduceIte, GO_mcallv, lenV_sl H.g, lenV_sl H.a, lenV_sl H.w, elem_sl Spn.el H.g, elem_sl Anc.el H.a, elem_sl Wal.el H.w, view_sl H.g, view_sl H.a, view_sl H.w, scalar_sl H.g, scalar_sl H.a, scalar_sl H.w, cells_sl H.g, cells_sl H.a, cells_sl H.w, pure_sl H.g, pure_sl H.a, pure_sl H.w, Spn.e, Anc.e, Wal.e, Spn.eta, Anc.eta, Wal.eta, Int.toNat_natCast, w0, w1, e]
    rw [G_loop]
    simp (disch := first | assumption | omega | (simp only [az]; done)) only [ru, eq_self, if_true, if_false, BEq.rfl, binI, AO.row?, splice, fillL, mmAll, loadV, storeV, zeros, Am.rowAt, Am.part, addOff, Nat.reduceAdd, Nat.reduceMul, Nat.reduceLeDiff, Nat.reduceSub, Nat.reduceLT, Int.reduceEq, Int.reduceLT, Int.reduceLE, Int.reduceGT, Int.reduceGE, Int.reduceAdd, Int.reduceSub, Int.reduceMul, Int.reduceNeg, Int.reduceToNat, reduceCtorEq, reduceIte, GO_mcallv, GO_sappend, exOp_sapp, appS_nil, appS_ms, lenV_sl H.g, lenV_sl H.a, lenV_sl H.w, elem_sl Spn.el H.g, elem_sl Anc.el H.a, elem_sl Wal.el H.w, view_sl H.g, view_sl H.a, view_sl H.w, scalar_sl H.g, scalar_sl H.a, scalar_sl H.w, cells_sl H.g, cells_sl H.a, cells_sl H.w, pure_sl H.g, pure_sl H.a, pure_sl H.w, Spn.e, Anc.e, Wal.e, Spn.eta, Anc.eta, Wal.eta, Int.toNat_natCast, e, d0, v0, List.length_cons, List.length_nil, List.length_singleton, List.cons_append, List.nil_append, true_or]
    rw [G_loop]
    simp (disch := first | assumption | omega | (simp only [az]; done)) only [ru, eq_self, if_true, if_false, BEq.rfl, binI, AO.row?, splice, fillL, mmAll, loadV, storeV, zeros, Am.rowAt, Am.part, addOff, Nat.reduceAdd, Nat.reduceMul, Nat.reduceLeDiff, Nat.reduceSub, Nat.reduceLT, Int.reduceEq, Int.reduceLT, Int.reduceLE, Int.reduceGT, Int.reduceGE, Int.reduceAdd, Int.reduceSub, Int.reduceMul, Int.reduceNeg, Int.reduceToNat, reduceCtorEq, reduceIte, GO_mcallv, GO_sappend, exOp_sapp, appS_nil, appS_ms, lenV_sl H.g, lenV_sl H.a, lenV_sl H.w, elem_sl Spn.el H.g, elem_sl Anc.el H.a, elem_sl Wal.el H.w, view_sl H.g, view_sl H.a, view_sl H.w, scalar_sl H.g, scalar_sl H.a, scalar_sl H.w, cells_sl H.g, cells_sl H.a, cells_sl H.w, pure_sl H.g, pure_sl H.a, pure_sl H.w, Spn.e, Anc.e, Wal.e, Spn.eta, Anc.eta, Wal.eta, Int.toNat_natCast, e, d1, v1, List.length_cons, List.length_nil, List.length_singleton, List.cons_append, List.nil_append, true_or]
    rw [G_loop]
    simp (disch := first | assumption | omega | (simp only [az]; done)) only [ru, eq_self, if_true, if_false, BEq.rfl, binI, AO.row?, splice, fillL, mmAll, loadV, storeV, zeros, Am.rowAt, Am.part, addOff, Nat.reduceAdd, Nat.reduceMul, Nat.reduceLeDiff, Nat.reduceSub, Nat.reduceLT, Int.reduceEq, Int.reduceLT, Int.reduceLE, Int.reduceGT, Int.reduceGE, Int.reduceAdd, Int.reduceSub, Int.reduceMul, Int.reduceNeg, Int.reduceToNat, reduceCtorEq, reduceIte, lenV_sl H.g, lenV_sl H.a, lenV_sl H.w, elem_sl Spn.el H.g, elem_sl Anc.el H.a, elem_sl Wal.el H.w, view_sl H.g, view_sl H.a, view_sl H.w, scalar_sl H.g, scalar_sl H.a, scalar_sl H.w, cells_sl H.g, cells_sl H.a, cells_sl H.w, pure_sl H.g, pure_sl H.a, pure_sl H.w, Spn.e, Anc.e, Wal.e, Spn.eta, Anc.eta, Wal.eta, Int.toNat_natCast, e, finC, getRes, Option.some.injEq, exists_eq_left']
    rfl
  | [s0, s1, s2], _ =>
    have e : (n.grips.length : Int) = 3 := by rw [← hL]; rfl
    have d0 : n.grips.getD 0 default = s0 := by rw [← hL]; rfl
    have v0 := r117 s0
    have d1 : n.grips.getD 1 default = s1 := by rw [← hL]; rfl
    have v1 := r117 s1
    have d2 : n.grips.getD 2 default = s2 := by rw [← hL]; rfl
    have v2 := r117 s2
    simp (disch := first | assumption | omega | (simp only [az]; done)) only [ru, eq_self, if_true, if_false, BEq.rfl, binI, AO.row?, splice, fillL, mmAll, loadV, storeV, zeros, Am.rowAt, Am.part, addOff, Nat.reduceAdd, Nat.reduceMul, Nat.reduceLeDiff, Nat.reduceSub, Nat.reduceLT, Int.reduceEq, Int.reduceLT, Int.reduceLE, Int.reduceGT, Int.reduceGE, Int.reduceAdd, Int.reduceSub, Int.reduceMul, Int.reduceNeg, Int.reduceToNat, reduceCtorEq, reduceIte, GO_mcallv, lenV_sl H.g, lenV_sl H.a, lenV_sl H.w, elem_sl Spn.el H.g, elem_sl Anc.el H.a, elem_sl Wal.el H.w, view_sl H.g, view_sl H.a, view_sl H.w, scalar_sl H.g, scalar_sl H.a, scalar_sl H.w, cells_sl H.g, cells_sl H.a, cells_sl H.w, pure_sl H.g, pure_sl H.a, pure_sl H.w, Spn.e, Anc.e, Wal.e, Spn.eta, Anc.eta, Wal.eta, Int.toNat_natCast, w0, w1, e]
    rw [G_loop]
    simp (disch := first | assumption | omega | (simp only [az]; done)) only [ru, eq_self, if_true, if_false, BEq.rfl, binI, AO.row?, splice, fillL, mmAll, loadV, storeV, zeros, Am.rowAt, Am.part, addOff, Nat.reduceAdd, Nat.reduceMul, Nat.reduceLeDiff, Nat.reduceSub, Nat.reduceLT, Int.reduceEq, Int.reduceLT, Int.reduceLE, Int.reduceGT, Int.reduceGE, Int.reduceAdd, Int.reduceSub, Int.reduceMul, Int.reduceNeg, Int.reduceToNat, reduceCtorEq, reduceIte, GO_mcallv, GO_sappend, exOp_sapp, appS_nil, appS_ms, lenV_sl H.g, lenV_sl H.a, lenV_sl H.w, elem_sl Spn.el H.g, elem_sl Anc.el H.a, elem_sl Wal.el H.w, view_sl H.g, view_sl H.a, view_sl H.w, scalar_sl H.g, scalar_sl H.a, scalar_sl H.w, cells_sl H.g, cells_sl H.a, cells_sl H.w, pure_sl H.g, pure_sl H.a, pure_sl H.w, Spn.e, Anc.e, Wal.e, Spn.eta, Anc.eta, Wal.eta, Int.toNat_natCast, e, d0, v0, List.length_cons, List.length_nil, List.length_singleton, List.cons_append, List.nil_append, true_or]
    rw [G_loop]
    simp (disch := first | assumption | omega | (simp only [az]; done)) only [ru, eq_self, if_true, if_false, BEq.rfl, binI, AO.row?, splice, fillL, mmAll, loadV, storeV, zeros, Am.rowAt, Am.part, addOff, Nat.reduceAdd, Nat.reduceMul, Nat.reduceLeDiff, Nat.reduceSub, Nat.reduceLT, Int.reduceEq, Int.reduceLT, Int.reduceLE, Int.reduceGT, Int.reduceGE, Int.reduceAdd, Int.reduceSub, Int.reduceMul, Int.reduceNeg, Int.reduceToNat, reduceCtorEq, reduceIte, GO_mcallv, GO_sappend, exOp_sapp, appS_nil, appS_ms, lenV_sl H.g, lenV_sl H.a, lenV_sl H.w, elem_sl Spn.el H.g, elem_sl Anc.el H.a, elem_sl Wal.el H.w, view_sl H.g, view_sl H.a, view_sl H.w, scalar_sl H.g, scalar_sl H.a, scalar_sl H.w, cells_sl H.g, cells_sl H.a, cells_sl H.w, pure_sl H.g, pure_sl H.a, pure_sl H.w, Spn.e, Anc.e, Wal.e, Spn.eta, Anc.eta, Wal.eta, Int.toNat_natCast, e, d1, v1, List.length_cons, List.length_nil, List.length_singleton, List.cons_append, List.nil_append, true_or]
    rw [G_loop]
    simp (disch := first | assumption | omega | (simp only [az]; done)) only [ru, eq_self, if_true, if_false, BEq.rfl, binI, AO.row?, splice, fillL, mmAll, loadV, storeV, zeros, Am.rowAt, Am.part, addOff, Nat.reduceAdd, Nat.reduceMul, Nat.reduceLeDiff, Nat.reduceSub, Nat.reduceLT, Int.reduceEq, Int.reduceLT, Int.reduceLE, Int.reduceGT, Int.reduceGE, Int.reduceAdd, Int.reduceSub, Int.reduceMul, Int.reduceNeg, Int.reduceToNat, reduceCtorEq, reduceIte, GO_mcallv, GO_sappend, exOp_sapp, appS_nil, appS_ms, lenV_sl H.g, lenV_sl H.a, lenV_sl H.w, elem_sl Spn.el H.g, elem_sl Anc.el H.a, elem_sl Wal.el H.w, view_sl H.g, view_sl H.a, view_sl H.w, scalar_sl H.g, scalar_sl H.a, scalar_sl H.w, cells_sl H.g, cells_sl H.a, cells_sl H.w, pure_sl H.g, pure_sl H.a, pure_sl H.w, Spn.e, Anc.e, Wal.e, Spn.eta, Anc.eta, Wal.eta, Int.toNat_natCast, e, d2, v2, List.length_cons, List.length_nil, List.length_singleton, List.cons_append, List.nil_append, true_or]
    rw [G_loop]
    simp (disch := first | assumption | omega | (simp only [az]; done)) only [ru, eq_self, if_true, if_false, BEq.rfl, binI, AO.row?, splice, fillL, mmAll, loadV, storeV, zeros, Am.rowAt, Am.part, addOff, Nat.reduceAdd, Nat.reduceMul, Nat.reduceLeDiff, Nat.reduceSub, Nat.reduceLT, Int.reduceEq, Int.reduceLT, Int.reduceLE, Int.reduceGT, Int.reduceGE, Int.reduceAdd, Int.reduceSub, Int.reduceMul, Int.reduceNeg, Int.reduceToNat, reduceCtorEq, reduceIte, lenV_sl H.g, lenV_sl H.a, lenV_sl H.w, elem_sl Spn.el H.g, elem_sl Anc.el H.a, elem_sl Wal.el H.w, view_sl H.g, view_sl H.a, view_sl H.w, scalar_sl H.g, scalar_sl H.a, scalar_sl H.w, cells_sl H.g, cells_sl H.a, cells_sl H.w, pure_sl H.g, pure_sl H.a, pure_sl H.w, Spn.e, Anc.e, Wal.e, Spn.eta, Anc.eta, Wal.eta, Int.toNat_natCast, e, finC, getRes, Option.some.injEq, exists_eq_left']
    rfl
end Go.Proofs.Ytpflneddfhifkaa.S
