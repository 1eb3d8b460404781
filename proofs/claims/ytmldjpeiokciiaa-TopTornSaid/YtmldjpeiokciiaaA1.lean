/-
Functions of both sides of stage 2, one after another (A1).
-/
import Derived.Test.YtmldjpeiokciiaaTab

namespace Go.Proofs.Ytmldjpeiokciiaa.A
open Go Go.Am Go.Proofs.Ytmldjpeiokciiaa.T
set_option maxRecDepth 100000
set_option linter.unusedSimpArgs false
set_option linter.unusedVariables false

def inR (n lo hi : Int) : Bool := decide (lo ≤ n) && decide (n ≤ hi)

structure Spn where
  lo : Int
  hi : Int
  deriving Inhabited
structure Anc where
  w : Int
  b : Int
  deriving Inhabited
structure Wal where
  sail : Int
  drag : Int
  lean : Int
  corks : Int
  stones : Int
  deriving Inhabited
structure Net where
  wind : Spn
  cur : Spn
  grips : List Spn
  ancs : List Anc
  walls : List Wal
def Spn.e (s : Spn) : List AV := [I s.lo, I s.hi]
def Anc.e (s : Anc) : List AV := [I s.w, I s.b]
def Wal.e (s : Wal) : List AV := [I s.sail, I s.drag, I s.lean, I s.corks, I s.stones]
theorem Spn.el (s : Spn) : s.e.length = 2 := rfl
theorem Anc.el (s : Anc) : s.e.length = 2 := rfl
theorem Wal.el (s : Wal) : s.e.length = 5 := rfl
theorem intE (n : Int) : [I n].length = 1 := rfl

def spanOk (s : Spn) (m : Int) : Bool := inR s.hi 0 m && inR s.lo 0 s.hi

theorem s58 (n lo hi : Int) (st : Bool) : Iso E 29 [I n, I lo, I hi] st = some (Bo (inR n lo hi)) := by
  refine Iso_of (es _ _ _ _) e29 ?_
  simp only [f29, inR]
  simp (disch := first | assumption | omega | (simp only [az]; done)) only [ru, eq_self, if_true, if_false, BEq.rfl, binI, AO.row?, splice, fillL, mmAll, loadV, storeV, zeros, Am.rowAt, Am.part, addOff, Nat.reduceAdd, Nat.reduceMul, Nat.reduceLeDiff, Nat.reduceSub, Nat.reduceLT, Int.reduceEq, Int.reduceLT, Int.reduceLE, Int.reduceGT, Int.reduceGE, Int.reduceAdd, Int.reduceSub, Int.reduceMul, Int.reduceNeg, Int.reduceToNat, reduceCtorEq, reduceIte]
  by_cases h1 : lo ≤ n
  · simp (disch := first | assumption | omega | (simp only [az]; done)) only [ru, eq_self, if_true, if_false, BEq.rfl, binI, AO.row?, splice, fillL, mmAll, loadV, storeV, zeros, Am.rowAt, Am.part, addOff, Nat.reduceAdd, Nat.reduceMul, Nat.reduceLeDiff, Nat.reduceSub, Nat.reduceLT, Int.reduceEq, Int.reduceLT, Int.reduceLE, Int.reduceGT, Int.reduceGE, Int.reduceAdd, Int.reduceSub, Int.reduceMul, Int.reduceNeg, Int.reduceToNat, reduceCtorEq, reduceIte, h1]
  · simp (disch := first | assumption | omega | (simp only [az]; done)) only [ru, eq_self, if_true, if_false, BEq.rfl, binI, AO.row?, splice, fillL, mmAll, loadV, storeV, zeros, Am.rowAt, Am.part, addOff, Nat.reduceAdd, Nat.reduceMul, Nat.reduceLeDiff, Nat.reduceSub, Nat.reduceLT, Int.reduceEq, Int.reduceLT, Int.reduceLE, Int.reduceGT, Int.reduceGE, Int.reduceAdd, Int.reduceSub, Int.reduceMul, Int.reduceNeg, Int.reduceToNat, reduceCtorEq, reduceIte, h1]

theorem s67 (n lo hi : Int) (st : Bool) : Iso E 13 [I n, I lo, I hi] st = some (Bo (inR n lo hi)) := by
  refine Iso_of (es _ _ _ _) e13 ?_
  simp only [f13]
  simp (disch := first | assumption | omega | (simp only [az]; done)) only [ru, eq_self, if_true, if_false, BEq.rfl, binI, AO.row?, splice, fillL, mmAll, loadV, storeV, zeros, Am.rowAt, Am.part, addOff, Nat.reduceAdd, Nat.reduceMul, Nat.reduceLeDiff, Nat.reduceSub, Nat.reduceLT, Int.reduceEq, Int.reduceLT, Int.reduceLE, Int.reduceGT, Int.reduceGE, Int.reduceAdd, Int.reduceSub, Int.reduceMul, Int.reduceNeg, Int.reduceToNat, reduceCtorEq, reduceIte, s58]

theorem s66 (lo hi m : Int) (st : Bool) : Iso E 12 [.agg [I lo, I hi], I m] st = some (Bo (spanOk ⟨lo, hi⟩ m)) := by
  refine Iso_of (es _ _ _ _) e12 ?_
  simp only [f12, spanOk]
  simp (disch := first | assumption | omega | (simp only [az]; done)) only [ru, eq_self, if_true, if_false, BEq.rfl, binI, AO.row?, splice, fillL, mmAll, loadV, storeV, zeros, Am.rowAt, Am.part, addOff, Nat.reduceAdd, Nat.reduceMul, Nat.reduceLeDiff, Nat.reduceSub, Nat.reduceLT, Int.reduceEq, Int.reduceLT, Int.reduceLE, Int.reduceGT, Int.reduceGE, Int.reduceAdd, Int.reduceSub, Int.reduceMul, Int.reduceNeg, Int.reduceToNat, reduceCtorEq, reduceIte, s67]
  cases h1 : inR hi 0 m
  · simp (disch := first | assumption | omega | (simp only [az]; done)) only [ru, eq_self, if_true, if_false, BEq.rfl, binI, AO.row?, splice, fillL, mmAll, loadV, storeV, zeros, Am.rowAt, Am.part, addOff, Nat.reduceAdd, Nat.reduceMul, Nat.reduceLeDiff, Nat.reduceSub, Nat.reduceLT, Int.reduceEq, Int.reduceLT, Int.reduceLE, Int.reduceGT, Int.reduceGE, Int.reduceAdd, Int.reduceSub, Int.reduceMul, Int.reduceNeg, Int.reduceToNat, reduceCtorEq, reduceIte, h1]
  · simp (disch := first | assumption | omega | (simp only [az]; done)) only [ru, eq_self, if_true, if_false, BEq.rfl, binI, AO.row?, splice, fillL, mmAll, loadV, storeV, zeros, Am.rowAt, Am.part, addOff, Nat.reduceAdd, Nat.reduceMul, Nat.reduceLeDiff, Nat.reduceSub, Nat.reduceLT, Int.reduceEq, Int.reduceLT, Int.reduceLE, Int.reduceGT, Int.reduceGE, Int.reduceAdd, Int.reduceSub, Int.reduceMul, Int.reduceNeg, Int.reduceToNat, reduceCtorEq, reduceIte, h1, s67]

theorem Spn.eta (s : Spn) : Spn.mk s.lo s.hi = s := rfl
theorem Anc.eta (s : Anc) : Anc.mk s.w s.b = s := rfl
theorem Wal.eta (s : Wal) : Wal.mk s.sail s.drag s.lean s.corks s.stones = s := rfl

abbrev netV (n : Net) (g a w : AV) : AV := .agg [I n.wind.lo, I n.wind.hi, I n.cur.lo, I n.cur.hi, g, a, w]

structure NetOk (n : Net) (g a w : AV) : Prop where
  g : IsSl 2 Spn.e n.grips g
  a : IsSl 2 Anc.e n.ancs a
  w : IsSl 5 Wal.e n.walls w
  sg : n.grips.length ≤ 40
  sa : n.ancs.length ≤ 40
  sw : n.walls.length ≤ 40

def ancOk (n : Net) (a : Anc) : Bool := inR a.w 0 20 && inR a.b 0 (n.grips.length - 1)
def walOk (w : Wal) : Bool := inR w.sail 0 9 && inR w.drag 0 9 && inR w.lean 0 9 && inR w.corks 0 99 && inR w.stones 0 99
def Net.valid (n : Net) : Bool := spanOk n.wind 20 && spanOk n.cur 20 && decide (n.grips.length ≤ 3) && decide (n.ancs.length ≤ 6) && decide (n.walls.length = n.ancs.length - 1) &&
  n.grips.all (spanOk · 9) && n.ancs.all (ancOk n) && n.walls.all walOk

theorem all_upto_succ {α : Type} [Inhabited α] {l : List α} {p : α → Bool} {i : Nat} (hi : i < l.length) {x : α} (hx : l.getD i default = x) (h : (l.take i).all p = true) (hp : p x = true) : (l.take (i + 1)).all p = true := by
  subst hx
  rw [List.take_succ_eq_append_getElem hi, List.all_append, h]
  simpa [List.getD_eq_getElem?_getD, hi] using hp
theorem all_not {α : Type} [Inhabited α] {l : List α} {p : α → Bool} {i : Nat} (hi : i < l.length) {x : α} (hx : l.getD i default = x) (hp : p x = false) : l.all p = false := by
  subst hx
  rw [List.all_eq_false]
  exact ⟨l[i], List.getElem_mem hi, by simpa [List.getD_eq_getElem?_getD, hi] using hp⟩

end Go.Proofs.Ytmldjpeiokciiaa.A

namespace Go.Proofs.Ytmldjpeiokciiaa.A
open Go Go.Am Go.Proofs.Ytmldjpeiokciiaa.T
end Go.Proofs.Ytmldjpeiokciiaa.A

namespace Go.Proofs.Ytmldjpeiokciiaa.A
open Go Go.Am Go.Proofs.Ytmldjpeiokciiaa.T
set_option maxRecDepth 100000
set_option linter.unusedSimpArgs false
set_option linter.unusedVariables false

theorem s19 {n : Net} {g a w : AV} (H : NetOk n g a w) (st : Bool) : Iso E 5 [netV n g a w] st = some (I (if n.valid then 0 else 20)) := by
  have sg := H.sg; have sa := H.sa; have sw := H.sw
  refine Iso_of (es _ _ _ _) e5 ?_
  simp only [f5, netV]
  simp (disch := first | assumption | omega | (simp only [az]; done)) only [ru, eq_self, if_true, if_false, BEq.rfl, binI, AO.row?, splice, fillL, mmAll, loadV, storeV, zeros, Am.rowAt, Am.part, addOff, Nat.reduceAdd, Nat.reduceMul, Nat.reduceLeDiff, Nat.reduceSub, Nat.reduceLT, Int.reduceEq, Int.reduceLT, Int.reduceLE, Int.reduceGT, Int.reduceGE, Int.reduceAdd, Int.reduceSub, Int.reduceMul, Int.reduceNeg, Int.reduceToNat, reduceCtorEq, reduceIte, s66, lenV_sl H.g, lenV_sl H.a, lenV_sl H.w, elem_sl Spn.el H.g, elem_sl Anc.el H.a, elem_sl Wal.el H.w, view_sl H.g, view_sl H.a, view_sl H.w, scalar_sl H.g, scalar_sl H.a, scalar_sl H.w, cells_sl H.g, cells_sl H.a, cells_sl H.w, pure_sl H.g, pure_sl H.a, pure_sl H.w, Spn.e, Anc.e, Wal.e, Spn.eta, Anc.eta, Wal.eta, Int.toNat_natCast]
  cases h1 : spanOk n.wind 20
  · simp (disch := first | assumption | omega | (simp only [az]; done)) only [ru, eq_self, if_true, if_false, BEq.rfl, binI, AO.row?, splice, fillL, mmAll, loadV, storeV, zeros, Am.rowAt, Am.part, addOff, Nat.reduceAdd, Nat.reduceMul, Nat.reduceLeDiff, Nat.reduceSub, Nat.reduceLT, Int.reduceEq, Int.reduceLT, Int.reduceLE, Int.reduceGT, Int.reduceGE, Int.reduceAdd, Int.reduceSub, Int.reduceMul, Int.reduceNeg, Int.reduceToNat, reduceCtorEq, reduceIte, h1]
    simp [Net.valid, h1]
  simp (disch := first | assumption | omega | (simp only [az]; done)) only [ru, eq_self, if_true, if_false, BEq.rfl, binI, AO.row?, splice, fillL, mmAll, loadV, storeV, zeros, Am.rowAt, Am.part, addOff, Nat.reduceAdd, Nat.reduceMul, Nat.reduceLeDiff, Nat.reduceSub, Nat.reduceLT, Int.reduceEq, Int.reduceLT, Int.reduceLE, Int.reduceGT, Int.reduceGE, Int.reduceAdd, Int.reduceSub, Int.reduceMul, Int.reduceNeg, Int.reduceToNat, reduceCtorEq, reduceIte, s66, lenV_sl H.g, lenV_sl H.a, lenV_sl H.w, elem_sl Spn.el H.g, elem_sl Anc.el H.a, elem_sl Wal.el H.w, view_sl H.g, view_sl H.a, view_sl H.w, scalar_sl H.g, scalar_sl H.a, scalar_sl H.w, cells_sl H.g, cells_sl H.a, cells_sl H.w, pure_sl H.g, pure_sl H.a, pure_sl H.w, Spn.e, Anc.e, Wal.e, Spn.eta, Anc.eta, Wal.eta, Int.toNat_natCast]
  cases h2 : spanOk n.cur 20
  · simp (disch := first | assumption | omega | (simp only [az]; done)) only [ru, eq_self, if_true, if_false, BEq.rfl, binI, AO.row?, splice, fillL, mmAll, loadV, storeV, zeros, Am.rowAt, Am.part, addOff, Nat.reduceAdd, Nat.reduceMul, Nat.reduceLeDiff, Nat.reduceSub, Nat.reduceLT, Int.reduceEq, Int.reduceLT, Int.reduceLE, Int.reduceGT, Int.reduceGE, Int.reduceAdd, Int.reduceSub, Int.reduceMul, Int.reduceNeg, Int.reduceToNat, reduceCtorEq, reduceIte, h2]
    simp [Net.valid, h2]
  simp (disch := first | assumption | omega | (simp only [az]; done)) only [ru, eq_self, if_true, if_false, BEq.rfl, binI, AO.row?, splice, fillL, mmAll, loadV, storeV, zeros, Am.rowAt, Am.part, addOff, Nat.reduceAdd, Nat.reduceMul, Nat.reduceLeDiff, Nat.reduceSub, Nat.reduceLT, Int.reduceEq, Int.reduceLT, Int.reduceLE, Int.reduceGT, Int.reduceGE, Int.reduceAdd, Int.reduceSub, Int.reduceMul, Int.reduceNeg, Int.reduceToNat, reduceCtorEq, reduceIte, s66, lenV_sl H.g, lenV_sl H.a, lenV_sl H.w, elem_sl Spn.el H.g, elem_sl Anc.el H.a, elem_sl Wal.el H.w, view_sl H.g, view_sl H.a, view_sl H.w, scalar_sl H.g, scalar_sl H.a, scalar_sl H.w, cells_sl H.g, cells_sl H.a, cells_sl H.w, pure_sl H.g, pure_sl H.a, pure_sl H.w, Spn.e, Anc.e, Wal.e, Spn.eta, Anc.eta, Wal.eta, Int.toNat_natCast]
  by_cases h3 : (n.grips.length : Int) > 3
  · simp (disch := first | assumption | omega | (simp only [az]; done)) only [ru, eq_self, if_true, if_false, BEq.rfl, binI, AO.row?, splice, fillL, mmAll, loadV, storeV, zeros, Am.rowAt, Am.part, addOff, Nat.reduceAdd, Nat.reduceMul, Nat.reduceLeDiff, Nat.reduceSub, Nat.reduceLT, Int.reduceEq, Int.reduceLT, Int.reduceLE, Int.reduceGT, Int.reduceGE, Int.reduceAdd, Int.reduceSub, Int.reduceMul, Int.reduceNeg, Int.reduceToNat, reduceCtorEq, reduceIte, h3]
    have : ¬ n.grips.length ≤ 3 := by omega
    simp [Net.valid, this]
  simp (disch := first | assumption | omega | (simp only [az]; done)) only [ru, eq_self, if_true, if_false, BEq.rfl, binI, AO.row?, splice, fillL, mmAll, loadV, storeV, zeros, Am.rowAt, Am.part, addOff, Nat.reduceAdd, Nat.reduceMul, Nat.reduceLeDiff, Nat.reduceSub, Nat.reduceLT, Int.reduceEq, Int.reduceLT, Int.reduceLE, Int.reduceGT, Int.reduceGE, Int.reduceAdd, Int.reduceSub, Int.reduceMul, Int.reduceNeg, Int.reduceToNat, reduceCtorEq, reduceIte, h3, lenV_sl H.g, lenV_sl H.a, lenV_sl H.w, elem_sl Spn.el H.g, elem_sl Anc.el H.a, elem_sl Wal.el H.w, view_sl H.g, view_sl H.a, view_sl H.w, scalar_sl H.g, scalar_sl H.a, scalar_sl H.w, cells_sl H.g, cells_sl H.a, cells_sl H.w, pure_sl H.g, pure_sl H.a, pure_sl H.w, Spn.e, Anc.e, Wal.e, Spn.eta, Anc.eta, Wal.eta, Int.toNat_natCast]
  by_cases h4 : (n.ancs.length : Int) > 6
  · simp (disch := first | assumption | omega | (simp only [az]; done)) only [ru, eq_self, if_true, if_false, BEq.rfl, binI, AO.row?, splice, fillL, mmAll, loadV, storeV, zeros, Am.rowAt, Am.part, addOff, Nat.reduceAdd, Nat.reduceMul, Nat.reduceLeDiff, Nat.reduceSub, Nat.reduceLT, Int.reduceEq, Int.reduceLT, Int.reduceLE, Int.reduceGT, Int.reduceGE, Int.reduceAdd, Int.reduceSub, Int.reduceMul, Int.reduceNeg, Int.reduceToNat, reduceCtorEq, reduceIte, h4]
    have : ¬ n.ancs.length ≤ 6 := by omega
    simp [Net.valid, this]
  simp (disch := first | assumption | omega | (simp only [az]; done)) only [ru, eq_self, if_true, if_false, BEq.rfl, binI, AO.row?, splice, fillL, mmAll, loadV, storeV, zeros, Am.rowAt, Am.part, addOff, Nat.reduceAdd, Nat.reduceMul, Nat.reduceLeDiff, Nat.reduceSub, Nat.reduceLT, Int.reduceEq, Int.reduceLT, Int.reduceLE, Int.reduceGT, Int.reduceGE, Int.reduceAdd, Int.reduceSub, Int.reduceMul, Int.reduceNeg, Int.reduceToNat, reduceCtorEq, reduceIte, h4, lenV_sl H.g, lenV_sl H.a, lenV_sl H.w, elem_sl Spn.el H.g, elem_sl Anc.el H.a, elem_sl Wal.el H.w, view_sl H.g, view_sl H.a, view_sl H.w, scalar_sl H.g, scalar_sl H.a, scalar_sl H.w, cells_sl H.g, cells_sl H.a, cells_sl H.w, pure_sl H.g, pure_sl H.a, pure_sl H.w, Spn.e, Anc.e, Wal.e, Spn.eta, Anc.eta, Wal.eta, Int.toNat_natCast, mmx]
  by_cases h5 : (n.walls.length : Int) = if (n.ancs.length : Int) - 1 > 0 then (n.ancs.length : Int) - 1 else 0
  case neg =>
    simp (disch := first | assumption | omega | (simp only [az]; done)) only [ru, eq_self, if_true, if_false, BEq.rfl, binI, AO.row?, splice, fillL, mmAll, loadV, storeV, zeros, Am.rowAt, Am.part, addOff, Nat.reduceAdd, Nat.reduceMul, Nat.reduceLeDiff, Nat.reduceSub, Nat.reduceLT, Int.reduceEq, Int.reduceLT, Int.reduceLE, Int.reduceGT, Int.reduceGE, Int.reduceAdd, Int.reduceSub, Int.reduceMul, Int.reduceNeg, Int.reduceToNat, reduceCtorEq, reduceIte, h5]
    have : ¬ n.walls.length = n.ancs.length - 1 := by split at h5 <;> omega
    simp [Net.valid, this]
  have h5' : n.walls.length = n.ancs.length - 1 := by split at h5 <;> omega
  simp (disch := first | assumption | omega | (simp only [az]; done)) only [ru, eq_self, if_true, if_false, BEq.rfl, binI, AO.row?, splice, fillL, mmAll, loadV, storeV, zeros, Am.rowAt, Am.part, addOff, Nat.reduceAdd, Nat.reduceMul, Nat.reduceLeDiff, Nat.reduceSub, Nat.reduceLT, Int.reduceEq, Int.reduceLT, Int.reduceLE, Int.reduceGT, Int.reduceGE, Int.reduceAdd, Int.reduceSub, Int.reduceMul, Int.reduceNeg, Int.reduceToNat, reduceCtorEq, reduceIte, h5]
  refine G_loop_ind (fun m ts h mk => ∃ i : Nat, i ≤ n.grips.length ∧ m = n.grips.length - i ∧ (n.grips.take i).all (spanOk · 9) = true ∧ ts.length = 123 ∧
    ts.getD 1 .undef = .ptr 0 0 ∧ ts.getD 3 .undef = I i ∧ h = [.cells [I n.wind.lo, I n.wind.hi, I n.cur.lo, I n.cur.hi, g, a, w] false] ∧ mk = []) ?_ _ _ _ _ ⟨0, Nat.zero_le _, rfl, rfl, rfl, rfl, rfl, rfl, rfl⟩
  rintro m ts h mk ih ⟨i, hi, rfl, hall, hl, hs1, hs3, rfl, rfl⟩
  rw [lit_all hl]
  simp only [lit0, litS, Nat.reduceAdd, hs1, hs3]
  simp (disch := first | assumption | omega | (simp only [az]; done)) only [ru, eq_self, if_true, if_false, BEq.rfl, binI, AO.row?, splice, fillL, mmAll, loadV, storeV, zeros, Am.rowAt, Am.part, addOff, Nat.reduceAdd, Nat.reduceMul, Nat.reduceLeDiff, Nat.reduceSub, Nat.reduceLT, Int.reduceEq, Int.reduceLT, Int.reduceLE, Int.reduceGT, Int.reduceGE, Int.reduceAdd, Int.reduceSub, Int.reduceMul, Int.reduceNeg, Int.reduceToNat, reduceCtorEq, reduceIte, lenV_sl H.g, lenV_sl H.a, lenV_sl H.w, elem_sl Spn.el H.g, elem_sl Anc.el H.a, elem_sl Wal.el H.w, view_sl H.g, view_sl H.a, view_sl H.w, scalar_sl H.g, scalar_sl H.a, scalar_sl H.w, cells_sl H.g, cells_sl H.a, cells_sl H.w, pure_sl H.g, pure_sl H.a, pure_sl H.w, Spn.e, Anc.e, Wal.e, Spn.eta, Anc.eta, Wal.eta, Int.toNat_natCast]
  by_cases hlt : (i : Int) < n.grips.length
  case pos =>
    have hlt' : i < n.grips.length := by omega
    simp (disch := first | assumption | omega | (simp only [az]; done)) only [ru, eq_self, if_true, if_false, BEq.rfl, binI, AO.row?, splice, fillL, mmAll, loadV, storeV, zeros, Am.rowAt, Am.part, addOff, Nat.reduceAdd, Nat.reduceMul, Nat.reduceLeDiff, Nat.reduceSub, Nat.reduceLT, Int.reduceEq, Int.reduceLT, Int.reduceLE, Int.reduceGT, Int.reduceGE, Int.reduceAdd, Int.reduceSub, Int.reduceMul, Int.reduceNeg, Int.reduceToNat, reduceCtorEq, reduceIte, lenV_sl H.g, lenV_sl H.a, lenV_sl H.w, elem_sl Spn.el H.g, elem_sl Anc.el H.a, elem_sl Wal.el H.w, view_sl H.g, view_sl H.a, view_sl H.w, scalar_sl H.g, scalar_sl H.a, scalar_sl H.w, cells_sl H.g, cells_sl H.a, cells_sl H.w, pure_sl H.g, pure_sl H.a, pure_sl H.w, Spn.e, Anc.e, Wal.e, Spn.eta, Anc.eta, Wal.eta, Int.toNat_natCast, hlt, s66]
    generalize hx : n.grips.getD i default = x
    cases hs : spanOk x 9
    · simp (disch := first | assumption | omega | (simp only [az]; done)) only [ru, eq_self, if_true, if_false, BEq.rfl, binI, AO.row?, splice, fillL, mmAll, loadV, storeV, zeros, Am.rowAt, Am.part, addOff, Nat.reduceAdd, Nat.reduceMul, Nat.reduceLeDiff, Nat.reduceSub, Nat.reduceLT, Int.reduceEq, Int.reduceLT, Int.reduceLE, Int.reduceGT, Int.reduceGE, Int.reduceAdd, Int.reduceSub, Int.reduceMul, Int.reduceNeg, Int.reduceToNat, reduceCtorEq, reduceIte]
      simp [Net.valid, all_not (p := (spanOk · 9)) hlt' hx hs]
    · simp (disch := first | assumption | omega | (simp only [az]; done)) only [ru, eq_self, if_true, if_false, BEq.rfl, binI, AO.row?, splice, fillL, mmAll, loadV, storeV, zeros, Am.rowAt, Am.part, addOff, Nat.reduceAdd, Nat.reduceMul, Nat.reduceLeDiff, Nat.reduceSub, Nat.reduceLT, Int.reduceEq, Int.reduceLT, Int.reduceLE, Int.reduceGT, Int.reduceGE, Int.reduceAdd, Int.reduceSub, Int.reduceMul, Int.reduceNeg, Int.reduceToNat, reduceCtorEq, reduceIte]
      exact ih (n.grips.length - (i + 1)) _ _ _ (by omega) ⟨i + 1, by omega, rfl, all_upto_succ hlt' hx hall hs, rfl, rfl, rfl, rfl, rfl⟩
  have hg : n.grips.all (spanOk · 9) = true := by rw [List.take_of_length_le (by omega)] at hall; exact hall
  simp (disch := first | assumption | omega | (simp only [az]; done)) only [ru, eq_self, if_true, if_false, BEq.rfl, binI, AO.row?, splice, fillL, mmAll, loadV, storeV, zeros, Am.rowAt, Am.part, addOff, Nat.reduceAdd, Nat.reduceMul, Nat.reduceLeDiff, Nat.reduceSub, Nat.reduceLT, Int.reduceEq, Int.reduceLT, Int.reduceLE, Int.reduceGT, Int.reduceGE, Int.reduceAdd, Int.reduceSub, Int.reduceMul, Int.reduceNeg, Int.reduceToNat, reduceCtorEq, reduceIte, hlt]
  refine G_loop_ind (fun m ts h mk => ∃ i : Nat, i ≤ n.ancs.length ∧ m = n.ancs.length - i ∧ (n.ancs.take i).all (ancOk n) = true ∧ ts.length = 123 ∧
    ts.getD 1 .undef = .ptr 0 0 ∧ ts.getD 4 .undef = I i ∧ h = [.cells [I n.wind.lo, I n.wind.hi, I n.cur.lo, I n.cur.hi, g, a, w] false] ∧ mk = []) ?_ _ _ _ _ ⟨0, Nat.zero_le _, rfl, rfl, rfl, rfl, rfl, rfl, rfl⟩
  clear ih hs1 hs3 hl hall hlt hi
  rintro m ts h mk ih ⟨i, hi, rfl, hall, hl, hs1, hs4, rfl, rfl⟩
  rw [lit_all hl]
  simp only [lit0, litS, Nat.reduceAdd, hs1, hs4]
  simp (disch := first | assumption | omega | (simp only [az]; done)) only [ru, eq_self, if_true, if_false, BEq.rfl, binI, AO.row?, splice, fillL, mmAll, loadV, storeV, zeros, Am.rowAt, Am.part, addOff, Nat.reduceAdd, Nat.reduceMul, Nat.reduceLeDiff, Nat.reduceSub, Nat.reduceLT, Int.reduceEq, Int.reduceLT, Int.reduceLE, Int.reduceGT, Int.reduceGE, Int.reduceAdd, Int.reduceSub, Int.reduceMul, Int.reduceNeg, Int.reduceToNat, reduceCtorEq, reduceIte, lenV_sl H.g, lenV_sl H.a, lenV_sl H.w, elem_sl Spn.el H.g, elem_sl Anc.el H.a, elem_sl Wal.el H.w, view_sl H.g, view_sl H.a, view_sl H.w, scalar_sl H.g, scalar_sl H.a, scalar_sl H.w, cells_sl H.g, cells_sl H.a, cells_sl H.w, pure_sl H.g, pure_sl H.a, pure_sl H.w, Spn.e, Anc.e, Wal.e, Spn.eta, Anc.eta, Wal.eta, Int.toNat_natCast]
  by_cases hlt : (i : Int) < n.ancs.length
  case pos =>
    have hlt' : i < n.ancs.length := by omega
    simp (disch := first | assumption | omega | (simp only [az]; done)) only [ru, eq_self, if_true, if_false, BEq.rfl, binI, AO.row?, splice, fillL, mmAll, loadV, storeV, zeros, Am.rowAt, Am.part, addOff, Nat.reduceAdd, Nat.reduceMul, Nat.reduceLeDiff, Nat.reduceSub, Nat.reduceLT, Int.reduceEq, Int.reduceLT, Int.reduceLE, Int.reduceGT, Int.reduceGE, Int.reduceAdd, Int.reduceSub, Int.reduceMul, Int.reduceNeg, Int.reduceToNat, reduceCtorEq, reduceIte, lenV_sl H.g, lenV_sl H.a, lenV_sl H.w, elem_sl Spn.el H.g, elem_sl Anc.el H.a, elem_sl Wal.el H.w, view_sl H.g, view_sl H.a, view_sl H.w, scalar_sl H.g, scalar_sl H.a, scalar_sl H.w, cells_sl H.g, cells_sl H.a, cells_sl H.w, pure_sl H.g, pure_sl H.a, pure_sl H.w, Spn.e, Anc.e, Wal.e, Spn.eta, Anc.eta, Wal.eta, Int.toNat_natCast, hlt, s67]
    generalize hx : n.ancs.getD i default = x
    cases hs : inR x.w 0 20
    · simp (disch := first | assumption | omega | (simp only [az]; done)) only [ru, eq_self, if_true, if_false, BEq.rfl, binI, AO.row?, splice, fillL, mmAll, loadV, storeV, zeros, Am.rowAt, Am.part, addOff, Nat.reduceAdd, Nat.reduceMul, Nat.reduceLeDiff, Nat.reduceSub, Nat.reduceLT, Int.reduceEq, Int.reduceLT, Int.reduceLE, Int.reduceGT, Int.reduceGE, Int.reduceAdd, Int.reduceSub, Int.reduceMul, Int.reduceNeg, Int.reduceToNat, reduceCtorEq, reduceIte]
      simp [Net.valid, all_not (p := ancOk n) hlt' hx (by simp only [ancOk, hs, Bool.false_and])]
    · simp (disch := first | assumption | omega | (simp only [az]; done)) only [ru, eq_self, if_true, if_false, BEq.rfl, binI, AO.row?, splice, fillL, mmAll, loadV, storeV, zeros, Am.rowAt, Am.part, addOff, Nat.reduceAdd, Nat.reduceMul, Nat.reduceLeDiff, Nat.reduceSub, Nat.reduceLT, Int.reduceEq, Int.reduceLT, Int.reduceLE, Int.reduceGT, Int.reduceGE, Int.reduceAdd, Int.reduceSub, Int.reduceMul, Int.reduceNeg, Int.reduceToNat, reduceCtorEq, reduceIte, lenV_sl H.g, lenV_sl H.a, lenV_sl H.w, elem_sl Spn.el H.g, elem_sl Anc.el H.a, elem_sl Wal.el H.w, view_sl H.g, view_sl H.a, view_sl H.w, scalar_sl H.g, scalar_sl H.a, scalar_sl H.w, cells_sl H.g, cells_sl H.a, cells_sl H.w, pure_sl H.g, pure_sl H.a, pure_sl H.w, Spn.e, Anc.e, Wal.e, Spn.eta, Anc.eta, Wal.eta, Int.toNat_natCast, s67, hlt, hx]
      cases hb : inR x.b 0 (n.grips.length - 1)
      · simp (disch := first | assumption | omega | (simp only [az]; done)) only [ru, eq_self, if_true, if_false, BEq.rfl, binI, AO.row?, splice, fillL, mmAll, loadV, storeV, zeros, Am.rowAt, Am.part, addOff, Nat.reduceAdd, Nat.reduceMul, Nat.reduceLeDiff, Nat.reduceSub, Nat.reduceLT, Int.reduceEq, Int.reduceLT, Int.reduceLE, Int.reduceGT, Int.reduceGE, Int.reduceAdd, Int.reduceSub, Int.reduceMul, Int.reduceNeg, Int.reduceToNat, reduceCtorEq, reduceIte]
        simp [Net.valid, all_not (p := ancOk n) hlt' hx (by simp only [ancOk, hs, hb, Bool.and_false])]
      · simp (disch := first | assumption | omega | (simp only [az]; done)) only [ru, eq_self, if_true, if_false, BEq.rfl, binI, AO.row?, splice, fillL, mmAll, loadV, storeV, zeros, Am.rowAt, Am.part, addOff, Nat.reduceAdd, Nat.reduceMul, Nat.reduceLeDiff, Nat.reduceSub, Nat.reduceLT, Int.reduceEq, Int.reduceLT, Int.reduceLE, Int.reduceGT, Int.reduceGE, Int.reduceAdd, Int.reduceSub, Int.reduceMul, Int.reduceNeg, Int.reduceToNat, reduceCtorEq, reduceIte]
        exact ih (n.ancs.length - (i + 1)) _ _ _ (by omega) ⟨i + 1, by omega, rfl, all_upto_succ hlt' hx hall (by simp only [ancOk, hs, hb, Bool.and_self]), rfl, rfl, rfl, rfl, rfl⟩
  have ha : n.ancs.all (ancOk n) = true := by rw [List.take_of_length_le (by omega)] at hall; exact hall
  simp (disch := first | assumption | omega | (simp only [az]; done)) only [ru, eq_self, if_true, if_false, BEq.rfl, binI, AO.row?, splice, fillL, mmAll, loadV, storeV, zeros, Am.rowAt, Am.part, addOff, Nat.reduceAdd, Nat.reduceMul, Nat.reduceLeDiff, Nat.reduceSub, Nat.reduceLT, Int.reduceEq, Int.reduceLT, Int.reduceLE, Int.reduceGT, Int.reduceGE, Int.reduceAdd, Int.reduceSub, Int.reduceMul, Int.reduceNeg, Int.reduceToNat, reduceCtorEq, reduceIte, hlt]
  refine G_loop_ind (fun m ts h mk => ∃ (i : Nat) (J : List AO), i ≤ n.walls.length ∧ m = n.walls.length - i ∧ (n.walls.take i).all walOk = true ∧ ts.length = 123 ∧
    ts.getD 1 .undef = .ptr 0 0 ∧ ts.getD 5 .undef = I i ∧ h = .cells [I n.wind.lo, I n.wind.hi, I n.cur.lo, I n.cur.hi, g, a, w] false :: J ∧ mk = []) ?_ _ _ _ _ ⟨0, [], Nat.zero_le _, rfl, rfl, rfl, rfl, rfl, rfl, rfl⟩
  clear ih hs1 hs4 hl hall hlt hi
  rintro m ts h mk ih ⟨i, J, hi, rfl, hall, hl, hs1, hs5, rfl, rfl⟩
  rw [lit_all hl]
  simp only [lit0, litS, Nat.reduceAdd, hs1, hs5]
  simp (disch := first | assumption | omega | (simp only [az]; done)) only [ru, eq_self, if_true, if_false, BEq.rfl, binI, AO.row?, splice, fillL, mmAll, loadV, storeV, zeros, Am.rowAt, Am.part, addOff, Nat.reduceAdd, Nat.reduceMul, Nat.reduceLeDiff, Nat.reduceSub, Nat.reduceLT, Int.reduceEq, Int.reduceLT, Int.reduceLE, Int.reduceGT, Int.reduceGE, Int.reduceAdd, Int.reduceSub, Int.reduceMul, Int.reduceNeg, Int.reduceToNat, reduceCtorEq, reduceIte, lenV_sl H.g, lenV_sl H.a, lenV_sl H.w, elem_sl Spn.el H.g, elem_sl Anc.el H.a, elem_sl Wal.el H.w, view_sl H.g, view_sl H.a, view_sl H.w, scalar_sl H.g, scalar_sl H.a, scalar_sl H.w, cells_sl H.g, cells_sl H.a, cells_sl H.w, pure_sl H.g, pure_sl H.a, pure_sl H.w, Spn.e, Anc.e, Wal.e, Spn.eta, Anc.eta, Wal.eta, Int.toNat_natCast]
  by_cases hlt : (i : Int) < n.walls.length
  case pos =>
    have hlt' : i < n.walls.length := by omega
    simp (disch := first | assumption | omega | (simp only [az]; done)) only [ru, eq_self, if_true, if_false, BEq.rfl, binI, AO.row?, splice, fillL, mmAll, loadV, storeV, zeros, Am.rowAt, Am.part, addOff, Nat.reduceAdd, Nat.reduceMul, Nat.reduceLeDiff, Nat.reduceSub, Nat.reduceLT, Int.reduceEq, Int.reduceLT, Int.reduceLE, Int.reduceGT, Int.reduceGE, Int.reduceAdd, Int.reduceSub, Int.reduceMul, Int.reduceNeg, Int.reduceToNat, reduceCtorEq, reduceIte, lenV_sl H.g, lenV_sl H.a, lenV_sl H.w, elem_sl Spn.el H.g, elem_sl Anc.el H.a, elem_sl Wal.el H.w, view_sl H.g, view_sl H.a, view_sl H.w, scalar_sl H.g, scalar_sl H.a, scalar_sl H.w, cells_sl H.g, cells_sl H.a, cells_sl H.w, pure_sl H.g, pure_sl H.a, pure_sl H.w, Spn.e, Anc.e, Wal.e, Spn.eta, Anc.eta, Wal.eta, Int.toNat_natCast, hlt, s67]
    generalize hx : n.walls.getD i default = x
    cases q1 : inR x.sail 0 9
    · simp (disch := first | assumption | omega | (simp only [az]; done)) only [ru, eq_self, if_true, if_false, BEq.rfl, binI, AO.row?, splice, fillL, mmAll, loadV, storeV, zeros, Am.rowAt, Am.part, addOff, Nat.reduceAdd, Nat.reduceMul, Nat.reduceLeDiff, Nat.reduceSub, Nat.reduceLT, Int.reduceEq, Int.reduceLT, Int.reduceLE, Int.reduceGT, Int.reduceGE, Int.reduceAdd, Int.reduceSub, Int.reduceMul, Int.reduceNeg, Int.reduceToNat, reduceCtorEq, reduceIte]
      simp [Net.valid, all_not (p := walOk) hlt' hx (by simp only [walOk, q1, Bool.false_and])]
    simp (disch := first | assumption | omega | (simp only [az]; done)) only [ru, eq_self, if_true, if_false, BEq.rfl, binI, AO.row?, splice, fillL, mmAll, loadV, storeV, zeros, Am.rowAt, Am.part, addOff, Nat.reduceAdd, Nat.reduceMul, Nat.reduceLeDiff, Nat.reduceSub, Nat.reduceLT, Int.reduceEq, Int.reduceLT, Int.reduceLE, Int.reduceGT, Int.reduceGE, Int.reduceAdd, Int.reduceSub, Int.reduceMul, Int.reduceNeg, Int.reduceToNat, reduceCtorEq, reduceIte, s67]
    cases q2 : inR x.drag 0 9
    · simp (disch := first | assumption | omega | (simp only [az]; done)) only [ru, eq_self, if_true, if_false, BEq.rfl, binI, AO.row?, splice, fillL, mmAll, loadV, storeV, zeros, Am.rowAt, Am.part, addOff, Nat.reduceAdd, Nat.reduceMul, Nat.reduceLeDiff, Nat.reduceSub, Nat.reduceLT, Int.reduceEq, Int.reduceLT, Int.reduceLE, Int.reduceGT, Int.reduceGE, Int.reduceAdd, Int.reduceSub, Int.reduceMul, Int.reduceNeg, Int.reduceToNat, reduceCtorEq, reduceIte]
      simp [Net.valid, all_not (p := walOk) hlt' hx (by simp only [walOk, q1, q2, Bool.and_false, Bool.false_and])]
    simp (disch := first | assumption | omega | (simp only [az]; done)) only [ru, eq_self, if_true, if_false, BEq.rfl, binI, AO.row?, splice, fillL, mmAll, loadV, storeV, zeros, Am.rowAt, Am.part, addOff, Nat.reduceAdd, Nat.reduceMul, Nat.reduceLeDiff, Nat.reduceSub, Nat.reduceLT, Int.reduceEq, Int.reduceLT, Int.reduceLE, Int.reduceGT, Int.reduceGE, Int.reduceAdd, Int.reduceSub, Int.reduceMul, Int.reduceNeg, Int.reduceToNat, reduceCtorEq, reduceIte, s67]
    cases q3 : inR x.lean 0 9
    · simp (disch := first | assumption | omega | (simp only [az]; done)) only [ru, eq_self, if_true, if_false, BEq.rfl, binI, AO.row?, splice, fillL, mmAll, loadV, storeV, zeros, Am.rowAt, Am.part, addOff, Nat.reduceAdd, Nat.reduceMul, Nat.reduceLeDiff, Nat.reduceSub, Nat.reduceLT, Int.reduceEq, Int.reduceLT, Int.reduceLE, Int.reduceGT, Int.reduceGE, Int.reduceAdd, Int.reduceSub, Int.reduceMul, Int.reduceNeg, Int.reduceToNat, reduceCtorEq, reduceIte]
      simp [Net.valid, all_not (p := walOk) hlt' hx (by simp only [walOk, q1, q2, q3, Bool.and_false, Bool.false_and])]
    simp (disch := first | assumption | omega | (simp only [az]; done)) only [ru, eq_self, if_true, if_false, BEq.rfl, binI, AO.row?, splice, fillL, mmAll, loadV, storeV, zeros, Am.rowAt, Am.part, addOff, Nat.reduceAdd, Nat.reduceMul, Nat.reduceLeDiff, Nat.reduceSub, Nat.reduceLT, Int.reduceEq, Int.reduceLT, Int.reduceLE, Int.reduceGT, Int.reduceGE, Int.reduceAdd, Int.reduceSub, Int.reduceMul, Int.reduceNeg, Int.reduceToNat, reduceCtorEq, reduceIte, s67]
    cases q4 : inR x.corks 0 99
    · simp (disch := first | assumption | omega | (simp only [az]; done)) only [ru, eq_self, if_true, if_false, BEq.rfl, binI, AO.row?, splice, fillL, mmAll, loadV, storeV, zeros, Am.rowAt, Am.part, addOff, Nat.reduceAdd, Nat.reduceMul, Nat.reduceLeDiff, Nat.reduceSub, Nat.reduceLT, Int.reduceEq, Int.reduceLT, Int.reduceLE, Int.reduceGT, Int.reduceGE, Int.reduceAdd, Int.reduceSub, Int.reduceMul, Int.reduceNeg, Int.reduceToNat, reduceCtorEq, reduceIte]
      simp [Net.valid, all_not (p := walOk) hlt' hx (by simp only [walOk, q1, q2, q3, q4, Bool.and_false, Bool.false_and])]
    simp (disch := first | assumption | omega | (simp only [az]; done)) only [ru, eq_self, if_true, if_false, BEq.rfl, binI, AO.row?, splice, fillL, mmAll, loadV, storeV, zeros, Am.rowAt, Am.part, addOff, Nat.reduceAdd, Nat.reduceMul, Nat.reduceLeDiff, Nat.reduceSub, Nat.reduceLT, Int.reduceEq, Int.reduceLT, Int.reduceLE, Int.reduceGT, Int.reduceGE, Int.reduceAdd, Int.reduceSub, Int.reduceMul, Int.reduceNeg, Int.reduceToNat, reduceCtorEq, reduceIte, s67]
    cases q5 : inR x.stones 0 99
    · simp (disch := first | assumption | omega | (simp only [az]; done)) only [ru, eq_self, if_true, if_false, BEq.rfl, binI, AO.row?, splice, fillL, mmAll, loadV, storeV, zeros, Am.rowAt, Am.part, addOff, Nat.reduceAdd, Nat.reduceMul, Nat.reduceLeDiff, Nat.reduceSub, Nat.reduceLT, Int.reduceEq, Int.reduceLT, Int.reduceLE, Int.reduceGT, Int.reduceGE, Int.reduceAdd, Int.reduceSub, Int.reduceMul, Int.reduceNeg, Int.reduceToNat, reduceCtorEq, reduceIte]
      simp [Net.valid, all_not (p := walOk) hlt' hx (by simp only [walOk, q1, q2, q3, q4, q5, Bool.and_false, Bool.false_and])]
    simp (disch := first | assumption | omega | (simp only [az]; done)) only [ru, eq_self, if_true, if_false, BEq.rfl, binI, AO.row?, splice, fillL, mmAll, loadV, storeV, zeros, Am.rowAt, Am.part, addOff, Nat.reduceAdd, Nat.reduceMul, Nat.reduceLeDiff, Nat.reduceSub, Nat.reduceLT, Int.reduceEq, Int.reduceLT, Int.reduceLE, Int.reduceGT, Int.reduceGE, Int.reduceAdd, Int.reduceSub, Int.reduceMul, Int.reduceNeg, Int.reduceToNat, reduceCtorEq, reduceIte]
    exact ih (n.walls.length - (i + 1)) _ _ _ (by omega) ⟨i + 1, _, by omega, rfl, all_upto_succ hlt' hx hall (by simp only [walOk, q1, q2, q3, q4, q5, Bool.and_self]), rfl, rfl, rfl, rfl, rfl⟩
  have hw : n.walls.all walOk = true := by rw [List.take_of_length_le (by omega)] at hall; exact hall
  simp (disch := first | assumption | omega | (simp only [az]; done)) only [ru, eq_self, if_true, if_false, BEq.rfl, binI, AO.row?, splice, fillL, mmAll, loadV, storeV, zeros, Am.rowAt, Am.part, addOff, Nat.reduceAdd, Nat.reduceMul, Nat.reduceLeDiff, Nat.reduceSub, Nat.reduceLT, Int.reduceEq, Int.reduceLT, Int.reduceLE, Int.reduceGT, Int.reduceGE, Int.reduceAdd, Int.reduceSub, Int.reduceMul, Int.reduceNeg, Int.reduceToNat, reduceCtorEq, reduceIte, hlt]
  have hv : n.valid = true := by
    have h3' : n.grips.length ≤ 3 := by omega
    have h4' : n.ancs.length ≤ 6 := by omega
    simp only [Net.valid, h1, h2, h3', h4', hg, ha, hw, h5', decide_true, Bool.and_self]
  simp only [hv, if_true]
end Go.Proofs.Ytmldjpeiokciiaa.A

namespace Go.Proofs.Ytmldjpeiokciiaa.A
open Go Go.Am Go.Proofs.Ytmldjpeiokciiaa.T
set_option maxRecDepth 100000
set_option linter.unusedSimpArgs false
set_option linter.unusedVariables false


theorem s71 (s : Wal) (wi cu : Int) (st : Bool) (h1 : -1000000 ≤ s.sail * wi) (h2 : s.sail * wi ≤ 1000000) (h3 : -1000000 ≤ s.drag * cu) (h4 : s.drag * cu ≤ 1000000) : Iso E 84 [.agg s.e, I wi, I cu] st = some (I (s.sail * wi + s.drag * cu)) := by
  refine Iso_of (es _ _ _ _) e84 ?_
  simp only [f84, Wal.e]
  simp (disch := first | assumption | omega | (simp only [az]; done)) only [ru, eq_self, if_true, if_false, BEq.rfl, binI, AO.row?, splice, fillL, mmAll, loadV, storeV, zeros, Am.rowAt, Am.part, addOff, Nat.reduceAdd, Nat.reduceMul, Nat.reduceLeDiff, Nat.reduceSub, Nat.reduceLT, Int.reduceEq, Int.reduceLT, Int.reduceLE, Int.reduceGT, Int.reduceGE, Int.reduceAdd, Int.reduceSub, Int.reduceMul, Int.reduceNeg, Int.reduceToNat, reduceCtorEq, reduceIte]

theorem s113 (e x : Int) (J : List AO) : Ro E 81 [I x, .ptr 0 0] (.cells [I e] false :: J) = some (Bo (inR x 0 e)) := by
  refine Ro_of (es _ _ _ _) e81 ?_
  simp only [f81, inR]
  simp (disch := first | assumption | omega | (simp only [az]; done)) only [ru, eq_self, if_true, if_false, BEq.rfl, binI, AO.row?, splice, fillL, mmAll, loadV, storeV, zeros, Am.rowAt, Am.part, addOff, Nat.reduceAdd, Nat.reduceMul, Nat.reduceLeDiff, Nat.reduceSub, Nat.reduceLT, Int.reduceEq, Int.reduceLT, Int.reduceLE, Int.reduceGT, Int.reduceGE, Int.reduceAdd, Int.reduceSub, Int.reduceMul, Int.reduceNeg, Int.reduceToNat, reduceCtorEq, reduceIte] ; repeat' ((first | refine GG_split (fun hb => ?_) (fun hb => ?_) | refine GC_split (fun hb => ?_) (fun hb => ?_)) <;> simp (disch := first | assumption | omega | (simp only [az]; done)) only [ru, eq_self, if_true, if_false, BEq.rfl, binI, AO.row?, splice, fillL, mmAll, loadV, storeV, zeros, Am.rowAt, Am.part, addOff, Nat.reduceAdd, Nat.reduceMul, Nat.reduceLeDiff, Nat.reduceSub, Nat.reduceLT, Int.reduceEq, Int.reduceLT, Int.reduceLE, Int.reduceGT, Int.reduceGE, Int.reduceAdd, Int.reduceSub, Int.reduceMul, Int.reduceNeg, Int.reduceToNat, reduceCtorEq, reduceIte, hb])
  all_goals (simp_all [AV.under])

theorem s112 {l : List Int} {v : AV} (hv : IsSl 1 (fun n => [I n]) l v) (hl : l.length ≤ 1000000) {p : Int → Bool} {g : Nat} {caps : List AV} {h : List AO}
    (hp : ∀ x, Ro E g (I x :: caps) h = some (Bo (p x))) : Ro E 80 [v, .fn g [] caps] h = some (Bo (l.all p)) := by
  refine Ro_of (es _ _ _ _) e80 ?_
  simp only [f80]
  simp (disch := first | assumption | omega | (simp only [az]; done)) only [ru, eq_self, if_true, if_false, BEq.rfl, binI, AO.row?, splice, fillL, mmAll, loadV, storeV, zeros, Am.rowAt, Am.part, addOff, Nat.reduceAdd, Nat.reduceMul, Nat.reduceLeDiff, Nat.reduceSub, Nat.reduceLT, Int.reduceEq, Int.reduceLT, Int.reduceLE, Int.reduceGT, Int.reduceGE, Int.reduceAdd, Int.reduceSub, Int.reduceMul, Int.reduceNeg, Int.reduceToNat, reduceCtorEq, reduceIte, lenV_sl hv]
  refine G_loop_ind (fun m ts h' mk => ∃ i : Nat, i ≤ l.length ∧ m = l.length - i ∧ (l.take i).all p = true ∧ ts.length = 18 ∧
    ts.getD 1 .undef = .fn g [] caps ∧ ts.getD 7 .undef = v ∧ ts.getD 8 .undef = I l.length ∧ ts.getD 9 .undef = I i ∧ h' = h ∧ mk = []) ?_ _ _ _ _ ⟨0, Nat.zero_le _, rfl, rfl, rfl, rfl, rfl, rfl, rfl, rfl, rfl⟩
  rintro m ts h' mk ih ⟨i, hi, rfl, hall, hl', hs1, hs7, hs8, hs9, rfl, rfl⟩
  rw [lit_all hl']
  simp only [lit0, litS, Nat.reduceAdd, hs1, hs7, hs8, hs9]
  simp (disch := first | assumption | omega | (simp only [az]; done)) only [ru, eq_self, if_true, if_false, BEq.rfl, binI, AO.row?, splice, fillL, mmAll, loadV, storeV, zeros, Am.rowAt, Am.part, addOff, Nat.reduceAdd, Nat.reduceMul, Nat.reduceLeDiff, Nat.reduceSub, Nat.reduceLT, Int.reduceEq, Int.reduceLT, Int.reduceLE, Int.reduceGT, Int.reduceGE, Int.reduceAdd, Int.reduceSub, Int.reduceMul, Int.reduceNeg, Int.reduceToNat, reduceCtorEq, reduceIte]
  by_cases hlt : (i : Int) < l.length
  case pos =>
    have hlt' : i < l.length := by omega
    simp (disch := first | assumption | omega | (simp only [az]; done)) only [ru, eq_self, if_true, if_false, BEq.rfl, binI, AO.row?, splice, fillL, mmAll, loadV, storeV, zeros, Am.rowAt, Am.part, addOff, Nat.reduceAdd, Nat.reduceMul, Nat.reduceLeDiff, Nat.reduceSub, Nat.reduceLT, Int.reduceEq, Int.reduceLT, Int.reduceLE, Int.reduceGT, Int.reduceGE, Int.reduceAdd, Int.reduceSub, Int.reduceMul, Int.reduceNeg, Int.reduceToNat, reduceCtorEq, reduceIte, hlt, elem_sl intE hv, Int.toNat_natCast, hp]
    generalize hx : l.getD i default = x
    cases hs : p x
    · simp (disch := first | assumption | omega | (simp only [az]; done)) only [ru, eq_self, if_true, if_false, BEq.rfl, binI, AO.row?, splice, fillL, mmAll, loadV, storeV, zeros, Am.rowAt, Am.part, addOff, Nat.reduceAdd, Nat.reduceMul, Nat.reduceLeDiff, Nat.reduceSub, Nat.reduceLT, Int.reduceEq, Int.reduceLT, Int.reduceLE, Int.reduceGT, Int.reduceGE, Int.reduceAdd, Int.reduceSub, Int.reduceMul, Int.reduceNeg, Int.reduceToNat, reduceCtorEq, reduceIte]
      simp [AV.under, all_not hlt' hx hs]
    · simp (disch := first | assumption | omega | (simp only [az]; done)) only [ru, eq_self, if_true, if_false, BEq.rfl, binI, AO.row?, splice, fillL, mmAll, loadV, storeV, zeros, Am.rowAt, Am.part, addOff, Nat.reduceAdd, Nat.reduceMul, Nat.reduceLeDiff, Nat.reduceSub, Nat.reduceLT, Int.reduceEq, Int.reduceLT, Int.reduceLE, Int.reduceGT, Int.reduceGE, Int.reduceAdd, Int.reduceSub, Int.reduceMul, Int.reduceNeg, Int.reduceToNat, reduceCtorEq, reduceIte]
      exact ih (l.length - (i + 1)) _ _ _ (by omega) ⟨i + 1, by omega, rfl, all_upto_succ hlt' hx hall hs, rfl, rfl, rfl, rfl, rfl, rfl, rfl⟩
  have hg : l.all p = true := by rw [List.take_of_length_le (by omega)] at hall; exact hall
  simp (disch := first | assumption | omega | (simp only [az]; done)) only [ru, eq_self, if_true, if_false, BEq.rfl, binI, AO.row?, splice, fillL, mmAll, loadV, storeV, zeros, Am.rowAt, Am.part, addOff, Nat.reduceAdd, Nat.reduceMul, Nat.reduceLeDiff, Nat.reduceSub, Nat.reduceLT, Int.reduceEq, Int.reduceLT, Int.reduceLE, Int.reduceGT, Int.reduceGE, Int.reduceAdd, Int.reduceSub, Int.reduceMul, Int.reduceNeg, Int.reduceToNat, reduceCtorEq, reduceIte, hlt]
  simp [AV.under, hg]
end Go.Proofs.Ytmldjpeiokciiaa.A

namespace Go.Proofs.Ytmldjpeiokciiaa.A
open Go Go.Am Go.Proofs.Ytmldjpeiokciiaa.T
set_option maxRecDepth 100000
set_option linter.unusedSimpArgs false
set_option linter.unusedVariables false



theorem s70 (m : Int) {l : List Int} {v : AV} (hv : IsSl 1 (fun n => [I n]) l v) (hl : l.length ≤ 1000000) (st : Bool) : Iso E 66 [I m, v] st = some (Bo (l.all (inR · 0 m))) := by
  refine Iso_of (es _ _ _ _) e66 ?_
  simp only [f66]
  simp (disch := first | assumption | omega | (simp only [az]; done)) only [ru, eq_self, if_true, if_false, BEq.rfl, binI, AO.row?, splice, fillL, mmAll, loadV, storeV, zeros, Am.rowAt, Am.part, addOff, Nat.reduceAdd, Nat.reduceMul, Nat.reduceLeDiff, Nat.reduceSub, Nat.reduceLT, Int.reduceEq, Int.reduceLT, Int.reduceLE, Int.reduceGT, Int.reduceGE, Int.reduceAdd, Int.reduceSub, Int.reduceMul, Int.reduceNeg, Int.reduceToNat, reduceCtorEq, reduceIte, s112 hv hl (p := (inR · 0 m)) (fun x => s113 m x [])]

theorem sl1 (x : Int) : IsSl 1 (fun n => [I n]) [x] (.cs 1 1 [I x]) := .inl rfl
theorem sl2 (x y : Int) : IsSl 1 (fun n => [I n]) [x, y] (.cs 1 2 [I x, I y]) := .inl rfl
theorem sl3 (x y z : Int) : IsSl 1 (fun n => [I n]) [x, y, z] (.cs 1 3 [I x, I y, I z]) := .inl rfl
theorem s70a (m x : Int) (st : Bool) : Iso E 66 [I m, .cs 1 1 [I x]] st = some (Bo (inR x 0 m)) := by
  rw [s70 m (sl1 x) (by simp)]; simp
theorem s70b (m x y : Int) (st : Bool) : Iso E 66 [I m, .cs 1 2 [I x, I y]] st = some (Bo (inR x 0 m && inR y 0 m)) := by
  rw [s70 m (sl2 x y) (by simp)]; simp
theorem s70c (m x y z : Int) (st : Bool) : Iso E 66 [I m, .cs 1 3 [I x, I y, I z]] st = some (Bo (inR x 0 m && (inR y 0 m && inR z 0 m))) := by
  rw [s70 m (sl3 x y z) (by simp)]; simp

theorem s69 {n : Net} {g a w : AV} (H : NetOk n g a w) (i : Int) (st : Bool) : Iso E 83 [netV n g a w, I i] st = some (Bo (inR i 0 (n.walls.length - 1))) := by
  have sw := H.sw
  refine Iso_of (es _ _ _ _) e83 ?_
  simp only [f83, netV]
  simp (disch := first | assumption | omega | (simp only [az]; done)) only [ru, eq_self, if_true, if_false, BEq.rfl, binI, AO.row?, splice, fillL, mmAll, loadV, storeV, zeros, Am.rowAt, Am.part, addOff, Nat.reduceAdd, Nat.reduceMul, Nat.reduceLeDiff, Nat.reduceSub, Nat.reduceLT, Int.reduceEq, Int.reduceLT, Int.reduceLE, Int.reduceGT, Int.reduceGE, Int.reduceAdd, Int.reduceSub, Int.reduceMul, Int.reduceNeg, Int.reduceToNat, reduceCtorEq, reduceIte, s70a, lenV_sl H.g, lenV_sl H.a, lenV_sl H.w, elem_sl Spn.el H.g, elem_sl Anc.el H.a, elem_sl Wal.el H.w, view_sl H.g, view_sl H.a, view_sl H.w, scalar_sl H.g, scalar_sl H.a, scalar_sl H.w, cells_sl H.g, cells_sl H.a, cells_sl H.w, pure_sl H.g, pure_sl H.a, pure_sl H.w, Spn.e, Anc.e, Wal.e, Spn.eta, Anc.eta, Wal.eta, Int.toNat_natCast]
theorem s106 (lo hi m : Int) (st : Bool) : Iso E 64 [.agg [I lo, I hi], I m] st = some (Bo (spanOk ⟨lo, hi⟩ m)) := by
  refine Iso_of (es _ _ _ _) e64 ?_
  simp only [f64]
  simp (disch := first | assumption | omega | (simp only [az]; done)) only [ru, eq_self, if_true, if_false, BEq.rfl, binI, AO.row?, splice, fillL, mmAll, loadV, storeV, zeros, Am.rowAt, Am.part, addOff, Nat.reduceAdd, Nat.reduceMul, Nat.reduceLeDiff, Nat.reduceSub, Nat.reduceLT, Int.reduceEq, Int.reduceLT, Int.reduceLE, Int.reduceGT, Int.reduceGE, Int.reduceAdd, Int.reduceSub, Int.reduceMul, Int.reduceNeg, Int.reduceToNat, reduceCtorEq, reduceIte, s70b] ; repeat' ((first | refine GG_split (fun hb => ?_) (fun hb => ?_) | refine GC_split (fun hb => ?_) (fun hb => ?_)) <;> simp (disch := first | assumption | omega | (simp only [az]; done)) only [ru, eq_self, if_true, if_false, BEq.rfl, binI, AO.row?, splice, fillL, mmAll, loadV, storeV, zeros, Am.rowAt, Am.part, addOff, Nat.reduceAdd, Nat.reduceMul, Nat.reduceLeDiff, Nat.reduceSub, Nat.reduceLT, Int.reduceEq, Int.reduceLT, Int.reduceLE, Int.reduceGT, Int.reduceGE, Int.reduceAdd, Int.reduceSub, Int.reduceMul, Int.reduceNeg, Int.reduceToNat, reduceCtorEq, reduceIte, s70b, hb])
  all_goals (simp_all [spanOk, inR]; try omega)
theorem s105 (s : Spn) (h : List AO) : Ro E 63 [.agg [I s.lo, I s.hi]] h = some (Bo (spanOk s 9)) := by
  refine Ro_of (es _ _ _ _) e63 ?_
  simp only [f63]
  simp (disch := first | assumption | omega | (simp only [az]; done)) only [ru, eq_self, if_true, if_false, BEq.rfl, binI, AO.row?, splice, fillL, mmAll, loadV, storeV, zeros, Am.rowAt, Am.part, addOff, Nat.reduceAdd, Nat.reduceMul, Nat.reduceLeDiff, Nat.reduceSub, Nat.reduceLT, Int.reduceEq, Int.reduceLT, Int.reduceLE, Int.reduceGT, Int.reduceGE, Int.reduceAdd, Int.reduceSub, Int.reduceMul, Int.reduceNeg, Int.reduceToNat, reduceCtorEq, reduceIte, s106]
  simp [AV.under]
theorem s107 {n : Net} {g a w : AV} (H : NetOk n g a w) (x : Anc) (J : List AO) : Ro E 65 [.agg [I x.w, I x.b], .ptr 0 0] (.cells [I n.wind.lo, I n.wind.hi, I n.cur.lo, I n.cur.hi, g, a, w] false :: J) = some (Bo (ancOk n x)) := by
  refine Ro_of (es _ _ _ _) e65 ?_
  simp only [f65]
  have sg := H.sg
  simp (disch := first | assumption | omega | (simp only [az]; done)) only [ru, eq_self, if_true, if_false, BEq.rfl, binI, AO.row?, splice, fillL, mmAll, loadV, storeV, zeros, Am.rowAt, Am.part, addOff, Nat.reduceAdd, Nat.reduceMul, Nat.reduceLeDiff, Nat.reduceSub, Nat.reduceLT, Int.reduceEq, Int.reduceLT, Int.reduceLE, Int.reduceGT, Int.reduceGE, Int.reduceAdd, Int.reduceSub, Int.reduceMul, Int.reduceNeg, Int.reduceToNat, reduceCtorEq, reduceIte, s70a, lenV_sl H.g, lenV_sl H.a, lenV_sl H.w, elem_sl Spn.el H.g, elem_sl Anc.el H.a, elem_sl Wal.el H.w, view_sl H.g, view_sl H.a, view_sl H.w, scalar_sl H.g, scalar_sl H.a, scalar_sl H.w, cells_sl H.g, cells_sl H.a, cells_sl H.w, pure_sl H.g, pure_sl H.a, pure_sl H.w, Spn.e, Anc.e, Wal.e, Spn.eta, Anc.eta, Wal.eta, Int.toNat_natCast] ; repeat' ((first | refine GG_split (fun hb => ?_) (fun hb => ?_) | refine GC_split (fun hb => ?_) (fun hb => ?_)) <;> simp (disch := first | assumption | omega | (simp only [az]; done)) only [ru, eq_self, if_true, if_false, BEq.rfl, binI, AO.row?, splice, fillL, mmAll, loadV, storeV, zeros, Am.rowAt, Am.part, addOff, Nat.reduceAdd, Nat.reduceMul, Nat.reduceLeDiff, Nat.reduceSub, Nat.reduceLT, Int.reduceEq, Int.reduceLT, Int.reduceLE, Int.reduceGT, Int.reduceGE, Int.reduceAdd, Int.reduceSub, Int.reduceMul, Int.reduceNeg, Int.reduceToNat, reduceCtorEq, reduceIte, s70a, lenV_sl H.g, lenV_sl H.a, lenV_sl H.w, elem_sl Spn.el H.g, elem_sl Anc.el H.a, elem_sl Wal.el H.w, view_sl H.g, view_sl H.a, view_sl H.w, scalar_sl H.g, scalar_sl H.a, scalar_sl H.w, cells_sl H.g, cells_sl H.a, cells_sl H.w, pure_sl H.g, pure_sl H.a, pure_sl H.w, Spn.e, Anc.e, Wal.e, Spn.eta, Anc.eta, Wal.eta, Int.toNat_natCast, hb])
  all_goals (simp_all [ancOk, AV.under])
theorem s111 (s : Wal) (h : List AO) : Ro E 70 [.agg [I s.sail, I s.drag, I s.lean, I s.corks, I s.stones]] h = some (Bo (walOk s)) := by
  refine Ro_of (es _ _ _ _) e70 ?_
  simp only [f70]
  simp (disch := first | assumption | omega | (simp only [az]; done)) only [ru, eq_self, if_true, if_false, BEq.rfl, binI, AO.row?, splice, fillL, mmAll, loadV, storeV, zeros, Am.rowAt, Am.part, addOff, Nat.reduceAdd, Nat.reduceMul, Nat.reduceLeDiff, Nat.reduceSub, Nat.reduceLT, Int.reduceEq, Int.reduceLT, Int.reduceLE, Int.reduceGT, Int.reduceGE, Int.reduceAdd, Int.reduceSub, Int.reduceMul, Int.reduceNeg, Int.reduceToNat, reduceCtorEq, reduceIte, s70c, s70b] ; repeat' ((first | refine GG_split (fun hb => ?_) (fun hb => ?_) | refine GC_split (fun hb => ?_) (fun hb => ?_)) <;> simp (disch := first | assumption | omega | (simp only [az]; done)) only [ru, eq_self, if_true, if_false, BEq.rfl, binI, AO.row?, splice, fillL, mmAll, loadV, storeV, zeros, Am.rowAt, Am.part, addOff, Nat.reduceAdd, Nat.reduceMul, Nat.reduceLeDiff, Nat.reduceSub, Nat.reduceLT, Int.reduceEq, Int.reduceLT, Int.reduceLE, Int.reduceGT, Int.reduceGE, Int.reduceAdd, Int.reduceSub, Int.reduceMul, Int.reduceNeg, Int.reduceToNat, reduceCtorEq, reduceIte, s70c, s70b, hb])
  all_goals (simp_all [walOk, AV.under])
end Go.Proofs.Ytmldjpeiokciiaa.A

namespace Go.Proofs.Ytmldjpeiokciiaa.A
open Go Go.Am Go.Proofs.Ytmldjpeiokciiaa.T
set_option maxRecDepth 100000
set_option linter.unusedSimpArgs false
set_option linter.unusedVariables false



theorem s108 {l : List Spn} {v : AV} (hv : IsSl 2 Spn.e l v) (hl : l.length ≤ 1000000) {p : Spn → Bool} {g : Nat} {caps : List AV} {h : List AO}
    (hp : ∀ x J, Ro E g (.agg x.e :: caps) (h ++ J) = some (Bo (p x))) : Ro E 67 [v, .fn g [] caps] h = some (Bo (l.all p)) := by
  refine Ro_of (es _ _ _ _) e67 ?_
  simp only [f67]
  simp (disch := first | assumption | omega | (simp only [az]; done)) only [ru, eq_self, if_true, if_false, BEq.rfl, binI, AO.row?, splice, fillL, mmAll, loadV, storeV, zeros, Am.rowAt, Am.part, addOff, Nat.reduceAdd, Nat.reduceMul, Nat.reduceLeDiff, Nat.reduceSub, Nat.reduceLT, Int.reduceEq, Int.reduceLT, Int.reduceLE, Int.reduceGT, Int.reduceGE, Int.reduceAdd, Int.reduceSub, Int.reduceMul, Int.reduceNeg, Int.reduceToNat, reduceCtorEq, reduceIte, lenV_sl hv]
  refine G_loop_ind (fun m ts h' mk => ∃ (i : Nat) (J : List AO), i ≤ l.length ∧ m = l.length - i ∧ (l.take i).all p = true ∧ ts.length = 18 ∧
    ts.getD 1 .undef = .fn g [] caps ∧ ts.getD 7 .undef = v ∧ ts.getD 8 .undef = I l.length ∧ ts.getD 9 .undef = I i ∧ h' = h ++ J ∧ mk = []) ?_ _ _ _ _ ⟨0, [], Nat.zero_le _, rfl, rfl, rfl, rfl, rfl, rfl, rfl, (List.append_nil _).symm, rfl⟩
  rintro m ts h' mk ih ⟨i, J, hi, rfl, hall, hl', hs1, hs7, hs8, hs9, rfl, rfl⟩
  rw [lit_all hl']
  simp only [lit0, litS, Nat.reduceAdd, hs1, hs7, hs8, hs9]
  simp (disch := first | assumption | omega | (simp only [az]; done)) only [ru, eq_self, if_true, if_false, BEq.rfl, binI, AO.row?, splice, fillL, mmAll, loadV, storeV, zeros, Am.rowAt, Am.part, addOff, Nat.reduceAdd, Nat.reduceMul, Nat.reduceLeDiff, Nat.reduceSub, Nat.reduceLT, Int.reduceEq, Int.reduceLT, Int.reduceLE, Int.reduceGT, Int.reduceGE, Int.reduceAdd, Int.reduceSub, Int.reduceMul, Int.reduceNeg, Int.reduceToNat, reduceCtorEq, reduceIte]
  by_cases hlt : (i : Int) < l.length
  case pos =>
    have hlt' : i < l.length := by omega
    have hlim : h.length ≤ (h ++ J).length := by simp
    simp (disch := first | assumption | omega | (simp only [az]; done)) only [ru, eq_self, if_true, if_false, BEq.rfl, binI, AO.row?, splice, fillL, mmAll, loadV, storeV, zeros, Am.rowAt, Am.part, addOff, Nat.reduceAdd, Nat.reduceMul, Nat.reduceLeDiff, Nat.reduceSub, Nat.reduceLT, Int.reduceEq, Int.reduceLT, Int.reduceLE, Int.reduceGT, Int.reduceGE, Int.reduceAdd, Int.reduceSub, Int.reduceMul, Int.reduceNeg, Int.reduceToNat, reduceCtorEq, reduceIte, hlt, elem_sl Spn.el hv, Int.toNat_natCast, Spn.e]
    generalize hx : l.getD i default = x
    have hq := hp x (J ++ [.cells x.e false])
    simp only [Spn.e, ← List.append_assoc] at hq
    simp (disch := first | assumption | omega | (simp only [az]; done)) only [ru, eq_self, if_true, if_false, BEq.rfl, binI, AO.row?, splice, fillL, mmAll, loadV, storeV, zeros, Am.rowAt, Am.part, addOff, Nat.reduceAdd, Nat.reduceMul, Nat.reduceLeDiff, Nat.reduceSub, Nat.reduceLT, Int.reduceEq, Int.reduceLT, Int.reduceLE, Int.reduceGT, Int.reduceGE, Int.reduceAdd, Int.reduceSub, Int.reduceMul, Int.reduceNeg, Int.reduceToNat, reduceCtorEq, reduceIte, hlim, hq]
    cases hs : p x
    · simp (disch := first | assumption | omega | (simp only [az]; done)) only [ru, eq_self, if_true, if_false, BEq.rfl, binI, AO.row?, splice, fillL, mmAll, loadV, storeV, zeros, Am.rowAt, Am.part, addOff, Nat.reduceAdd, Nat.reduceMul, Nat.reduceLeDiff, Nat.reduceSub, Nat.reduceLT, Int.reduceEq, Int.reduceLT, Int.reduceLE, Int.reduceGT, Int.reduceGE, Int.reduceAdd, Int.reduceSub, Int.reduceMul, Int.reduceNeg, Int.reduceToNat, reduceCtorEq, reduceIte]
      simp [AV.under, all_not hlt' hx hs]
    · simp (disch := first | assumption | omega | (simp only [az]; done)) only [ru, eq_self, if_true, if_false, BEq.rfl, binI, AO.row?, splice, fillL, mmAll, loadV, storeV, zeros, Am.rowAt, Am.part, addOff, Nat.reduceAdd, Nat.reduceMul, Nat.reduceLeDiff, Nat.reduceSub, Nat.reduceLT, Int.reduceEq, Int.reduceLT, Int.reduceLE, Int.reduceGT, Int.reduceGE, Int.reduceAdd, Int.reduceSub, Int.reduceMul, Int.reduceNeg, Int.reduceToNat, reduceCtorEq, reduceIte, List.append_assoc]
      exact ih (l.length - (i + 1)) _ _ _ (by omega) ⟨i + 1, _, by omega, rfl, all_upto_succ hlt' hx hall hs, rfl, rfl, rfl, rfl, rfl, rfl, rfl⟩
  have hg : l.all p = true := by rw [List.take_of_length_le (by omega)] at hall; exact hall
  simp (disch := first | assumption | omega | (simp only [az]; done)) only [ru, eq_self, if_true, if_false, BEq.rfl, binI, AO.row?, splice, fillL, mmAll, loadV, storeV, zeros, Am.rowAt, Am.part, addOff, Nat.reduceAdd, Nat.reduceMul, Nat.reduceLeDiff, Nat.reduceSub, Nat.reduceLT, Int.reduceEq, Int.reduceLT, Int.reduceLE, Int.reduceGT, Int.reduceGE, Int.reduceAdd, Int.reduceSub, Int.reduceMul, Int.reduceNeg, Int.reduceToNat, reduceCtorEq, reduceIte, hlt]
  simp [AV.under, hg]

theorem s109 {l : List Anc} {v : AV} (hv : IsSl 2 Anc.e l v) (hl : l.length ≤ 1000000) {p : Anc → Bool} {g : Nat} {caps : List AV} {h : List AO}
    (hp : ∀ x J, Ro E g (.agg x.e :: caps) (h ++ J) = some (Bo (p x))) : Ro E 68 [v, .fn g [] caps] h = some (Bo (l.all p)) := by
  refine Ro_of (es _ _ _ _) e68 ?_
  simp only [f68]
  simp (disch := first | assumption | omega | (simp only [az]; done)) only [ru, eq_self, if_true, if_false, BEq.rfl, binI, AO.row?, splice, fillL, mmAll, loadV, storeV, zeros, Am.rowAt, Am.part, addOff, Nat.reduceAdd, Nat.reduceMul, Nat.reduceLeDiff, Nat.reduceSub, Nat.reduceLT, Int.reduceEq, Int.reduceLT, Int.reduceLE, Int.reduceGT, Int.reduceGE, Int.reduceAdd, Int.reduceSub, Int.reduceMul, Int.reduceNeg, Int.reduceToNat, reduceCtorEq, reduceIte, lenV_sl hv]
  refine G_loop_ind (fun m ts h' mk => ∃ (i : Nat) (J : List AO), i ≤ l.length ∧ m = l.length - i ∧ (l.take i).all p = true ∧ ts.length = 18 ∧
    ts.getD 1 .undef = .fn g [] caps ∧ ts.getD 7 .undef = v ∧ ts.getD 8 .undef = I l.length ∧ ts.getD 9 .undef = I i ∧ h' = h ++ J ∧ mk = []) ?_ _ _ _ _ ⟨0, [], Nat.zero_le _, rfl, rfl, rfl, rfl, rfl, rfl, rfl, (List.append_nil _).symm, rfl⟩
  rintro m ts h' mk ih ⟨i, J, hi, rfl, hall, hl', hs1, hs7, hs8, hs9, rfl, rfl⟩
  rw [lit_all hl']
  simp only [lit0, litS, Nat.reduceAdd, hs1, hs7, hs8, hs9]
  simp (disch := first | assumption | omega | (simp only [az]; done)) only [ru, eq_self, if_true, if_false, BEq.rfl, binI, AO.row?, splice, fillL, mmAll, loadV, storeV, zeros, Am.rowAt, Am.part, addOff, Nat.reduceAdd, Nat.reduceMul, Nat.reduceLeDiff, Nat.reduceSub, Nat.reduceLT, Int.reduceEq, Int.reduceLT, Int.reduceLE, Int.reduceGT, Int.reduceGE, Int.reduceAdd, Int.reduceSub, Int.reduceMul, Int.reduceNeg, Int.reduceToNat, reduceCtorEq, reduceIte]
  by_cases hlt : (i : Int) < l.length
  case pos =>
    have hlt' : i < l.length := by omega
    have hlim : h.length ≤ (h ++ J).length := by simp
    simp (disch := first | assumption | omega | (simp only [az]; done)) only [ru, eq_self, if_true, if_false, BEq.rfl, binI, AO.row?, splice, fillL, mmAll, loadV, storeV, zeros, Am.rowAt, Am.part, addOff, Nat.reduceAdd, Nat.reduceMul, Nat.reduceLeDiff, Nat.reduceSub, Nat.reduceLT, Int.reduceEq, Int.reduceLT, Int.reduceLE, Int.reduceGT, Int.reduceGE, Int.reduceAdd, Int.reduceSub, Int.reduceMul, Int.reduceNeg, Int.reduceToNat, reduceCtorEq, reduceIte, hlt, elem_sl Anc.el hv, Int.toNat_natCast, Anc.e]
    generalize hx : l.getD i default = x
    have hq := hp x (J ++ [.cells x.e false])
    simp only [Anc.e, ← List.append_assoc] at hq
    simp (disch := first | assumption | omega | (simp only [az]; done)) only [ru, eq_self, if_true, if_false, BEq.rfl, binI, AO.row?, splice, fillL, mmAll, loadV, storeV, zeros, Am.rowAt, Am.part, addOff, Nat.reduceAdd, Nat.reduceMul, Nat.reduceLeDiff, Nat.reduceSub, Nat.reduceLT, Int.reduceEq, Int.reduceLT, Int.reduceLE, Int.reduceGT, Int.reduceGE, Int.reduceAdd, Int.reduceSub, Int.reduceMul, Int.reduceNeg, Int.reduceToNat, reduceCtorEq, reduceIte, hlim, hq]
    cases hs : p x
    · simp (disch := first | assumption | omega | (simp only [az]; done)) only [ru, eq_self, if_true, if_false, BEq.rfl, binI, AO.row?, splice, fillL, mmAll, loadV, storeV, zeros, Am.rowAt, Am.part, addOff, Nat.reduceAdd, Nat.reduceMul, Nat.reduceLeDiff, Nat.reduceSub, Nat.reduceLT, Int.reduceEq, Int.reduceLT, Int.reduceLE, Int.reduceGT, Int.reduceGE, Int.reduceAdd, Int.reduceSub, Int.reduceMul, Int.reduceNeg, Int.reduceToNat, reduceCtorEq, reduceIte]
      simp [AV.under, all_not hlt' hx hs]
    · simp (disch := first | assumption | omega | (simp only [az]; done)) only [ru, eq_self, if_true, if_false, BEq.rfl, binI, AO.row?, splice, fillL, mmAll, loadV, storeV, zeros, Am.rowAt, Am.part, addOff, Nat.reduceAdd, Nat.reduceMul, Nat.reduceLeDiff, Nat.reduceSub, Nat.reduceLT, Int.reduceEq, Int.reduceLT, Int.reduceLE, Int.reduceGT, Int.reduceGE, Int.reduceAdd, Int.reduceSub, Int.reduceMul, Int.reduceNeg, Int.reduceToNat, reduceCtorEq, reduceIte, List.append_assoc]
      exact ih (l.length - (i + 1)) _ _ _ (by omega) ⟨i + 1, _, by omega, rfl, all_upto_succ hlt' hx hall hs, rfl, rfl, rfl, rfl, rfl, rfl, rfl⟩
  have hg : l.all p = true := by rw [List.take_of_length_le (by omega)] at hall; exact hall
  simp (disch := first | assumption | omega | (simp only [az]; done)) only [ru, eq_self, if_true, if_false, BEq.rfl, binI, AO.row?, splice, fillL, mmAll, loadV, storeV, zeros, Am.rowAt, Am.part, addOff, Nat.reduceAdd, Nat.reduceMul, Nat.reduceLeDiff, Nat.reduceSub, Nat.reduceLT, Int.reduceEq, Int.reduceLT, Int.reduceLE, Int.reduceGT, Int.reduceGE, Int.reduceAdd, Int.reduceSub, Int.reduceMul, Int.reduceNeg, Int.reduceToNat, reduceCtorEq, reduceIte, hlt]
  simp [AV.under, hg]

theorem s110 {l : List Wal} {v : AV} (hv : IsSl 5 Wal.e l v) (hl : l.length ≤ 1000000) {p : Wal → Bool} {g : Nat} {caps : List AV} {h : List AO}
    (hp : ∀ x J, Ro E g (.agg x.e :: caps) (h ++ J) = some (Bo (p x))) : Ro E 69 [v, .fn g [] caps] h = some (Bo (l.all p)) := by
  refine Ro_of (es _ _ _ _) e69 ?_
  simp only [f69]
  simp (disch := first | assumption | omega | (simp only [az]; done)) only [ru, eq_self, if_true, if_false, BEq.rfl, binI, AO.row?, splice, fillL, mmAll, loadV, storeV, zeros, Am.rowAt, Am.part, addOff, Nat.reduceAdd, Nat.reduceMul, Nat.reduceLeDiff, Nat.reduceSub, Nat.reduceLT, Int.reduceEq, Int.reduceLT, Int.reduceLE, Int.reduceGT, Int.reduceGE, Int.reduceAdd, Int.reduceSub, Int.reduceMul, Int.reduceNeg, Int.reduceToNat, reduceCtorEq, reduceIte, lenV_sl hv]
  refine G_loop_ind (fun m ts h' mk => ∃ (i : Nat) (J : List AO), i ≤ l.length ∧ m = l.length - i ∧ (l.take i).all p = true ∧ ts.length = 18 ∧
    ts.getD 1 .undef = .fn g [] caps ∧ ts.getD 7 .undef = v ∧ ts.getD 8 .undef = I l.length ∧ ts.getD 9 .undef = I i ∧ h' = h ++ J ∧ mk = []) ?_ _ _ _ _ ⟨0, [], Nat.zero_le _, rfl, rfl, rfl, rfl, rfl, rfl, rfl, (List.append_nil _).symm, rfl⟩
  rintro m ts h' mk ih ⟨i, J, hi, rfl, hall, hl', hs1, hs7, hs8, hs9, rfl, rfl⟩
  rw [lit_all hl']
  simp only [lit0, litS, Nat.reduceAdd, hs1, hs7, hs8, hs9]
  simp (disch := first | assumption | omega | (simp only [az]; done)) only [ru, eq_self, if_true, if_false, BEq.rfl, binI, AO.row?, splice, fillL, mmAll, loadV, storeV, zeros, Am.rowAt, Am.part, addOff, Nat.reduceAdd, Nat.reduceMul, Nat.reduceLeDiff, Nat.reduceSub, Nat.reduceLT, Int.reduceEq, Int.reduceLT, Int.reduceLE, Int.reduceGT, Int.reduceGE, Int.reduceAdd, Int.reduceSub, Int.reduceMul, Int.reduceNeg, Int.reduceToNat, reduceCtorEq, reduceIte]
  by_cases hlt : (i : Int) < l.length
  case pos =>
    have hlt' : i < l.length := by omega
    have hlim : h.length ≤ (h ++ J).length := by simp
    simp (disch := first | assumption | omega | (simp only [az]; done)) only [ru, eq_self, if_true, if_false, BEq.rfl, binI, AO.row?, splice, fillL, mmAll, loadV, storeV, zeros, Am.rowAt, Am.part, addOff, Nat.reduceAdd, Nat.reduceMul, Nat.reduceLeDiff, Nat.reduceSub, Nat.reduceLT, Int.reduceEq, Int.reduceLT, Int.reduceLE, Int.reduceGT, Int.reduceGE, Int.reduceAdd, Int.reduceSub, Int.reduceMul, Int.reduceNeg, Int.reduceToNat, reduceCtorEq, reduceIte, hlt, elem_sl Wal.el hv, Int.toNat_natCast, Wal.e]
    generalize hx : l.getD i default = x
    have hq := hp x (J ++ [.cells x.e false])
    simp only [Wal.e, ← List.append_assoc] at hq
    simp (disch := first | assumption | omega | (simp only [az]; done)) only [ru, eq_self, if_true, if_false, BEq.rfl, binI, AO.row?, splice, fillL, mmAll, loadV, storeV, zeros, Am.rowAt, Am.part, addOff, Nat.reduceAdd, Nat.reduceMul, Nat.reduceLeDiff, Nat.reduceSub, Nat.reduceLT, Int.reduceEq, Int.reduceLT, Int.reduceLE, Int.reduceGT, Int.reduceGE, Int.reduceAdd, Int.reduceSub, Int.reduceMul, Int.reduceNeg, Int.reduceToNat, reduceCtorEq, reduceIte, hlim, hq]
    cases hs : p x
    · simp (disch := first | assumption | omega | (simp only [az]; done)) only [ru, eq_self, if_true, if_false, BEq.rfl, binI, AO.row?, splice, fillL, mmAll, loadV, storeV, zeros, Am.rowAt, Am.part, addOff, Nat.reduceAdd, Nat.reduceMul, Nat.reduceLeDiff, Nat.reduceSub, Nat.reduceLT, Int.reduceEq, Int.reduceLT, Int.reduceLE, Int.reduceGT, Int.reduceGE, Int.reduceAdd, Int.reduceSub, Int.reduceMul, Int.reduceNeg, Int.reduceToNat, reduceCtorEq, reduceIte]
      simp [AV.under, all_not hlt' hx hs]
    · simp (disch := first | assumption | omega | (simp only [az]; done)) only [ru, eq_self, if_true, if_false, BEq.rfl, binI, AO.row?, splice, fillL, mmAll, loadV, storeV, zeros, Am.rowAt, Am.part, addOff, Nat.reduceAdd, Nat.reduceMul, Nat.reduceLeDiff, Nat.reduceSub, Nat.reduceLT, Int.reduceEq, Int.reduceLT, Int.reduceLE, Int.reduceGT, Int.reduceGE, Int.reduceAdd, Int.reduceSub, Int.reduceMul, Int.reduceNeg, Int.reduceToNat, reduceCtorEq, reduceIte, List.append_assoc]
      exact ih (l.length - (i + 1)) _ _ _ (by omega) ⟨i + 1, _, by omega, rfl, all_upto_succ hlt' hx hall hs, rfl, rfl, rfl, rfl, rfl, rfl, rfl⟩
  have hg : l.all p = true := by rw [List.take_of_length_le (by omega)] at hall; exact hall
  simp (disch := first | assumption | omega | (simp only [az]; done)) only [ru, eq_self, if_true, if_false, BEq.rfl, binI, AO.row?, splice, fillL, mmAll, loadV, storeV, zeros, Am.rowAt, Am.part, addOff, Nat.reduceAdd, Nat.reduceMul, Nat.reduceLeDiff, Nat.reduceSub, Nat.reduceLT, Int.reduceEq, Int.reduceLT, Int.reduceLE, Int.reduceGT, Int.reduceGE, Int.reduceAdd, Int.reduceSub, Int.reduceMul, Int.reduceNeg, Int.reduceToNat, reduceCtorEq, reduceIte, hlt]
  simp [AV.under, hg]

theorem s65 {n : Net} {g a w : AV} (H : NetOk n g a w) (st : Bool) : Iso E 47 [netV n g a w] st = some (Bo n.valid) := by
  have sg := H.sg; have sa := H.sa; have sw := H.sw
  refine Iso_of (es _ _ _ _) e47 ?_
  simp only [f47, netV]
  simp (disch := first | assumption | omega | (simp only [az]; done)) only [ru, eq_self, if_true, if_false, BEq.rfl, binI, AO.row?, splice, fillL, mmAll, loadV, storeV, zeros, Am.rowAt, Am.part, addOff, Nat.reduceAdd, Nat.reduceMul, Nat.reduceLeDiff, Nat.reduceSub, Nat.reduceLT, Int.reduceEq, Int.reduceLT, Int.reduceLE, Int.reduceGT, Int.reduceGE, Int.reduceAdd, Int.reduceSub, Int.reduceMul, Int.reduceNeg, Int.reduceToNat, reduceCtorEq, reduceIte, s106, lenV_sl H.g, lenV_sl H.a, lenV_sl H.w, elem_sl Spn.el H.g, elem_sl Anc.el H.a, elem_sl Wal.el H.w, view_sl H.g, view_sl H.a, view_sl H.w, scalar_sl H.g, scalar_sl H.a, scalar_sl H.w, cells_sl H.g, cells_sl H.a, cells_sl H.w, pure_sl H.g, pure_sl H.a, pure_sl H.w, Spn.e, Anc.e, Wal.e, Spn.eta, Anc.eta, Wal.eta, Int.toNat_natCast]
  cases h1 : spanOk n.wind 20
  · simp (disch := first | assumption | omega | (simp only [az]; done)) only [ru, eq_self, if_true, if_false, BEq.rfl, binI, AO.row?, splice, fillL, mmAll, loadV, storeV, zeros, Am.rowAt, Am.part, addOff, Nat.reduceAdd, Nat.reduceMul, Nat.reduceLeDiff, Nat.reduceSub, Nat.reduceLT, Int.reduceEq, Int.reduceLT, Int.reduceLE, Int.reduceGT, Int.reduceGE, Int.reduceAdd, Int.reduceSub, Int.reduceMul, Int.reduceNeg, Int.reduceToNat, reduceCtorEq, reduceIte]
    simp [Net.valid, h1]
  simp (disch := first | assumption | omega | (simp only [az]; done)) only [ru, eq_self, if_true, if_false, BEq.rfl, binI, AO.row?, splice, fillL, mmAll, loadV, storeV, zeros, Am.rowAt, Am.part, addOff, Nat.reduceAdd, Nat.reduceMul, Nat.reduceLeDiff, Nat.reduceSub, Nat.reduceLT, Int.reduceEq, Int.reduceLT, Int.reduceLE, Int.reduceGT, Int.reduceGE, Int.reduceAdd, Int.reduceSub, Int.reduceMul, Int.reduceNeg, Int.reduceToNat, reduceCtorEq, reduceIte, s106, lenV_sl H.g, lenV_sl H.a, lenV_sl H.w, elem_sl Spn.el H.g, elem_sl Anc.el H.a, elem_sl Wal.el H.w, view_sl H.g, view_sl H.a, view_sl H.w, scalar_sl H.g, scalar_sl H.a, scalar_sl H.w, cells_sl H.g, cells_sl H.a, cells_sl H.w, pure_sl H.g, pure_sl H.a, pure_sl H.w, Spn.e, Anc.e, Wal.e, Spn.eta, Anc.eta, Wal.eta, Int.toNat_natCast]
  cases h2 : spanOk n.cur 20
  · simp (disch := first | assumption | omega | (simp only [az]; done)) only [ru, eq_self, if_true, if_false, BEq.rfl, binI, AO.row?, splice, fillL, mmAll, loadV, storeV, zeros, Am.rowAt, Am.part, addOff, Nat.reduceAdd, Nat.reduceMul, Nat.reduceLeDiff, Nat.reduceSub, Nat.reduceLT, Int.reduceEq, Int.reduceLT, Int.reduceLE, Int.reduceGT, Int.reduceGE, Int.reduceAdd, Int.reduceSub, Int.reduceMul, Int.reduceNeg, Int.reduceToNat, reduceCtorEq, reduceIte]
    simp [Net.valid, h2]
  simp (disch := first | assumption | omega | (simp only [az]; done)) only [ru, eq_self, if_true, if_false, BEq.rfl, binI, AO.row?, splice, fillL, mmAll, loadV, storeV, zeros, Am.rowAt, Am.part, addOff, Nat.reduceAdd, Nat.reduceMul, Nat.reduceLeDiff, Nat.reduceSub, Nat.reduceLT, Int.reduceEq, Int.reduceLT, Int.reduceLE, Int.reduceGT, Int.reduceGE, Int.reduceAdd, Int.reduceSub, Int.reduceMul, Int.reduceNeg, Int.reduceToNat, reduceCtorEq, reduceIte, s106, lenV_sl H.g, lenV_sl H.a, lenV_sl H.w, elem_sl Spn.el H.g, elem_sl Anc.el H.a, elem_sl Wal.el H.w, view_sl H.g, view_sl H.a, view_sl H.w, scalar_sl H.g, scalar_sl H.a, scalar_sl H.w, cells_sl H.g, cells_sl H.a, cells_sl H.w, pure_sl H.g, pure_sl H.a, pure_sl H.w, Spn.e, Anc.e, Wal.e, Spn.eta, Anc.eta, Wal.eta, Int.toNat_natCast]
  by_cases h3 : (n.grips.length : Int) ≤ 3
  case neg =>
    simp (disch := first | assumption | omega | (simp only [az]; done)) only [ru, eq_self, if_true, if_false, BEq.rfl, binI, AO.row?, splice, fillL, mmAll, loadV, storeV, zeros, Am.rowAt, Am.part, addOff, Nat.reduceAdd, Nat.reduceMul, Nat.reduceLeDiff, Nat.reduceSub, Nat.reduceLT, Int.reduceEq, Int.reduceLT, Int.reduceLE, Int.reduceGT, Int.reduceGE, Int.reduceAdd, Int.reduceSub, Int.reduceMul, Int.reduceNeg, Int.reduceToNat, reduceCtorEq, reduceIte, h3]
    have : ¬ n.grips.length ≤ 3 := by omega
    simp [Net.valid, this]
  simp (disch := first | assumption | omega | (simp only [az]; done)) only [ru, eq_self, if_true, if_false, BEq.rfl, binI, AO.row?, splice, fillL, mmAll, loadV, storeV, zeros, Am.rowAt, Am.part, addOff, Nat.reduceAdd, Nat.reduceMul, Nat.reduceLeDiff, Nat.reduceSub, Nat.reduceLT, Int.reduceEq, Int.reduceLT, Int.reduceLE, Int.reduceGT, Int.reduceGE, Int.reduceAdd, Int.reduceSub, Int.reduceMul, Int.reduceNeg, Int.reduceToNat, reduceCtorEq, reduceIte, h3, lenV_sl H.g, lenV_sl H.a, lenV_sl H.w, elem_sl Spn.el H.g, elem_sl Anc.el H.a, elem_sl Wal.el H.w, view_sl H.g, view_sl H.a, view_sl H.w, scalar_sl H.g, scalar_sl H.a, scalar_sl H.w, cells_sl H.g, cells_sl H.a, cells_sl H.w, pure_sl H.g, pure_sl H.a, pure_sl H.w, Spn.e, Anc.e, Wal.e, Spn.eta, Anc.eta, Wal.eta, Int.toNat_natCast, s108 H.g (by omega) (p := (spanOk · 9)) (caps := []) (g := 63) (fun x J => s105 x _)]
  cases h4 : n.grips.all (spanOk · 9)
  · simp (disch := first | assumption | omega | (simp only [az]; done)) only [ru, eq_self, if_true, if_false, BEq.rfl, binI, AO.row?, splice, fillL, mmAll, loadV, storeV, zeros, Am.rowAt, Am.part, addOff, Nat.reduceAdd, Nat.reduceMul, Nat.reduceLeDiff, Nat.reduceSub, Nat.reduceLT, Int.reduceEq, Int.reduceLT, Int.reduceLE, Int.reduceGT, Int.reduceGE, Int.reduceAdd, Int.reduceSub, Int.reduceMul, Int.reduceNeg, Int.reduceToNat, reduceCtorEq, reduceIte]
    simp [Net.valid, h4]
  simp (disch := first | assumption | omega | (simp only [az]; done)) only [ru, eq_self, if_true, if_false, BEq.rfl, binI, AO.row?, splice, fillL, mmAll, loadV, storeV, zeros, Am.rowAt, Am.part, addOff, Nat.reduceAdd, Nat.reduceMul, Nat.reduceLeDiff, Nat.reduceSub, Nat.reduceLT, Int.reduceEq, Int.reduceLT, Int.reduceLE, Int.reduceGT, Int.reduceGE, Int.reduceAdd, Int.reduceSub, Int.reduceMul, Int.reduceNeg, Int.reduceToNat, reduceCtorEq, reduceIte, lenV_sl H.g, lenV_sl H.a, lenV_sl H.w, elem_sl Spn.el H.g, elem_sl Anc.el H.a, elem_sl Wal.el H.w, view_sl H.g, view_sl H.a, view_sl H.w, scalar_sl H.g, scalar_sl H.a, scalar_sl H.w, cells_sl H.g, cells_sl H.a, cells_sl H.w, pure_sl H.g, pure_sl H.a, pure_sl H.w, Spn.e, Anc.e, Wal.e, Spn.eta, Anc.eta, Wal.eta, Int.toNat_natCast]
  by_cases h5 : (n.ancs.length : Int) ≤ 6
  case neg =>
    simp (disch := first | assumption | omega | (simp only [az]; done)) only [ru, eq_self, if_true, if_false, BEq.rfl, binI, AO.row?, splice, fillL, mmAll, loadV, storeV, zeros, Am.rowAt, Am.part, addOff, Nat.reduceAdd, Nat.reduceMul, Nat.reduceLeDiff, Nat.reduceSub, Nat.reduceLT, Int.reduceEq, Int.reduceLT, Int.reduceLE, Int.reduceGT, Int.reduceGE, Int.reduceAdd, Int.reduceSub, Int.reduceMul, Int.reduceNeg, Int.reduceToNat, reduceCtorEq, reduceIte, h5]
    have : ¬ n.ancs.length ≤ 6 := by omega
    simp [Net.valid, this]
  simp (disch := first | assumption | omega | (simp only [az]; done)) only [ru, eq_self, if_true, if_false, BEq.rfl, binI, AO.row?, splice, fillL, mmAll, loadV, storeV, zeros, Am.rowAt, Am.part, addOff, Nat.reduceAdd, Nat.reduceMul, Nat.reduceLeDiff, Nat.reduceSub, Nat.reduceLT, Int.reduceEq, Int.reduceLT, Int.reduceLE, Int.reduceGT, Int.reduceGE, Int.reduceAdd, Int.reduceSub, Int.reduceMul, Int.reduceNeg, Int.reduceToNat, reduceCtorEq, reduceIte, h5, lenV_sl H.g, lenV_sl H.a, lenV_sl H.w, elem_sl Spn.el H.g, elem_sl Anc.el H.a, elem_sl Wal.el H.w, view_sl H.g, view_sl H.a, view_sl H.w, scalar_sl H.g, scalar_sl H.a, scalar_sl H.w, cells_sl H.g, cells_sl H.a, cells_sl H.w, pure_sl H.g, pure_sl H.a, pure_sl H.w, Spn.e, Anc.e, Wal.e, Spn.eta, Anc.eta, Wal.eta, Int.toNat_natCast, s109 H.a (by omega) (p := ancOk n) (g := 65) (caps := [.ptr 0 0]) (h := [.cells [I n.wind.lo, I n.wind.hi, I n.cur.lo, I n.cur.hi, g, a, w] false]) (fun x J => s107 H x J)]
  cases h6 : n.ancs.all (ancOk n)
  · simp (disch := first | assumption | omega | (simp only [az]; done)) only [ru, eq_self, if_true, if_false, BEq.rfl, binI, AO.row?, splice, fillL, mmAll, loadV, storeV, zeros, Am.rowAt, Am.part, addOff, Nat.reduceAdd, Nat.reduceMul, Nat.reduceLeDiff, Nat.reduceSub, Nat.reduceLT, Int.reduceEq, Int.reduceLT, Int.reduceLE, Int.reduceGT, Int.reduceGE, Int.reduceAdd, Int.reduceSub, Int.reduceMul, Int.reduceNeg, Int.reduceToNat, reduceCtorEq, reduceIte]
    simp [Net.valid, h6]
  simp (disch := first | assumption | omega | (simp only [az]; done)) only [ru, eq_self, if_true, if_false, BEq.rfl, binI, AO.row?, splice, fillL, mmAll, loadV, storeV, zeros, Am.rowAt, Am.part, addOff, Nat.reduceAdd, Nat.reduceMul, Nat.reduceLeDiff, Nat.reduceSub, Nat.reduceLT, Int.reduceEq, Int.reduceLT, Int.reduceLE, Int.reduceGT, Int.reduceGE, Int.reduceAdd, Int.reduceSub, Int.reduceMul, Int.reduceNeg, Int.reduceToNat, reduceCtorEq, reduceIte, lenV_sl H.g, lenV_sl H.a, lenV_sl H.w, elem_sl Spn.el H.g, elem_sl Anc.el H.a, elem_sl Wal.el H.w, view_sl H.g, view_sl H.a, view_sl H.w, scalar_sl H.g, scalar_sl H.a, scalar_sl H.w, cells_sl H.g, cells_sl H.a, cells_sl H.w, pure_sl H.g, pure_sl H.a, pure_sl H.w, Spn.e, Anc.e, Wal.e, Spn.eta, Anc.eta, Wal.eta, Int.toNat_natCast, mmx]
  by_cases h7 : (n.walls.length : Int) = if (n.ancs.length : Int) - 1 > 0 then (n.ancs.length : Int) - 1 else 0
  case neg =>
    simp (disch := first | assumption | omega | (simp only [az]; done)) only [ru, eq_self, if_true, if_false, BEq.rfl, binI, AO.row?, splice, fillL, mmAll, loadV, storeV, zeros, Am.rowAt, Am.part, addOff, Nat.reduceAdd, Nat.reduceMul, Nat.reduceLeDiff, Nat.reduceSub, Nat.reduceLT, Int.reduceEq, Int.reduceLT, Int.reduceLE, Int.reduceGT, Int.reduceGE, Int.reduceAdd, Int.reduceSub, Int.reduceMul, Int.reduceNeg, Int.reduceToNat, reduceCtorEq, reduceIte, h7]
    have : ¬ n.walls.length = n.ancs.length - 1 := by split at h7 <;> omega
    simp [Net.valid, this]
  have h7' : n.walls.length = n.ancs.length - 1 := by split at h7 <;> omega
  simp (disch := first | assumption | omega | (simp only [az]; done)) only [ru, eq_self, if_true, if_false, BEq.rfl, binI, AO.row?, splice, fillL, mmAll, loadV, storeV, zeros, Am.rowAt, Am.part, addOff, Nat.reduceAdd, Nat.reduceMul, Nat.reduceLeDiff, Nat.reduceSub, Nat.reduceLT, Int.reduceEq, Int.reduceLT, Int.reduceLE, Int.reduceGT, Int.reduceGE, Int.reduceAdd, Int.reduceSub, Int.reduceMul, Int.reduceNeg, Int.reduceToNat, reduceCtorEq, reduceIte, h7, lenV_sl H.g, lenV_sl H.a, lenV_sl H.w, elem_sl Spn.el H.g, elem_sl Anc.el H.a, elem_sl Wal.el H.w, view_sl H.g, view_sl H.a, view_sl H.w, scalar_sl H.g, scalar_sl H.a, scalar_sl H.w, cells_sl H.g, cells_sl H.a, cells_sl H.w, pure_sl H.g, pure_sl H.a, pure_sl H.w, Spn.e, Anc.e, Wal.e, Spn.eta, Anc.eta, Wal.eta, Int.toNat_natCast, s110 H.w (by omega) (p := walOk) (caps := []) (g := 70) (fun x J => s111 x _)]
  have h3' : n.grips.length ≤ 3 := by omega
  have h5' : n.ancs.length ≤ 6 := by omega
  simp only [Net.valid, h1, h2, h3', h4, h5', h6, h7', decide_true, Bool.and_self, Bool.true_and]

theorem s18 {n : Net} {g a w : AV} (H : NetOk n g a w) (st : Bool) : Iso E 32 [netV n g a w] st = some (I (if n.valid then 0 else 20)) := by
  refine Iso_of (es _ _ _ _) e32 ?_
  simp only [f32, netV]
  simp (disch := first | assumption | omega | (simp only [az]; done)) only [ru, eq_self, if_true, if_false, BEq.rfl, binI, AO.row?, splice, fillL, mmAll, loadV, storeV, zeros, Am.rowAt, Am.part, addOff, Nat.reduceAdd, Nat.reduceMul, Nat.reduceLeDiff, Nat.reduceSub, Nat.reduceLT, Int.reduceEq, Int.reduceLT, Int.reduceLE, Int.reduceGT, Int.reduceGE, Int.reduceAdd, Int.reduceSub, Int.reduceMul, Int.reduceNeg, Int.reduceToNat, reduceCtorEq, reduceIte, s65 H, lenV_sl H.g, lenV_sl H.a, lenV_sl H.w, elem_sl Spn.el H.g, elem_sl Anc.el H.a, elem_sl Wal.el H.w, view_sl H.g, view_sl H.a, view_sl H.w, scalar_sl H.g, scalar_sl H.a, scalar_sl H.w, cells_sl H.g, cells_sl H.a, cells_sl H.w, pure_sl H.g, pure_sl H.a, pure_sl H.w, Spn.e, Anc.e, Wal.e, Spn.eta, Anc.eta, Wal.eta, Int.toNat_natCast]
  cases hv : n.valid <;> simp (disch := first | assumption | omega | (simp only [az]; done)) only [ru, eq_self, if_true, if_false, BEq.rfl, binI, AO.row?, splice, fillL, mmAll, loadV, storeV, zeros, Am.rowAt, Am.part, addOff, Nat.reduceAdd, Nat.reduceMul, Nat.reduceLeDiff, Nat.reduceSub, Nat.reduceLT, Int.reduceEq, Int.reduceLT, Int.reduceLE, Int.reduceGT, Int.reduceGE, Int.reduceAdd, Int.reduceSub, Int.reduceMul, Int.reduceNeg, Int.reduceToNat, reduceCtorEq, reduceIte]

theorem s68 {n : Net} {g a w : AV} (H : NetOk n g a w) (b st : Bool) : Iso E 36 [netV n g a w, Bo b] st = some (I (if n.valid then (if b then 0 else 1) else 20)) := by
  refine Iso_of (es _ _ _ _) e36 ?_
  simp only [f36, netV]
  simp (disch := first | assumption | omega | (simp only [az]; done)) only [ru, eq_self, if_true, if_false, BEq.rfl, binI, AO.row?, splice, fillL, mmAll, loadV, storeV, zeros, Am.rowAt, Am.part, addOff, Nat.reduceAdd, Nat.reduceMul, Nat.reduceLeDiff, Nat.reduceSub, Nat.reduceLT, Int.reduceEq, Int.reduceLT, Int.reduceLE, Int.reduceGT, Int.reduceGE, Int.reduceAdd, Int.reduceSub, Int.reduceMul, Int.reduceNeg, Int.reduceToNat, reduceCtorEq, reduceIte, s18 H, lenV_sl H.g, lenV_sl H.a, lenV_sl H.w, elem_sl Spn.el H.g, elem_sl Anc.el H.a, elem_sl Wal.el H.w, view_sl H.g, view_sl H.a, view_sl H.w, scalar_sl H.g, scalar_sl H.a, scalar_sl H.w, cells_sl H.g, cells_sl H.a, cells_sl H.w, pure_sl H.g, pure_sl H.a, pure_sl H.w, Spn.e, Anc.e, Wal.e, Spn.eta, Anc.eta, Wal.eta, Int.toNat_natCast]
  cases hv : n.valid
  · simp (disch := first | assumption | omega | (simp only [az]; done)) only [ru, eq_self, if_true, if_false, BEq.rfl, binI, AO.row?, splice, fillL, mmAll, loadV, storeV, zeros, Am.rowAt, Am.part, addOff, Nat.reduceAdd, Nat.reduceMul, Nat.reduceLeDiff, Nat.reduceSub, Nat.reduceLT, Int.reduceEq, Int.reduceLT, Int.reduceLE, Int.reduceGT, Int.reduceGE, Int.reduceAdd, Int.reduceSub, Int.reduceMul, Int.reduceNeg, Int.reduceToNat, reduceCtorEq, reduceIte]
  · cases b <;> simp (disch := first | assumption | omega | (simp only [az]; done)) only [ru, eq_self, if_true, if_false, BEq.rfl, binI, AO.row?, splice, fillL, mmAll, loadV, storeV, zeros, Am.rowAt, Am.part, addOff, Nat.reduceAdd, Nat.reduceMul, Nat.reduceLeDiff, Nat.reduceSub, Nat.reduceLT, Int.reduceEq, Int.reduceLT, Int.reduceLE, Int.reduceGT, Int.reduceGE, Int.reduceAdd, Int.reduceSub, Int.reduceMul, Int.reduceNeg, Int.reduceToNat, reduceCtorEq, reduceIte]

end Go.Proofs.Ytmldjpeiokciiaa.A

namespace Go.Proofs.Ytmldjpeiokciiaa.A
open Go Go.Am Go.Proofs.Ytmldjpeiokciiaa.T
set_option maxRecDepth 100000
set_option linter.unusedSimpArgs false
set_option linter.unusedVariables false



def slV {α : Type} (esz : Nat) (enc : α → List AV) (l : List α) : AV := .cs esz l.length (l.flatMap enc)
theorem slV_is {α : Type} {esz : Nat} {enc : α → List AV} {l : List α} : IsSl esz enc l (slV esz enc l) := .inl rfl
/-- the net itself, in values of its own -/
abbrev netC (n : Net) : AV := netV n (slV 2 Spn.e n.grips) (slV 2 Anc.e n.ancs) (slV 5 Wal.e n.walls)
theorem NetOk.c {n : Net} {g a w : AV} (H : NetOk n g a w) : NetOk n (slV 2 Spn.e n.grips) (slV 2 Anc.e n.ancs) (slV 5 Wal.e n.walls) := ⟨slV_is, slV_is, slV_is, H.sg, H.sa, H.sw⟩

theorem mapM_view {st : Bool} {h : List AO} {n : Nat} : ∀ {c : List AV}, (∀ x ∈ c, view st h n x = some x) → c.mapM (view st h n) = some c
  | [], _ => rfl
  | a :: c, hc => by
    simp only [List.mapM_cons, hc a (by simp), mapM_view (c := c) (fun x hx => hc x (by simp [hx])), Option.bind_eq_bind, Option.bind_some, Option.pure_def]
theorem flat_view {α : Type} {enc : α → List AV} {st : Bool} {h : List AO} {n : Nat} (hi : ∀ a, ∀ x ∈ enc a, ∃ k i, x = .int k i) (l : List α) : (l.flatMap enc).mapM (view st h n) = some (l.flatMap enc) :=
  mapM_view fun x hx => by
    obtain ⟨a, _, hx⟩ := List.mem_flatMap.1 hx
    obtain ⟨k, i, rfl⟩ := hi a x hx
    exact view_int
theorem flat_take {α : Type} {enc : α → List AV} {l : List α} {k : Nat} (he : ∀ a, (enc a).length = k) : (l.flatMap enc).take (l.length * k) = l.flatMap enc := List.take_of_length_le (by rw [flat_len he]; omega)
theorem mul_bd {a b m k : Int} (h1 : 0 ≤ a) (h2 : a ≤ m) (h3 : 0 ≤ b) (h4 : b ≤ k) : 0 ≤ a * b ∧ a * b ≤ m * k :=
  ⟨Int.mul_nonneg h1 h3, Int.mul_le_mul h2 h4 h3 (by omega)⟩

theorem inR_iff {n lo hi : Int} : inR n lo hi = true ↔ lo ≤ n ∧ n ≤ hi := by simp [inR]

theorem getD_mem {α : Type} [Inhabited α] {l : List α} {i : Nat} (h : i < l.length) : l.getD i default ∈ l := by
  rw [List.getD_eq_getElem?_getD, List.getElem?_eq_getElem h]; exact List.getElem_mem h

structure WalB (s : Wal) : Prop where
  a0 : 0 ≤ s.sail
  a1 : s.sail ≤ 9
  b0 : 0 ≤ s.drag
  b1 : s.drag ≤ 9
  c0 : 0 ≤ s.lean
  c1 : s.lean ≤ 9
  d0 : 0 ≤ s.corks
  d1 : s.corks ≤ 99
  e0 : 0 ≤ s.stones
  e1 : s.stones ≤ 99
theorem walB {s : Wal} (h : walOk s = true) : WalB s := by
  simp only [walOk, Bool.and_eq_true, inR_iff] at h
  obtain ⟨⟨⟨⟨⟨a0, a1⟩, b0, b1⟩, c0, c1⟩, d0, d1⟩, e0, e1⟩ := h
  exact ⟨a0, a1, b0, b1, c0, c1, d0, d1, e0, e1⟩
structure NetB (n : Net) : Prop where
  w0 : 0 ≤ n.wind.lo
  w1 : n.wind.lo ≤ n.wind.hi
  w2 : n.wind.hi ≤ 20
  c0 : 0 ≤ n.cur.lo
  c1 : n.cur.lo ≤ n.cur.hi
  c2 : n.cur.hi ≤ 20
  lg : n.grips.length ≤ 3
  la : n.ancs.length ≤ 6
  lw : n.walls.length = n.ancs.length - 1
  g : ∀ s ∈ n.grips, 0 ≤ s.lo ∧ s.lo ≤ s.hi ∧ s.hi ≤ 9
  a : ∀ s ∈ n.ancs, 0 ≤ s.w ∧ s.w ≤ 20 ∧ 0 ≤ s.b ∧ s.b < n.grips.length
  w : ∀ s ∈ n.walls, WalB s
theorem netB {n : Net} (h : n.valid = true) : NetB n := by
  simp only [Net.valid, spanOk, Bool.and_eq_true, inR_iff, decide_eq_true_eq, List.all_eq_true, ancOk] at h
  obtain ⟨⟨⟨⟨⟨⟨⟨⟨⟨a0, a1⟩, b0, b1⟩, ⟨c0, c1⟩, d0, d1⟩, e⟩, f⟩, g⟩, i⟩, j⟩, k⟩ := h
  refine ⟨b0, b1, a1, d0, d1, c1, e, f, g, fun s hs => ?_, fun s hs => ?_, fun s hs => walB (k s hs)⟩
  · have := i s hs; omega
  · have := j s hs; omega

theorem s71' (s : Wal) (wi cu : Int) (st : Bool) (h1 : 0 ≤ s.sail * wi ∧ s.sail * wi ≤ 9 * 20) (h3 : 0 ≤ s.drag * cu ∧ s.drag * cu ≤ 9 * 20) : Iso E 84 [.agg [I s.sail, I s.drag, I s.lean, I s.corks, I s.stones], I wi, I cu] st = some (I (s.sail * wi + s.drag * cu)) :=
  s71 s wi cu st (by omega) (by omega) (by omega) (by omega)

end Go.Proofs.Ytmldjpeiokciiaa.A

namespace Go.Proofs.Ytmldjpeiokciiaa.A
open Go Go.Am Go.Proofs.Ytmldjpeiokciiaa.T
set_option maxRecDepth 100000
set_option linter.unusedSimpArgs false
set_option linter.unusedVariables false



end Go.Proofs.Ytmldjpeiokciiaa.A

namespace Go.Proofs.Ytmldjpeiokciiaa.A
open Go Go.Am Go.Proofs.Ytmldjpeiokciiaa.T
set_option maxRecDepth 100000
set_option linter.unusedSimpArgs false
set_option linter.unusedVariables false




end Go.Proofs.Ytmldjpeiokciiaa.A

namespace Go.Proofs.Ytmldjpeiokciiaa.A
open Go Go.Am Go.Proofs.Ytmldjpeiokciiaa.T
set_option maxRecDepth 100000
set_option linter.unusedSimpArgs false
set_option linter.unusedVariables false




theorem s15 {n : Net} {g a w q : AV} (Hg : IsSl 2 Spn.e n.grips g) (Ha : IsSl 2 Anc.e n.ancs a) (Hw : IsSl 5 Wal.e n.walls w) {l : List Int} (Hq : IsSl 1 (fun n => [I n]) l q) (wi cu : Int) (st : Bool) :
    Iso E 4 [netV n g a w, .agg [I wi, I cu, q]] st = some (Bo (decide ((n.grips.length : Int) > 40) || (decide ((n.ancs.length : Int) > 40) || (decide ((n.walls.length : Int) > 40) || decide ((l.length : Int) > 40))))) := by
  refine Iso_of (es _ _ _ _) e4 ?_
  simp only [f4, netV]
  simp (disch := first | assumption | omega | (simp only [az]; done)) only [ru, eq_self, if_true, if_false, BEq.rfl, binI, AO.row?, splice, fillL, mmAll, loadV, storeV, zeros, Am.rowAt, Am.part, addOff, Nat.reduceAdd, Nat.reduceMul, Nat.reduceLeDiff, Nat.reduceSub, Nat.reduceLT, Int.reduceEq, Int.reduceLT, Int.reduceLE, Int.reduceGT, Int.reduceGE, Int.reduceAdd, Int.reduceSub, Int.reduceMul, Int.reduceNeg, Int.reduceToNat, reduceCtorEq, reduceIte, lenV_sl Hg, lenV_sl Ha, lenV_sl Hw, lenV_sl Hq, gt_iff_lt] ; repeat' ((first | refine GG_split (fun hb => ?_) (fun hb => ?_) | refine GC_split (fun hb => ?_) (fun hb => ?_)) <;> simp (disch := first | assumption | omega | (simp only [az]; done)) only [ru, eq_self, if_true, if_false, BEq.rfl, binI, AO.row?, splice, fillL, mmAll, loadV, storeV, zeros, Am.rowAt, Am.part, addOff, Nat.reduceAdd, Nat.reduceMul, Nat.reduceLeDiff, Nat.reduceSub, Nat.reduceLT, Int.reduceEq, Int.reduceLT, Int.reduceLE, Int.reduceGT, Int.reduceGE, Int.reduceAdd, Int.reduceSub, Int.reduceMul, Int.reduceNeg, Int.reduceToNat, reduceCtorEq, reduceIte, lenV_sl Hg, lenV_sl Ha, lenV_sl Hw, lenV_sl Hq, gt_iff_lt, hb])
  all_goals (simp_all)

/-- a net as it is handed in: of any size -/
structure NetIn (n : Net) (g a w : AV) : Prop where
  g : IsSl 2 Spn.e n.grips g
  a : IsSl 2 Anc.e n.ancs a
  w : IsSl 5 Wal.e n.walls w

end Go.Proofs.Ytmldjpeiokciiaa.A

/-
What drags at last: the least set that is closed; two ways to come to it.
-/
namespace Go.Proofs.Ytmldjpeiokciiaa.A
open Go Go.Am Go.Proofs.Ytmldjpeiokciiaa.T
set_option linter.unusedSimpArgs false
set_option linter.unusedVariables false

structure Tru where
  wind : Int
  cur : Int
  grips : List Int

def ldI (n : Net) (t : Tru) (i : Nat) : Int := (n.walls.getD i default).sail * t.wind + (n.walls.getD i default).drag * t.cur
def twice (d : Bool) (x : Int) : Int := if d then x + x else x
def bearsI (n : Net) (t : Tru) (i : Nat) (D : Nat → Bool) : Int :=
  (if 0 < i then twice (D (i - 1)) (ldI n t (i - 1)) else 0) + (if i + 1 < n.ancs.length then twice (D (i + 1)) (ldI n t i) else 0)
def canI (n : Net) (t : Tru) (i : Nat) : Int := 2 * (n.ancs.getD i default).w * t.grips.getD (n.ancs.getD i default).b.toNat default
def drg (n : Net) (t : Tru) (i : Nat) (D : Nat → Bool) : Bool := decide (bearsI n t i D > canI n t i)

/-- loads are never below 0 -/
def Pos (n : Net) (t : Tru) : Prop := ∀ i, i < n.walls.length → 0 ≤ ldI n t i

def Cl (n : Net) (t : Tru) (D : Nat → Bool) : Prop := ∀ i, i < n.ancs.length → drg n t i D = true → D i = true
def Le (n : Net) (D D' : Nat → Bool) : Prop := ∀ i, i < n.ancs.length → D i = true → D' i = true
structure IsLfp (n : Net) (t : Tru) (S A : Nat → Bool) : Prop where
  cl : Cl n t A
  le : Le n S A
  least : ∀ D, Cl n t D → Le n S D → Le n A D

theorem twice_mono {d d' : Bool} {x : Int} (h : d = true → d' = true) (hx : 0 ≤ x) : twice d x ≤ twice d' x := by
  cases d <;> cases d' <;> simp [twice] at * <;> omega

theorem drg_mono {n : Net} {t : Tru} (hp : Pos n t) (hw : n.walls.length = n.ancs.length - 1) {A B : Nat → Bool} (h : Le n A B) {i : Nat} (hi : i < n.ancs.length) (hd : drg n t i A = true) : drg n t i B = true := by
  simp only [drg, decide_eq_true_eq] at hd ⊢
  have : bearsI n t i A ≤ bearsI n t i B := by
    unfold bearsI
    apply Int.add_le_add
    · split
      · exact twice_mono (h (i - 1) (by omega)) (hp _ (by omega))
      · exact Int.le_refl _
    · split
      · exact twice_mono (h (i + 1) (by omega)) (hp _ (by omega))
      · exact Int.le_refl _
  omega

theorem lfp_unique {n : Net} {t : Tru} {S A B : Nat → Bool} (ha : IsLfp n t S A) (hb : IsLfp n t S B) : ∀ i, i < n.ancs.length → A i = B i := by
  intro i hi
  have h1 := ha.least B hb.cl hb.le i hi
  have h2 := hb.least A ha.cl ha.le i hi
  cases hA : A i <;> cases hB : B i <;> simp_all

/-- the numbers of a set, ascending -/
def lst (n : Net) (D : Nat → Bool) : List Int := ((List.range n.ancs.length).filter D).map fun (i : Nat) => (i : Int)
theorem lst_congr {n : Net} {A B : Nat → Bool} (h : ∀ i, i < n.ancs.length → A i = B i) : lst n A = lst n B := by
  unfold lst
  congr 1
  apply List.filter_congr
  intro i hi
  exact h i (List.mem_range.1 hi)
theorem mem_lst {n : Net} {D : Nat → Bool} {i : Nat} (hi : i < n.ancs.length) : ((i : Int) ∈ lst n D) ↔ D i = true := by
  simp only [lst, List.mem_map, List.mem_filter, List.mem_range]
  constructor
  · rintro ⟨j, ⟨_, hj⟩, e⟩
    have : j = i := by omega
    subst this; exact hj
  · intro h; exact ⟨i, ⟨hi, h⟩, rfl⟩
theorem lst_len {n : Net} {D : Nat → Bool} : (lst n D).length = ((List.range n.ancs.length).filter D).length := by simp [lst]
theorem lst_le {n : Net} {D : Nat → Bool} : (lst n D).length ≤ n.ancs.length := by
  rw [lst_len]; exact Nat.le_trans (List.length_filter_le _ _) (by simp)

theorem filter_le {α : Type} {p q : α → Bool} : ∀ {l : List α}, (∀ x ∈ l, p x = true → q x = true) → (l.filter p).length ≤ (l.filter q).length
  | [], _ => Nat.le_refl _
  | a :: l, h => by
    have ih := filter_le (l := l) (p := p) (q := q) (fun x hx => h x (by simp [hx]))
    have h1 := h a (by simp)
    cases hp : p a <;> cases hq : q a <;> simp_all [List.filter_cons] <;> omega
theorem filter_eq {α : Type} {p q : α → Bool} : ∀ {l : List α}, (∀ x ∈ l, p x = true → q x = true) → (l.filter p).length = (l.filter q).length → ∀ x ∈ l, q x = true → p x = true
  | [], _, _, x, hx, _ => by simp at hx
  | a :: l, h, he, x, hx, hq => by
    have hle := filter_le (l := l) (p := p) (q := q) (fun x hx => h x (by simp [hx]))
    have h1 := h a (by simp)
    have key : (l.filter p).length = (l.filter q).length ∧ (q a = true → p a = true) := by
      cases hp : p a <;> cases hq : q a <;> simp_all [List.filter_cons] <;> omega
    rcases List.mem_cons.1 hx with rfl | hx'
    · exact key.2 hq
    · exact filter_eq (fun x hx => h x (by simp [hx])) key.1 x hx' hq

/-- one round of all at once -/
def stepS (n : Net) (t : Tru) (S : Nat → Bool) : Nat → Bool := fun i => S i || drg n t i S

/-! the other way: one after the other, in rounds -/
def gb (b : List Bool) : Nat → Bool := fun i => b.getD i false
theorem gb_set {b : List Bool} {i j : Nat} {x : Bool} (hi : i < b.length) : gb (b.set i x) j = if i = j then x else gb b j := by
  simp only [gb, List.getD_eq_getElem?_getD, List.getElem?_set]
  by_cases e : i = j
  · subst e; simp [hi]
  · simp [e]
def sw1 (n : Net) (t : Tru) (b : List Bool) (a : Nat) : List Bool := if gb b a then b else b.set a (drg n t a (gb b))
def sw (n : Net) (t : Tru) (b : List Bool) : Nat → List Bool
  | 0 => b
  | a + 1 => sw1 n t (sw n t b a) a
def rd (n : Net) (t : Tru) (b : List Bool) : Nat → List Bool
  | 0 => b
  | k + 1 => sw n t (rd n t b k) n.ancs.length

theorem sw1_len {n : Net} {t : Tru} {b : List Bool} {a : Nat} : (sw1 n t b a).length = b.length := by unfold sw1; split <;> simp
theorem sw_len {n : Net} {t : Tru} {b : List Bool} : ∀ {a : Nat}, (sw n t b a).length = b.length
  | 0 => rfl
  | a + 1 => by rw [sw, sw1_len, sw_len]
theorem rd_len {n : Net} {t : Tru} {b : List Bool} : ∀ {k : Nat}, (rd n t b k).length = b.length
  | 0 => rfl
  | k + 1 => by rw [rd, sw_len, rd_len]

theorem sw1_up {n : Net} {t : Tru} {b : List Bool} {a : Nat} (ha : a < b.length) : ∀ i, gb b i = true → gb (sw1 n t b a) i = true := by
  intro i h
  unfold sw1
  split
  · exact h
  · rename_i hn
    rw [gb_set ha]
    split
    · rename_i e; subst e; exact absurd h hn
    · exact h
theorem sw_up {n : Net} {t : Tru} {b : List Bool} : ∀ {a : Nat}, a ≤ b.length → ∀ i, gb b i = true → gb (sw n t b a) i = true
  | 0, _, i, h => h
  | a + 1, ha, i, h => sw1_up (by rw [sw_len]; omega) i (sw_up (by omega) i h)
/-- places beyond are as they were -/
theorem sw_out {n : Net} {t : Tru} {b : List Bool} : ∀ {a : Nat}, a ≤ b.length → ∀ i, a ≤ i → gb (sw n t b a) i = gb b i
  | 0, _, i, _ => rfl
  | a + 1, ha, i, hi => by
    rw [sw, sw1]
    split
    · exact sw_out (by omega) i (by omega)
    · rw [gb_set (by rw [sw_len]; omega), if_neg (by omega)]
      exact sw_out (by omega) i (by omega)
theorem rd_out {n : Net} {t : Tru} {b : List Bool} (hb : n.ancs.length ≤ b.length) : ∀ {k : Nat} (i : Nat), n.ancs.length ≤ i → gb (rd n t b k) i = gb b i
  | 0, i, _ => rfl
  | k + 1, i, hi => by rw [rd, sw_out (by rw [rd_len]; exact hb) i hi]; exact rd_out hb i hi
theorem sw1_least {n : Net} {t : Tru} (hp : Pos n t) (hw : n.walls.length = n.ancs.length - 1) {b : List Bool} {a : Nat} (ha : a < n.ancs.length) (hab : a < b.length) {D : Nat → Bool} (hc : Cl n t D) (hs : Le n (gb b) D) : Le n (gb (sw1 n t b a)) D := by
  intro i hi h
  unfold sw1 at h
  split at h
  · exact hs i hi h
  · rw [gb_set hab] at h
    split at h
    · rename_i e; subst e; exact hc _ ha (drg_mono hp hw hs ha h)
    · exact hs i hi h
theorem sw_least {n : Net} {t : Tru} (hp : Pos n t) (hw : n.walls.length = n.ancs.length - 1) {b : List Bool} (hb : n.ancs.length ≤ b.length) {D : Nat → Bool} (hc : Cl n t D) (hs : Le n (gb b) D) : ∀ {a : Nat}, a ≤ n.ancs.length → Le n (gb (sw n t b a)) D
  | 0, _ => hs
  | a + 1, ha => sw1_least hp hw (by omega) (by rw [sw_len]; omega) hc (sw_least hp hw hb hc hs (by omega))
theorem rd_least {n : Net} {t : Tru} (hp : Pos n t) (hw : n.walls.length = n.ancs.length - 1) {b : List Bool} (hb : n.ancs.length ≤ b.length) {D : Nat → Bool} (hc : Cl n t D) (hs : Le n (gb b) D) : ∀ {k : Nat}, Le n (gb (rd n t b k)) D
  | 0 => hs
  | k + 1 => sw_least hp hw (by rw [rd_len]; exact hb) hc (rd_least hp hw hb hc hs) (Nat.le_refl _)
theorem rd_up {n : Net} {t : Tru} {b : List Bool} (hb : n.ancs.length ≤ b.length) : ∀ {k : Nat}, ∀ i, gb b i = true → gb (rd n t b k) i = true
  | 0, i, h => h
  | k + 1, i, h => sw_up (by rw [rd_len]; exact hb) i (rd_up hb i h)

/-- what is closed stays as it is -/
theorem sw_closed {n : Net} {t : Tru} {b : List Bool} (hb : n.ancs.length ≤ b.length) (hc : Cl n t (gb b)) : ∀ {a : Nat}, a ≤ n.ancs.length → sw n t b a = b
  | 0, _ => rfl
  | a + 1, ha => by
    rw [sw, sw_closed hb hc (by omega), sw1]
    split
    · rfl
    · rename_i hn
      have : drg n t a (gb b) = false := by
        cases h : drg n t a (gb b) with
        | false => rfl
        | true => exact absurd (hc a (by omega) h) hn
      rw [this]
      have hf : gb b a = false := by simpa using hn
      simp only [gb, List.getD_eq_getElem?_getD] at hf
      apply List.ext_getElem?
      intro j
      rw [List.getElem?_set]
      split
      · rename_i e; subst e
        rw [if_pos (by omega)]
        rw [List.getElem?_eq_getElem (by omega)] at hf ⊢
        simpa using hf.symm
      · rfl
/-- what is not closed gets more -/
theorem sw_grows {n : Net} {t : Tru} (hp : Pos n t) (hw : n.walls.length = n.ancs.length - 1) {b : List Bool} (hb : n.ancs.length ≤ b.length) (hc : ¬ Cl n t (gb b)) : (lst n (gb b)).length < (lst n (gb (sw n t b n.ancs.length))).length := by
  rw [lst_len, lst_len]
  have hle : ∀ x ∈ List.range n.ancs.length, gb b x = true → gb (sw n t b n.ancs.length) x = true := fun x hx h => sw_up hb x h
  apply Nat.lt_of_le_of_ne (filter_le hle)
  intro he
  apply hc
  intro i hi hd
  refine filter_eq hle he i (List.mem_range.2 hi) ?_
  -- at its turn it drags, if it has not yet
  have h1 : drg n t i (gb (sw n t b i)) = true := drg_mono hp hw (fun j hj h => sw_up (a := i) (by omega) j h) hi hd
  have h2 : gb (sw n t b (i + 1)) i = true := by
    rw [sw, sw1]
    split
    · assumption
    · rw [gb_set (by rw [sw_len]; omega), if_pos rfl]; exact h1
  have h3 : ∀ k, i + 1 + k ≤ n.ancs.length → gb (sw n t b (i + 1 + k)) i = true := by
    intro k
    induction k with
    | zero => intro _; exact h2
    | succ k ih =>
      intro hk
      show gb (sw n t b ((i + 1 + k) + 1)) i = true
      rw [sw]
      exact sw1_up (a := i + 1 + k) (by rw [sw_len]; omega) i (ih (by omega))
  have := h3 (n.ancs.length - (i + 1)) (by omega)
  rwa [show i + 1 + (n.ancs.length - (i + 1)) = n.ancs.length by omega] at this

theorem rd_cl {n : Net} {t : Tru} (hp : Pos n t) (hw : n.walls.length = n.ancs.length - 1) {b : List Bool} (hb : n.ancs.length ≤ b.length) : ∀ k, Cl n t (gb (rd n t b k)) ∨ k ≤ (lst n (gb (rd n t b k))).length
  | 0 => .inr (Nat.zero_le _)
  | k + 1 => by
    by_cases hc : Cl n t (gb (rd n t b k))
    · left
      rw [rd, sw_closed (by rw [rd_len]; exact hb) hc (Nat.le_refl _)]
      exact hc
    · right
      rcases rd_cl hp hw hb k with h | h
      · exact absurd h hc
      · have := sw_grows hp hw (by rw [rd_len]; exact hb) hc
        rw [rd]; omega

/-- so many rounds as there are anchors are enough -/
theorem rd_lfp {n : Net} {t : Tru} (hp : Pos n t) (hw : n.walls.length = n.ancs.length - 1) {b : List Bool} (hb : n.ancs.length ≤ b.length) : IsLfp n t (gb b) (gb (rd n t b n.ancs.length)) := by
  refine ⟨?_, fun i _ h => rd_up hb i h, fun D hc hs => rd_least hp hw hb hc hs⟩
  rcases rd_cl hp hw hb n.ancs.length with h | h
  · exact h
  · intro i hi _
    rw [lst_len] at h
    have hall : ((List.range n.ancs.length).filter (gb (rd n t b n.ancs.length))).length = ((List.range n.ancs.length).filter fun _ => true).length := by
      have h1 := List.length_filter_le (gb (rd n t b n.ancs.length)) (List.range n.ancs.length)
      simp only [List.length_range] at h1
      have hf : (List.range n.ancs.length).filter (fun _ => true) = List.range n.ancs.length := by simp
      rw [hf, List.length_range]
      omega
    exact filter_eq (fun _ _ _ => rfl) hall i (List.mem_range.2 hi) rfl

end Go.Proofs.Ytmldjpeiokciiaa.A

namespace Go.Proofs.Ytmldjpeiokciiaa.A
open Go Go.Am Go.Proofs.Ytmldjpeiokciiaa.T
set_option maxRecDepth 100000
set_option linter.unusedSimpArgs false
set_option linter.unusedVariables false


structure TruIn (t : Tru) (v : AV) : Prop where
  s : IsSl 1 (fun n => [I n]) t.grips v
structure TruOk (t : Tru) (v : AV) : Prop where
  s : IsSl 1 (fun n => [I n]) t.grips v
  l : t.grips.length ≤ 40

def truthOk (n : Net) (t : Tru) : Bool := inR t.wind n.wind.lo n.wind.hi && inR t.cur n.cur.lo n.cur.hi && decide (t.grips.length = n.grips.length) &&
  (List.range t.grips.length).all fun i => inR (t.grips.getD i default) (n.grips.getD i default).lo (n.grips.getD i default).hi

theorem range_all_succ {p : Nat → Bool} {i : Nat} (h : (List.range i).all p = true) (hp : p i = true) : (List.range (i + 1)).all p = true := by
  rw [List.range_succ, List.all_append, h]; simpa using hp
theorem range_not {p : Nat → Bool} {i k : Nat} (hi : i < k) (hp : p i = false) : (List.range k).all p = false := by
  rw [List.all_eq_false]; exact ⟨i, List.mem_range.2 hi, by simpa using hp⟩

theorem s114 (lo hi x : Int) (st : Bool) : Iso E 52 [.agg [I lo, I hi], I x] st = some (Bo (inR x lo hi)) := by
  refine Iso_of (es _ _ _ _) e52 ?_
  simp only [f52, inR]
  simp (disch := first | assumption | omega | (simp only [az]; done)) only [ru, eq_self, if_true, if_false, BEq.rfl, binI, AO.row?, splice, fillL, mmAll, loadV, storeV, zeros, Am.rowAt, Am.part, addOff, Nat.reduceAdd, Nat.reduceMul, Nat.reduceLeDiff, Nat.reduceSub, Nat.reduceLT, Int.reduceEq, Int.reduceLT, Int.reduceLE, Int.reduceGT, Int.reduceGE, Int.reduceAdd, Int.reduceSub, Int.reduceMul, Int.reduceNeg, Int.reduceToNat, reduceCtorEq, reduceIte] ; repeat' ((first | refine GG_split (fun hb => ?_) (fun hb => ?_) | refine GC_split (fun hb => ?_) (fun hb => ?_)) <;> simp (disch := first | assumption | omega | (simp only [az]; done)) only [ru, eq_self, if_true, if_false, BEq.rfl, binI, AO.row?, splice, fillL, mmAll, loadV, storeV, zeros, Am.rowAt, Am.part, addOff, Nat.reduceAdd, Nat.reduceMul, Nat.reduceLeDiff, Nat.reduceSub, Nat.reduceLT, Int.reduceEq, Int.reduceLT, Int.reduceLE, Int.reduceGT, Int.reduceGE, Int.reduceAdd, Int.reduceSub, Int.reduceMul, Int.reduceNeg, Int.reduceToNat, reduceCtorEq, reduceIte, hb])
  all_goals simp_all

theorem s79 {n : Net} {g a w : AV} (H : NetOk n g a w) {t : Tru} {v : AV} (V : TruOk t v) (st : Bool) : Iso E 37 [netV n g a w, .agg [I t.wind, I t.cur, v]] st = some (Bo (truthOk n t)) := by
  have sg := H.sg; have sl := V.l
  refine Iso_of (es _ _ _ _) e37 ?_
  simp only [f37, netV]
  simp (disch := first | assumption | omega | (simp only [az]; done)) only [ru, eq_self, if_true, if_false, BEq.rfl, binI, AO.row?, splice, fillL, mmAll, loadV, storeV, zeros, Am.rowAt, Am.part, addOff, Nat.reduceAdd, Nat.reduceMul, Nat.reduceLeDiff, Nat.reduceSub, Nat.reduceLT, Int.reduceEq, Int.reduceLT, Int.reduceLE, Int.reduceGT, Int.reduceGE, Int.reduceAdd, Int.reduceSub, Int.reduceMul, Int.reduceNeg, Int.reduceToNat, reduceCtorEq, reduceIte, lenV_sl H.g, lenV_sl H.a, lenV_sl H.w, elem_sl Spn.el H.g, elem_sl Anc.el H.a, elem_sl Wal.el H.w, view_sl H.g, view_sl H.a, view_sl H.w, scalar_sl H.g, scalar_sl H.a, scalar_sl H.w, cells_sl H.g, cells_sl H.a, cells_sl H.w, pure_sl H.g, pure_sl H.a, pure_sl H.w, Spn.e, Anc.e, Wal.e, Spn.eta, Anc.eta, Wal.eta, Int.toNat_natCast, lenV_sl V.s, elem_sl intE V.s, view_sl V.s, scalar_sl V.s, cells_sl V.s, pure_sl V.s, s114]
  cases h1 : inR t.wind n.wind.lo n.wind.hi
  · simp (disch := first | assumption | omega | (simp only [az]; done)) only [ru, eq_self, if_true, if_false, BEq.rfl, binI, AO.row?, splice, fillL, mmAll, loadV, storeV, zeros, Am.rowAt, Am.part, addOff, Nat.reduceAdd, Nat.reduceMul, Nat.reduceLeDiff, Nat.reduceSub, Nat.reduceLT, Int.reduceEq, Int.reduceLT, Int.reduceLE, Int.reduceGT, Int.reduceGE, Int.reduceAdd, Int.reduceSub, Int.reduceMul, Int.reduceNeg, Int.reduceToNat, reduceCtorEq, reduceIte]
    simp [truthOk, h1]
  simp (disch := first | assumption | omega | (simp only [az]; done)) only [ru, eq_self, if_true, if_false, BEq.rfl, binI, AO.row?, splice, fillL, mmAll, loadV, storeV, zeros, Am.rowAt, Am.part, addOff, Nat.reduceAdd, Nat.reduceMul, Nat.reduceLeDiff, Nat.reduceSub, Nat.reduceLT, Int.reduceEq, Int.reduceLT, Int.reduceLE, Int.reduceGT, Int.reduceGE, Int.reduceAdd, Int.reduceSub, Int.reduceMul, Int.reduceNeg, Int.reduceToNat, reduceCtorEq, reduceIte, lenV_sl H.g, lenV_sl H.a, lenV_sl H.w, elem_sl Spn.el H.g, elem_sl Anc.el H.a, elem_sl Wal.el H.w, view_sl H.g, view_sl H.a, view_sl H.w, scalar_sl H.g, scalar_sl H.a, scalar_sl H.w, cells_sl H.g, cells_sl H.a, cells_sl H.w, pure_sl H.g, pure_sl H.a, pure_sl H.w, Spn.e, Anc.e, Wal.e, Spn.eta, Anc.eta, Wal.eta, Int.toNat_natCast, lenV_sl V.s, elem_sl intE V.s, view_sl V.s, scalar_sl V.s, cells_sl V.s, pure_sl V.s, s114]
  cases h2 : inR t.cur n.cur.lo n.cur.hi
  · simp (disch := first | assumption | omega | (simp only [az]; done)) only [ru, eq_self, if_true, if_false, BEq.rfl, binI, AO.row?, splice, fillL, mmAll, loadV, storeV, zeros, Am.rowAt, Am.part, addOff, Nat.reduceAdd, Nat.reduceMul, Nat.reduceLeDiff, Nat.reduceSub, Nat.reduceLT, Int.reduceEq, Int.reduceLT, Int.reduceLE, Int.reduceGT, Int.reduceGE, Int.reduceAdd, Int.reduceSub, Int.reduceMul, Int.reduceNeg, Int.reduceToNat, reduceCtorEq, reduceIte]
    simp [truthOk, h1, h2]
  simp (disch := first | assumption | omega | (simp only [az]; done)) only [ru, eq_self, if_true, if_false, BEq.rfl, binI, AO.row?, splice, fillL, mmAll, loadV, storeV, zeros, Am.rowAt, Am.part, addOff, Nat.reduceAdd, Nat.reduceMul, Nat.reduceLeDiff, Nat.reduceSub, Nat.reduceLT, Int.reduceEq, Int.reduceLT, Int.reduceLE, Int.reduceGT, Int.reduceGE, Int.reduceAdd, Int.reduceSub, Int.reduceMul, Int.reduceNeg, Int.reduceToNat, reduceCtorEq, reduceIte, lenV_sl H.g, lenV_sl H.a, lenV_sl H.w, elem_sl Spn.el H.g, elem_sl Anc.el H.a, elem_sl Wal.el H.w, view_sl H.g, view_sl H.a, view_sl H.w, scalar_sl H.g, scalar_sl H.a, scalar_sl H.w, cells_sl H.g, cells_sl H.a, cells_sl H.w, pure_sl H.g, pure_sl H.a, pure_sl H.w, Spn.e, Anc.e, Wal.e, Spn.eta, Anc.eta, Wal.eta, Int.toNat_natCast, lenV_sl V.s, elem_sl intE V.s, view_sl V.s, scalar_sl V.s, cells_sl V.s, pure_sl V.s, s114]
  by_cases h3 : (t.grips.length : Int) = n.grips.length
  case neg =>
    simp (disch := first | assumption | omega | (simp only [az]; done)) only [ru, eq_self, if_true, if_false, BEq.rfl, binI, AO.row?, splice, fillL, mmAll, loadV, storeV, zeros, Am.rowAt, Am.part, addOff, Nat.reduceAdd, Nat.reduceMul, Nat.reduceLeDiff, Nat.reduceSub, Nat.reduceLT, Int.reduceEq, Int.reduceLT, Int.reduceLE, Int.reduceGT, Int.reduceGE, Int.reduceAdd, Int.reduceSub, Int.reduceMul, Int.reduceNeg, Int.reduceToNat, reduceCtorEq, reduceIte, h3]
    have : ¬ t.grips.length = n.grips.length := by omega
    simp [truthOk, h1, h2, this]
  have h3' : t.grips.length = n.grips.length := by omega
  simp (disch := first | assumption | omega | (simp only [az]; done)) only [ru, eq_self, if_true, if_false, BEq.rfl, binI, AO.row?, splice, fillL, mmAll, loadV, storeV, zeros, Am.rowAt, Am.part, addOff, Nat.reduceAdd, Nat.reduceMul, Nat.reduceLeDiff, Nat.reduceSub, Nat.reduceLT, Int.reduceEq, Int.reduceLT, Int.reduceLE, Int.reduceGT, Int.reduceGE, Int.reduceAdd, Int.reduceSub, Int.reduceMul, Int.reduceNeg, Int.reduceToNat, reduceCtorEq, reduceIte, h3, lenV_sl H.g, lenV_sl H.a, lenV_sl H.w, elem_sl Spn.el H.g, elem_sl Anc.el H.a, elem_sl Wal.el H.w, view_sl H.g, view_sl H.a, view_sl H.w, scalar_sl H.g, scalar_sl H.a, scalar_sl H.w, cells_sl H.g, cells_sl H.a, cells_sl H.w, pure_sl H.g, pure_sl H.a, pure_sl H.w, Spn.e, Anc.e, Wal.e, Spn.eta, Anc.eta, Wal.eta, Int.toNat_natCast, lenV_sl V.s, elem_sl intE V.s, view_sl V.s, scalar_sl V.s, cells_sl V.s, pure_sl V.s]
  refine G_loop_ind (fun m ts h mk => ∃ i : Nat, i ≤ n.grips.length ∧ m = n.grips.length - i ∧ ((List.range i).all fun i => inR (t.grips.getD i default) (n.grips.getD i default).lo (n.grips.getD i default).hi) = true ∧ ts.length = 47 ∧
    ts.getD 2 .undef = .ptr 0 0 ∧ ts.getD 3 .undef = .ptr 1 0 ∧ ts.getD 31 .undef = v ∧ ts.getD 32 .undef = I n.grips.length ∧ ts.getD 33 .undef = I i ∧ h = [.cells [I n.wind.lo, I n.wind.hi, I n.cur.lo, I n.cur.hi, g, a, w] false, .cells [I t.wind, I t.cur, v] false] ∧ mk = []) ?_ _ _ _ _ ⟨0, Nat.zero_le _, rfl, rfl, rfl, rfl, rfl, rfl, rfl, rfl, rfl, rfl⟩
  rintro m ts h mk ih ⟨i, hi, rfl, hall, hl, q2, q3, q31, q32, q33, rfl, rfl⟩
  rw [lit_all hl]
  simp only [lit0, litS, Nat.reduceAdd, q2, q3, q31, q32, q33]
  simp (disch := first | assumption | omega | (simp only [az]; done)) only [ru, eq_self, if_true, if_false, BEq.rfl, binI, AO.row?, splice, fillL, mmAll, loadV, storeV, zeros, Am.rowAt, Am.part, addOff, Nat.reduceAdd, Nat.reduceMul, Nat.reduceLeDiff, Nat.reduceSub, Nat.reduceLT, Int.reduceEq, Int.reduceLT, Int.reduceLE, Int.reduceGT, Int.reduceGE, Int.reduceAdd, Int.reduceSub, Int.reduceMul, Int.reduceNeg, Int.reduceToNat, reduceCtorEq, reduceIte]
  by_cases hlt : (i : Int) < n.grips.length
  case pos =>
    have hlt2 : (i : Int) < t.grips.length := by omega
    simp (disch := first | assumption | omega | (simp only [az]; done)) only [ru, eq_self, if_true, if_false, BEq.rfl, binI, AO.row?, splice, fillL, mmAll, loadV, storeV, zeros, Am.rowAt, Am.part, addOff, Nat.reduceAdd, Nat.reduceMul, Nat.reduceLeDiff, Nat.reduceSub, Nat.reduceLT, Int.reduceEq, Int.reduceLT, Int.reduceLE, Int.reduceGT, Int.reduceGE, Int.reduceAdd, Int.reduceSub, Int.reduceMul, Int.reduceNeg, Int.reduceToNat, reduceCtorEq, reduceIte, hlt, lenV_sl H.g, lenV_sl H.a, lenV_sl H.w, elem_sl Spn.el H.g, elem_sl Anc.el H.a, elem_sl Wal.el H.w, view_sl H.g, view_sl H.a, view_sl H.w, scalar_sl H.g, scalar_sl H.a, scalar_sl H.w, cells_sl H.g, cells_sl H.a, cells_sl H.w, pure_sl H.g, pure_sl H.a, pure_sl H.w, Spn.e, Anc.e, Wal.e, Spn.eta, Anc.eta, Wal.eta, Int.toNat_natCast, lenV_sl V.s, elem_sl intE V.s, view_sl V.s, scalar_sl V.s, cells_sl V.s, pure_sl V.s, s114]
    cases hs : inR (t.grips.getD i default) (n.grips.getD i default).lo (n.grips.getD i default).hi
    · simp (disch := first | assumption | omega | (simp only [az]; done)) only [ru, eq_self, if_true, if_false, BEq.rfl, binI, AO.row?, splice, fillL, mmAll, loadV, storeV, zeros, Am.rowAt, Am.part, addOff, Nat.reduceAdd, Nat.reduceMul, Nat.reduceLeDiff, Nat.reduceSub, Nat.reduceLT, Int.reduceEq, Int.reduceLT, Int.reduceLE, Int.reduceGT, Int.reduceGE, Int.reduceAdd, Int.reduceSub, Int.reduceMul, Int.reduceNeg, Int.reduceToNat, reduceCtorEq, reduceIte]
      rw [truthOk, range_not (k := t.grips.length) (by omega) hs, Bool.and_false]
    · simp (disch := first | assumption | omega | (simp only [az]; done)) only [ru, eq_self, if_true, if_false, BEq.rfl, binI, AO.row?, splice, fillL, mmAll, loadV, storeV, zeros, Am.rowAt, Am.part, addOff, Nat.reduceAdd, Nat.reduceMul, Nat.reduceLeDiff, Nat.reduceSub, Nat.reduceLT, Int.reduceEq, Int.reduceLT, Int.reduceLE, Int.reduceGT, Int.reduceGE, Int.reduceAdd, Int.reduceSub, Int.reduceMul, Int.reduceNeg, Int.reduceToNat, reduceCtorEq, reduceIte]
      exact ih (n.grips.length - (i + 1)) _ _ _ (by omega) ⟨i + 1, by omega, rfl, range_all_succ hall hs, rfl, rfl, rfl, rfl, rfl, rfl, rfl, rfl⟩
  obtain rfl : i = n.grips.length := by omega
  simp (disch := first | assumption | omega | (simp only [az]; done)) only [ru, eq_self, if_true, if_false, BEq.rfl, binI, AO.row?, splice, fillL, mmAll, loadV, storeV, zeros, Am.rowAt, Am.part, addOff, Nat.reduceAdd, Nat.reduceMul, Nat.reduceLeDiff, Nat.reduceSub, Nat.reduceLT, Int.reduceEq, Int.reduceLT, Int.reduceLE, Int.reduceGT, Int.reduceGE, Int.reduceAdd, Int.reduceSub, Int.reduceMul, Int.reduceNeg, Int.reduceToNat, reduceCtorEq, reduceIte, hlt]
  rw [truthOk, h1, h2, h3', hall]
  simp

theorem s102 {n : Net} {g a w : AV} (H : NetOk n g a w) {t : Tru} {v : AV} (V : TruOk t v) (st : Bool) : Iso E 6 [netV n g a w, .agg [I t.wind, I t.cur, v]] st = some (Bo (truthOk n t)) := by
  have sg := H.sg; have sl := V.l
  refine Iso_of (es _ _ _ _) e6 ?_
  simp only [f6, netV]
  simp (disch := first | assumption | omega | (simp only [az]; done)) only [ru, eq_self, if_true, if_false, BEq.rfl, binI, AO.row?, splice, fillL, mmAll, loadV, storeV, zeros, Am.rowAt, Am.part, addOff, Nat.reduceAdd, Nat.reduceMul, Nat.reduceLeDiff, Nat.reduceSub, Nat.reduceLT, Int.reduceEq, Int.reduceLT, Int.reduceLE, Int.reduceGT, Int.reduceGE, Int.reduceAdd, Int.reduceSub, Int.reduceMul, Int.reduceNeg, Int.reduceToNat, reduceCtorEq, reduceIte, lenV_sl H.g, lenV_sl H.a, lenV_sl H.w, elem_sl Spn.el H.g, elem_sl Anc.el H.a, elem_sl Wal.el H.w, view_sl H.g, view_sl H.a, view_sl H.w, scalar_sl H.g, scalar_sl H.a, scalar_sl H.w, cells_sl H.g, cells_sl H.a, cells_sl H.w, pure_sl H.g, pure_sl H.a, pure_sl H.w, Spn.e, Anc.e, Wal.e, Spn.eta, Anc.eta, Wal.eta, Int.toNat_natCast, lenV_sl V.s, elem_sl intE V.s, view_sl V.s, scalar_sl V.s, cells_sl V.s, pure_sl V.s, s67]
  cases h1 : inR t.wind n.wind.lo n.wind.hi
  · simp (disch := first | assumption | omega | (simp only [az]; done)) only [ru, eq_self, if_true, if_false, BEq.rfl, binI, AO.row?, splice, fillL, mmAll, loadV, storeV, zeros, Am.rowAt, Am.part, addOff, Nat.reduceAdd, Nat.reduceMul, Nat.reduceLeDiff, Nat.reduceSub, Nat.reduceLT, Int.reduceEq, Int.reduceLT, Int.reduceLE, Int.reduceGT, Int.reduceGE, Int.reduceAdd, Int.reduceSub, Int.reduceMul, Int.reduceNeg, Int.reduceToNat, reduceCtorEq, reduceIte]
    simp [truthOk, h1]
  simp (disch := first | assumption | omega | (simp only [az]; done)) only [ru, eq_self, if_true, if_false, BEq.rfl, binI, AO.row?, splice, fillL, mmAll, loadV, storeV, zeros, Am.rowAt, Am.part, addOff, Nat.reduceAdd, Nat.reduceMul, Nat.reduceLeDiff, Nat.reduceSub, Nat.reduceLT, Int.reduceEq, Int.reduceLT, Int.reduceLE, Int.reduceGT, Int.reduceGE, Int.reduceAdd, Int.reduceSub, Int.reduceMul, Int.reduceNeg, Int.reduceToNat, reduceCtorEq, reduceIte, lenV_sl H.g, lenV_sl H.a, lenV_sl H.w, elem_sl Spn.el H.g, elem_sl Anc.el H.a, elem_sl Wal.el H.w, view_sl H.g, view_sl H.a, view_sl H.w, scalar_sl H.g, scalar_sl H.a, scalar_sl H.w, cells_sl H.g, cells_sl H.a, cells_sl H.w, pure_sl H.g, pure_sl H.a, pure_sl H.w, Spn.e, Anc.e, Wal.e, Spn.eta, Anc.eta, Wal.eta, Int.toNat_natCast, lenV_sl V.s, elem_sl intE V.s, view_sl V.s, scalar_sl V.s, cells_sl V.s, pure_sl V.s, s67]
  cases h2 : inR t.cur n.cur.lo n.cur.hi
  · simp (disch := first | assumption | omega | (simp only [az]; done)) only [ru, eq_self, if_true, if_false, BEq.rfl, binI, AO.row?, splice, fillL, mmAll, loadV, storeV, zeros, Am.rowAt, Am.part, addOff, Nat.reduceAdd, Nat.reduceMul, Nat.reduceLeDiff, Nat.reduceSub, Nat.reduceLT, Int.reduceEq, Int.reduceLT, Int.reduceLE, Int.reduceGT, Int.reduceGE, Int.reduceAdd, Int.reduceSub, Int.reduceMul, Int.reduceNeg, Int.reduceToNat, reduceCtorEq, reduceIte]
    simp [truthOk, h1, h2]
  simp (disch := first | assumption | omega | (simp only [az]; done)) only [ru, eq_self, if_true, if_false, BEq.rfl, binI, AO.row?, splice, fillL, mmAll, loadV, storeV, zeros, Am.rowAt, Am.part, addOff, Nat.reduceAdd, Nat.reduceMul, Nat.reduceLeDiff, Nat.reduceSub, Nat.reduceLT, Int.reduceEq, Int.reduceLT, Int.reduceLE, Int.reduceGT, Int.reduceGE, Int.reduceAdd, Int.reduceSub, Int.reduceMul, Int.reduceNeg, Int.reduceToNat, reduceCtorEq, reduceIte, lenV_sl H.g, lenV_sl H.a, lenV_sl H.w, elem_sl Spn.el H.g, elem_sl Anc.el H.a, elem_sl Wal.el H.w, view_sl H.g, view_sl H.a, view_sl H.w, scalar_sl H.g, scalar_sl H.a, scalar_sl H.w, cells_sl H.g, cells_sl H.a, cells_sl H.w, pure_sl H.g, pure_sl H.a, pure_sl H.w, Spn.e, Anc.e, Wal.e, Spn.eta, Anc.eta, Wal.eta, Int.toNat_natCast, lenV_sl V.s, elem_sl intE V.s, view_sl V.s, scalar_sl V.s, cells_sl V.s, pure_sl V.s, s67]
  by_cases h3 : (t.grips.length : Int) = n.grips.length
  case neg =>
    simp (disch := first | assumption | omega | (simp only [az]; done)) only [ru, eq_self, if_true, if_false, BEq.rfl, binI, AO.row?, splice, fillL, mmAll, loadV, storeV, zeros, Am.rowAt, Am.part, addOff, Nat.reduceAdd, Nat.reduceMul, Nat.reduceLeDiff, Nat.reduceSub, Nat.reduceLT, Int.reduceEq, Int.reduceLT, Int.reduceLE, Int.reduceGT, Int.reduceGE, Int.reduceAdd, Int.reduceSub, Int.reduceMul, Int.reduceNeg, Int.reduceToNat, reduceCtorEq, reduceIte, h3]
    have : ¬ t.grips.length = n.grips.length := by omega
    simp [truthOk, h1, h2, this]
  have h3' : t.grips.length = n.grips.length := by omega
  simp (disch := first | assumption | omega | (simp only [az]; done)) only [ru, eq_self, if_true, if_false, BEq.rfl, binI, AO.row?, splice, fillL, mmAll, loadV, storeV, zeros, Am.rowAt, Am.part, addOff, Nat.reduceAdd, Nat.reduceMul, Nat.reduceLeDiff, Nat.reduceSub, Nat.reduceLT, Int.reduceEq, Int.reduceLT, Int.reduceLE, Int.reduceGT, Int.reduceGE, Int.reduceAdd, Int.reduceSub, Int.reduceMul, Int.reduceNeg, Int.reduceToNat, reduceCtorEq, reduceIte, h3, lenV_sl H.g, lenV_sl H.a, lenV_sl H.w, elem_sl Spn.el H.g, elem_sl Anc.el H.a, elem_sl Wal.el H.w, view_sl H.g, view_sl H.a, view_sl H.w, scalar_sl H.g, scalar_sl H.a, scalar_sl H.w, cells_sl H.g, cells_sl H.a, cells_sl H.w, pure_sl H.g, pure_sl H.a, pure_sl H.w, Spn.e, Anc.e, Wal.e, Spn.eta, Anc.eta, Wal.eta, Int.toNat_natCast, lenV_sl V.s, elem_sl intE V.s, view_sl V.s, scalar_sl V.s, cells_sl V.s, pure_sl V.s]
  refine G_loop_ind (fun m ts h mk => ∃ i : Nat, i ≤ n.grips.length ∧ m = n.grips.length - i ∧ ((List.range i).all fun i => inR (t.grips.getD i default) (n.grips.getD i default).lo (n.grips.getD i default).hi) = true ∧ ts.length = 63 ∧
    ts.getD 2 .undef = .ptr 0 0 ∧ ts.getD 3 .undef = .ptr 1 0 ∧ ts.getD 5 .undef = I i ∧ h = [.cells [I n.wind.lo, I n.wind.hi, I n.cur.lo, I n.cur.hi, g, a, w] false, .cells [I t.wind, I t.cur, v] false] ∧ mk = []) ?_ _ _ _ _ ⟨0, Nat.zero_le _, rfl, rfl, rfl, rfl, rfl, rfl, rfl, rfl⟩
  rintro m ts h mk ih ⟨i, hi, rfl, hall, hl, q2, q3, q33, rfl, rfl⟩
  rw [lit_all hl]
  simp only [lit0, litS, Nat.reduceAdd, q2, q3, q33]
  simp (disch := first | assumption | omega | (simp only [az]; done)) only [ru, eq_self, if_true, if_false, BEq.rfl, binI, AO.row?, splice, fillL, mmAll, loadV, storeV, zeros, Am.rowAt, Am.part, addOff, Nat.reduceAdd, Nat.reduceMul, Nat.reduceLeDiff, Nat.reduceSub, Nat.reduceLT, Int.reduceEq, Int.reduceLT, Int.reduceLE, Int.reduceGT, Int.reduceGE, Int.reduceAdd, Int.reduceSub, Int.reduceMul, Int.reduceNeg, Int.reduceToNat, reduceCtorEq, reduceIte, lenV_sl V.s, elem_sl intE V.s, view_sl V.s, scalar_sl V.s, cells_sl V.s, pure_sl V.s]
  by_cases hlt : (i : Int) < n.grips.length
  case pos =>
    have hlt2 : (i : Int) < t.grips.length := by omega
    simp (disch := first | assumption | omega | (simp only [az]; done)) only [ru, eq_self, if_true, if_false, BEq.rfl, binI, AO.row?, splice, fillL, mmAll, loadV, storeV, zeros, Am.rowAt, Am.part, addOff, Nat.reduceAdd, Nat.reduceMul, Nat.reduceLeDiff, Nat.reduceSub, Nat.reduceLT, Int.reduceEq, Int.reduceLT, Int.reduceLE, Int.reduceGT, Int.reduceGE, Int.reduceAdd, Int.reduceSub, Int.reduceMul, Int.reduceNeg, Int.reduceToNat, reduceCtorEq, reduceIte, hlt, h3, lenV_sl H.g, lenV_sl H.a, lenV_sl H.w, elem_sl Spn.el H.g, elem_sl Anc.el H.a, elem_sl Wal.el H.w, view_sl H.g, view_sl H.a, view_sl H.w, scalar_sl H.g, scalar_sl H.a, scalar_sl H.w, cells_sl H.g, cells_sl H.a, cells_sl H.w, pure_sl H.g, pure_sl H.a, pure_sl H.w, Spn.e, Anc.e, Wal.e, Spn.eta, Anc.eta, Wal.eta, Int.toNat_natCast, lenV_sl V.s, elem_sl intE V.s, view_sl V.s, scalar_sl V.s, cells_sl V.s, pure_sl V.s, s67]
    cases hs : inR (t.grips.getD i default) (n.grips.getD i default).lo (n.grips.getD i default).hi
    · simp (disch := first | assumption | omega | (simp only [az]; done)) only [ru, eq_self, if_true, if_false, BEq.rfl, binI, AO.row?, splice, fillL, mmAll, loadV, storeV, zeros, Am.rowAt, Am.part, addOff, Nat.reduceAdd, Nat.reduceMul, Nat.reduceLeDiff, Nat.reduceSub, Nat.reduceLT, Int.reduceEq, Int.reduceLT, Int.reduceLE, Int.reduceGT, Int.reduceGE, Int.reduceAdd, Int.reduceSub, Int.reduceMul, Int.reduceNeg, Int.reduceToNat, reduceCtorEq, reduceIte]
      rw [truthOk, range_not (k := t.grips.length) (by omega) hs, Bool.and_false]
    · simp (disch := first | assumption | omega | (simp only [az]; done)) only [ru, eq_self, if_true, if_false, BEq.rfl, binI, AO.row?, splice, fillL, mmAll, loadV, storeV, zeros, Am.rowAt, Am.part, addOff, Nat.reduceAdd, Nat.reduceMul, Nat.reduceLeDiff, Nat.reduceSub, Nat.reduceLT, Int.reduceEq, Int.reduceLT, Int.reduceLE, Int.reduceGT, Int.reduceGE, Int.reduceAdd, Int.reduceSub, Int.reduceMul, Int.reduceNeg, Int.reduceToNat, reduceCtorEq, reduceIte]
      exact ih (n.grips.length - (i + 1)) _ _ _ (by omega) ⟨i + 1, by omega, rfl, range_all_succ hall hs, rfl, rfl, rfl, rfl, rfl, rfl⟩
  obtain rfl : i = n.grips.length := by omega
  simp (disch := first | assumption | omega | (simp only [az]; done)) only [ru, eq_self, if_true, if_false, BEq.rfl, binI, AO.row?, splice, fillL, mmAll, loadV, storeV, zeros, Am.rowAt, Am.part, addOff, Nat.reduceAdd, Nat.reduceMul, Nat.reduceLeDiff, Nat.reduceSub, Nat.reduceLT, Int.reduceEq, Int.reduceLT, Int.reduceLE, Int.reduceGT, Int.reduceGE, Int.reduceAdd, Int.reduceSub, Int.reduceMul, Int.reduceNeg, Int.reduceToNat, reduceCtorEq, reduceIte, hlt, h3]
  rw [truthOk, h1, h2, h3', hall]
  simp

/-- what is asked of a truth: the error -/
def givenE (n : Net) (t : Tru) : Int := if n.valid then (if truthOk n t then 0 else 1) else 20
def anyIs (l : List Int) (x : Int) : Bool := l.any fun y => decide (y = x)
/-! a valid net in a truth of its own -/
structure Fair (n : Net) (t : Tru) : Prop where
  v : n.valid = true
  b : (0 ≤ t.wind ∧ t.wind ≤ 20) ∧ (0 ≤ t.cur ∧ t.cur ≤ 20) ∧ t.grips.length = n.grips.length ∧ ∀ i, i < t.grips.length → 0 ≤ t.grips.getD i default ∧ t.grips.getD i default ≤ 9
structure Good (n : Net) (t : Tru) : Prop extends Fair n t where
  tr : truthOk n t = true
instance {n : Net} {t : Tru} : Coe (Good n t) (Fair n t) := ⟨fun G => G.toFair⟩

theorem good_of {n : Net} {t : Tru} (hv : n.valid = true) (ht : truthOk n t = true) : Good n t := by
  have b : (0 ≤ t.wind ∧ t.wind ≤ 20) ∧ (0 ≤ t.cur ∧ t.cur ≤ 20) ∧ t.grips.length = n.grips.length ∧ ∀ i, i < t.grips.length → 0 ≤ t.grips.getD i default ∧ t.grips.getD i default ≤ 9 := by
    have B := netB hv
    have h := ht
    simp only [truthOk, Bool.and_eq_true, inR_iff, decide_eq_true_eq, List.all_eq_true, List.mem_range] at h
    obtain ⟨⟨⟨⟨a0, a1⟩, b0, b1⟩, c⟩, d⟩ := h
    have w0 := B.w0; have w2 := B.w2; have c0 := B.c0; have c2 := B.c2
    refine ⟨⟨by omega, by omega⟩, ⟨by omega, by omega⟩, c, fun i hi => ?_⟩
    have h1 := d i hi
    have h2 := B.g _ (getD_mem (l := n.grips) (i := i) (by omega))
    omega
  exact { v := hv, b := b, tr := ht }
theorem good_tru {n : Net} {t : Tru} (G : Fair n t) : (0 ≤ t.wind ∧ t.wind ≤ 20) ∧ (0 ≤ t.cur ∧ t.cur ≤ 20) ∧ t.grips.length = n.grips.length ∧ ∀ i, i < t.grips.length → 0 ≤ t.grips.getD i default ∧ t.grips.getD i default ≤ 9 := G.b
theorem good_wall {n : Net} {t : Tru} (G : Fair n t) {i : Nat} (hi : i < n.walls.length) :
    (0 ≤ (n.walls.getD i default).sail * t.wind ∧ (n.walls.getD i default).sail * t.wind ≤ 9 * 20) ∧ (0 ≤ (n.walls.getD i default).drag * t.cur ∧ (n.walls.getD i default).drag * t.cur ≤ 9 * 20) := by
  have b := (netB G.v).w _ (getD_mem (l := n.walls) hi)
  obtain ⟨h1, h2, _⟩ := good_tru G
  exact ⟨mul_bd b.a0 b.a1 h1.1 h1.2, mul_bd b.b0 b.b1 h2.1 h2.2⟩
theorem good_ld {n : Net} {t : Tru} (G : Fair n t) {i : Nat} (hi : i < n.walls.length) : 0 ≤ ldI n t i ∧ ldI n t i ≤ 360 := by
  have := good_wall G hi
  unfold ldI; omega
theorem good_pos {n : Net} {t : Tru} (G : Fair n t) : Pos n t := fun i hi => (good_ld G hi).1
theorem good_anc {n : Net} {t : Tru} (G : Fair n t) {i : Nat} (hi : i < n.ancs.length) :
    0 ≤ (n.ancs.getD i default).w ∧ (n.ancs.getD i default).w ≤ 20 ∧ 0 ≤ (n.ancs.getD i default).b ∧ (n.ancs.getD i default).b < t.grips.length ∧
      0 ≤ 2 * (n.ancs.getD i default).w * t.grips.getD (n.ancs.getD i default).b.toNat default ∧ 2 * (n.ancs.getD i default).w * t.grips.getD (n.ancs.getD i default).b.toNat default ≤ 40 * 9 := by
  have b := (netB G.v).a _ (getD_mem (l := n.ancs) hi)
  obtain ⟨_, _, h3, h4⟩ := good_tru G
  have g := h4 (n.ancs.getD i default).b.toNat (by omega)
  have := mul_bd (a := 2 * (n.ancs.getD i default).w) (m := 40) (by omega) (by omega) g.1 g.2
  exact ⟨b.1, b.2.1, b.2.2.1, by omega, this.1, this.2⟩

end Go.Proofs.Ytmldjpeiokciiaa.A

namespace Go.Proofs.Ytmldjpeiokciiaa.A
open Go Go.Am Go.Proofs.Ytmldjpeiokciiaa.T
set_option maxRecDepth 100000
set_option linter.unusedSimpArgs false
set_option linter.unusedVariables false



/-- a list of numbers, as it is handed back -/
def resL (l : List Int) : AV := if l = [] then .nils else .cs 1 l.length (l.flatMap fun n => [I n])
theorem resL_is (l : List Int) : IsSl 1 (fun n => [I n]) l (resL l) := by
  unfold resL; split
  · rename_i h; exact .inr ⟨rfl, h⟩
  · exact .inl rfl

/-- a list that is being made, in the heap behind the first objects -/
def OutSl (b : Nat) (h : List AO) (v : AV) (l : List Int) : Prop := (l = [] ∧ v = .nils) ∨ (l ≠ [] ∧ ∃ o, b ≤ o ∧ v = .ms 1 o 0 l.length ∧ h[o]? = some (.cells (l.flatMap fun n => [I n]) false))

theorem flat1 (l : List Int) : (l.flatMap fun n => [I n]).length = l.length := by
  have := flat_len (enc := fun n : Int => [I n]) (esz := 1) (fun _ => rfl) l
  omega
theorem out_app {pre J : List AO} {v : AV} {l : List Int} {lim : Nat} (H : OutSl pre.length (pre ++ J) v l) (hlim : lim ≤ pre.length) (hl : l.length ≤ 1000000) (i : Int) :
    ∃ v' J', appV lim (pre ++ J) 1 8 v (.cs 1 1 [I i]) = some (v', pre ++ J') ∧ OutSl pre.length (pre ++ J') v' (l ++ [i]) := by
  rcases H with ⟨rfl, rfl⟩ | ⟨hne, o, ho, rfl, hc⟩
  · refine ⟨_, J ++ [AO.cells [I i] false], ?_, .inr ⟨by simp, (pre ++ J).length, by simp, rfl, ?_⟩⟩
    · rw [appV_nil (n := 1) (xs := [I i]) rfl rfl rfl rfl (by omega) (by omega), if_neg (by omega)]
      simp
    · simp only [← List.append_assoc]
      exact atE
  · have ho' : o < (pre ++ J).length := (List.getElem?_eq_some_iff.1 hc).1
    refine ⟨_, J.set (o - pre.length) .tomb ++ [AO.cells ((l ++ [i]).flatMap fun n => [I n]) false], ?_, .inr ⟨by simp, (pre ++ J).length, by simp, rfl, ?_⟩⟩
    · rw [appV_ms (n := 1) (xs := [I i]) (c := l.flatMap fun n => [I n]) (sh := false) hc (by rw [flat1]; omega) rfl rfl rfl rfl (by omega) (by omega) (by omega), if_neg (by omega)]
      rw [List.set_append_right _ _ ho]
      simp
    · have e : (pre ++ J).length = (pre ++ J.set (o - pre.length) .tomb).length := by simp
      rw [e, ← List.append_assoc]
      exact atE

theorem out_view {b : Nat} {h : List AO} {v : AV} {l : List Int} (H : OutSl b h v l) {st : Bool} : view st h 8 v = some (resL l) := by
  rcases H with ⟨rfl, rfl⟩ | ⟨hne, o, ho, rfl, hc⟩
  · rfl
  · have e : (l.flatMap fun n => [I n]).take (l.length * 1) = l.flatMap fun n => [I n] := List.take_of_length_le (by rw [flat1]; omega)
    rw [Nat.mul_one] at e
    simp only [view_ms, rowOf_ms, Am.rowAt, hc, Option.bind_some, AO.row?, List.drop_zero, Nat.mul_one, e, flat1, if_true, resL, hne, if_false]
    rw [flat_view (enc := fun n : Int => [I n]) (fun a x hx => ⟨_, _, by simpa using hx⟩)]
    rfl
/-- the first i of the numbers that are such -/
def upto (p : Nat → Bool) (i : Nat) : List Int := ((List.range i).filter p).map fun (i : Nat) => (i : Int)
theorem upto_yes {p : Nat → Bool} {i : Nat} (h : p i = true) : upto p (i + 1) = upto p i ++ [(i : Int)] := by
  simp [upto, List.range_succ, List.filter_append, h]
theorem upto_no {p : Nat → Bool} {i : Nat} (h : p i = false) : upto p (i + 1) = upto p i := by
  simp [upto, List.range_succ, List.filter_append, h]
theorem upto_len {p : Nat → Bool} {i : Nat} : (upto p i).length ≤ i := by
  simp only [upto, List.length_map]; exact Nat.le_trans (List.length_filter_le _ _) (by simp)

end Go.Proofs.Ytmldjpeiokciiaa.A

namespace Go.Proofs.Ytmldjpeiokciiaa.A
open Go Go.Am Go.Proofs.Ytmldjpeiokciiaa.T
set_option maxRecDepth 100000
set_option linter.unusedSimpArgs false
set_option linter.unusedVariables false



/-- the least closed set above a set -/
noncomputable def lfp (n : Net) (t : Tru) (S : Nat → Bool) : Nat → Bool := open Classical in if h : ∃ A, IsLfp n t S A then h.choose else S
theorem lfp_is {n : Net} {t : Tru} {S A : Nat → Bool} (h : IsLfp n t S A) : IsLfp n t S (lfp n t S) := by
  have hx : ∃ A, IsLfp n t S A := ⟨A, h⟩
  unfold lfp
  rw [dif_pos hx]
  exact hx.choose_spec
def none6 : Nat → Bool := fun _ => false
/-- answers: a list and an error -/
def errL (e : Int) (l : List Int) : List Int := if e = 0 then l else []
theorem resL_nil : resL [] = .nils := rfl
def ansL (n : Net) (t : Tru) (D : Nat → Bool) : AV := .tup [resL (errL (givenE n t) (lst n D)), I (givenE n t)]
theorem given_cases (n : Net) (t : Tru) : (givenE n t = 0 ∧ Good n t) ∨ (¬ givenE n t = 0 ∧ (givenE n t = 1 ∨ givenE n t = 20)) := by
  unfold givenE
  by_cases h1 : n.valid = true <;> by_cases h2 : truthOk n t = true
  · exact .inl ⟨by simp [h1, h2], good_of h1 h2⟩
  all_goals (right; simp [h1, h2])

end Go.Proofs.Ytmldjpeiokciiaa.A

namespace Go.Proofs.Ytmldjpeiokciiaa.A
open Go Go.Am Go.Proofs.Ytmldjpeiokciiaa.T
set_option maxRecDepth 100000
set_option linter.unusedSimpArgs false
set_option linter.unusedVariables false



theorem view_bv {st : Bool} {h : List AO} {k : Nat} {b : List Bool} : (b.map Bo).mapM (view st h k) = some (b.map Bo) := mapM_view fun x hx => by
  obtain ⟨y, _, rfl⟩ := List.mem_map.1 hx
  exact view_bool
theorem takeB {b : List Bool} (hb : b.length = 6) : (b.map Bo).take 6 = b.map Bo := List.take_of_length_le (by simp [hb])
theorem lenB {b : List Bool} (hb : b.length = 6) : (b.map Bo).length = 6 := by simp [hb]
theorem headB {b : List Bool} {i : Nat} (hi : i < b.length) : ((b.map Bo).drop i).head? = some (Bo (gb b i)) := by
  rw [List.head?_drop, List.getElem?_map, List.getElem?_eq_getElem hi]
  simp [gb, hi]
theorem setB {b : List Bool} {i : Nat} {x : Bool} (hi : i < b.length) : (b.map Bo).take i ++ [Bo x] ++ (b.map Bo).drop (i + 1) = (b.set i x).map Bo := by
  rw [List.map_set]
  apply List.ext_getElem?
  intro j
  rw [List.getElem?_set, List.append_assoc]
  by_cases h1 : j < i
  · rw [List.getElem?_append_left (by simp; omega), List.getElem?_take, if_pos h1, if_neg (by omega)]
  · rw [List.getElem?_append_right (by simp; omega)]
    have e : (List.take i (List.map Bo b)).length = i := by simp; omega
    rw [e]
    by_cases h2 : j = i
    · subst h2; simp [hi]
    · rw [if_neg (by omega)]
      obtain ⟨k, rfl⟩ : ∃ k, j = i + 1 + k := ⟨j - (i + 1), by omega⟩
      rw [show i + 1 + k - i = k + 1 by omega, List.singleton_append, List.getElem?_cons_succ, List.getElem?_drop]
theorem scalB {b : List Bool} : (b.map Bo).all AV.scalar = true := by
  rw [List.all_eq_true]; intro x hx; obtain ⟨y, _, rfl⟩ := List.mem_map.1 hx; rfl

theorem s121 {n : Net} {g a w : AV} (H : NetOk n g a w) {t : Tru} {v : AV} (V : TruOk t v) (G : Fair n t) {b : List Bool} (hb : b.length = 6) (x o s : Int) (ho : inR x 0 (n.walls.length - 1) = true → 0 ≤ o ∧ o < 6) (hs0 : 0 ≤ s) (hs1 : s ≤ 1000) :
    R E (.fn 82) [I x, I o, .ptr 0 0, .ptr 2 0, .ptr 1 0] [.cells [I n.wind.lo, I n.wind.hi, I n.cur.lo, I n.cur.hi, g, a, w, I t.wind, I t.cur, v] false, .cells (b.map Bo) false, .cells [I s] false] 0 =
      some (.tup [], [.cells [I n.wind.lo, I n.wind.hi, I n.cur.lo, I n.cur.hi, g, a, w, I t.wind, I t.cur, v] false, .cells (b.map Bo) false, .cells [I (if inR x 0 (n.walls.length - 1) then s + twice (gb b o.toNat) (ldI n t x.toNat) else s)] false]) := by
  have sw := H.sw
  obtain ⟨r, h', h1, h2, h3⟩ := R_of (f := 82) (fn := f82) (vs := [I x, I o, .ptr 0 0, .ptr 2 0, .ptr 1 0]) (h := [.cells [I n.wind.lo, I n.wind.hi, I n.cur.lo, I n.cur.hi, g, a, w, I t.wind, I t.cur, v] false, .cells (b.map Bo) false, .cells [I s] false]) (lim := 0)
    (fun r h' => r = AV.tup [] ∧ h' = [.cells [I n.wind.lo, I n.wind.hi, I n.cur.lo, I n.cur.hi, g, a, w, I t.wind, I t.cur, v] false, .cells (b.map Bo) false, .cells [I (if inR x 0 (n.walls.length - 1) then s + twice (gb b o.toNat) (ldI n t x.toNat) else s)] false]) (es _ _ _ _) e82 (by
    simp only [f82]
    cases hx : inR x 0 (n.walls.length - 1)
    · simp (disch := first | assumption | omega | (simp only [az]; done)) only [ru, eq_self, if_true, if_false, BEq.rfl, binI, AO.row?, splice, fillL, mmAll, loadV, storeV, zeros, Am.rowAt, Am.part, addOff, Nat.reduceAdd, Nat.reduceMul, Nat.reduceLeDiff, Nat.reduceSub, Nat.reduceLT, Int.reduceEq, Int.reduceLT, Int.reduceLE, Int.reduceGT, Int.reduceGE, Int.reduceAdd, Int.reduceSub, Int.reduceMul, Int.reduceNeg, Int.reduceToNat, reduceCtorEq, reduceIte, s69 H, lenV_sl H.g, lenV_sl H.a, lenV_sl H.w, elem_sl Spn.el H.g, elem_sl Anc.el H.a, elem_sl Wal.el H.w, view_sl H.g, view_sl H.a, view_sl H.w, scalar_sl H.g, scalar_sl H.a, scalar_sl H.w, cells_sl H.g, cells_sl H.a, cells_sl H.w, pure_sl H.g, pure_sl H.a, pure_sl H.w, Spn.e, Anc.e, Wal.e, Spn.eta, Anc.eta, Wal.eta, Int.toNat_natCast, lenV_sl V.s, elem_sl intE V.s, view_sl V.s, scalar_sl V.s, cells_sl V.s, pure_sl V.s, hx]
    · obtain ⟨ho0, ho1⟩ := ho hx
      have hx' := inR_iff.1 hx
      have x0 : 0 ≤ x := hx'.1
      have x1 : x < n.walls.length := by omega
      obtain ⟨m1, m2⟩ := good_wall G (i := x.toNat) (by omega)
      have hz := fun st => s71' (n.walls.getD x.toNat default) t.wind t.cur st m1 m2
      have hh := headB (b := b) (i := o.toNat) (by omega)
      have o2 : o.toNat < 6 := by omega
      simp (disch := first | assumption | omega | (simp only [az]; done)) only [ru, eq_self, if_true, if_false, BEq.rfl, binI, AO.row?, splice, fillL, mmAll, loadV, storeV, zeros, Am.rowAt, Am.part, addOff, Nat.reduceAdd, Nat.reduceMul, Nat.reduceLeDiff, Nat.reduceSub, Nat.reduceLT, Int.reduceEq, Int.reduceLT, Int.reduceLE, Int.reduceGT, Int.reduceGE, Int.reduceAdd, Int.reduceSub, Int.reduceMul, Int.reduceNeg, Int.reduceToNat, reduceCtorEq, reduceIte, s69 H, lenV_sl H.g, lenV_sl H.a, lenV_sl H.w, elem_sl Spn.el H.g, elem_sl Anc.el H.a, elem_sl Wal.el H.w, view_sl H.g, view_sl H.a, view_sl H.w, scalar_sl H.g, scalar_sl H.a, scalar_sl H.w, cells_sl H.g, cells_sl H.a, cells_sl H.w, pure_sl H.g, pure_sl H.a, pure_sl H.w, Spn.e, Anc.e, Wal.e, Spn.eta, Anc.eta, Wal.eta, Int.toNat_natCast, lenV_sl V.s, elem_sl intE V.s, view_sl V.s, scalar_sl V.s, cells_sl V.s, pure_sl V.s, hx, hz, ho0, ho1, hh, lenB hb, Nat.mul_one]
      cases hd : gb b o.toNat
      all_goals
        simp (disch := first | assumption | omega | (simp only [az]; done)) only [ru, eq_self, if_true, if_false, BEq.rfl, binI, AO.row?, splice, fillL, mmAll, loadV, storeV, zeros, Am.rowAt, Am.part, addOff, Nat.reduceAdd, Nat.reduceMul, Nat.reduceLeDiff, Nat.reduceSub, Nat.reduceLT, Int.reduceEq, Int.reduceLT, Int.reduceLE, Int.reduceGT, Int.reduceGE, Int.reduceAdd, Int.reduceSub, Int.reduceMul, Int.reduceNeg, Int.reduceToNat, reduceCtorEq, reduceIte, twice, ldI]
      all_goals simp only [Int.add_assoc])
  rw [h1, h2, h3]

theorem s119 {n : Net} {g a w : AV} (H : NetOk n g a w) {t : Tru} {v : AV} (V : TruOk t v) (G : Fair n t) {b : List Bool} (hb : b.length = 6) {i : Nat} (hi : i < n.ancs.length) (st : Bool) :
    Iso E 73 [.agg [I n.wind.lo, I n.wind.hi, I n.cur.lo, I n.cur.hi, g, a, w, I t.wind, I t.cur, v], I i, .agg (b.map Bo)] st = some (I (bearsI n t i (gb b))) := by
  have B := netB G.v
  have la := B.la; have lw := B.lw
  have c1 := s121 H V G hb ((i : Int) - 1) ((i : Int) - 1) 0 (fun h => by rw [inR_iff] at h; omega) (by omega) (by omega)
  obtain ⟨s1, hs1⟩ : ∃ s1, s1 = (if inR ((i : Int) - 1) 0 (n.walls.length - 1) then 0 + twice (gb b ((i : Int) - 1).toNat) (ldI n t ((i : Int) - 1).toNat) else 0) := ⟨_, rfl⟩
  rw [← hs1] at c1
  have q1 : s1 = (if 0 < i then twice (gb b (i - 1)) (ldI n t (i - 1)) else 0) := by
    rw [hs1]
    have e : ((i : Int) - 1).toNat = i - 1 := by omega
    by_cases h : 0 < i
    · have : inR ((i : Int) - 1) 0 (n.walls.length - 1) = true := inR_iff.2 (by omega)
      rw [if_pos this, if_pos h, e, Int.zero_add]
    · have : ¬ inR ((i : Int) - 1) 0 (n.walls.length - 1) = true := fun hh => by rw [inR_iff] at hh; omega
      rw [if_neg this, if_neg h]
  have tw : ∀ (k : Nat) (d : Bool), k < n.walls.length → 0 ≤ twice d (ldI n t k) ∧ twice d (ldI n t k) ≤ 720 := fun k d hk => by
    have := good_ld G hk
    unfold twice; split <;> omega
  have b1 : 0 ≤ s1 ∧ s1 ≤ 720 := by
    rw [q1]; split
    · exact tw _ _ (by omega)
    · omega
  have c2 := s121 H V G hb (i : Int) ((i : Int) + 1) s1 (fun h => by rw [inR_iff] at h; omega) b1.1 (by omega)
  obtain ⟨s2, hs2⟩ : ∃ s2, s2 = (if inR (i : Int) 0 (n.walls.length - 1) then s1 + twice (gb b ((i : Int) + 1).toNat) (ldI n t (i : Int).toNat) else s1) := ⟨_, rfl⟩
  rw [← hs2] at c2
  have q2 : s2 = bearsI n t i (gb b) := by
    rw [hs2, bearsI, q1]
    have e : ((i : Int) + 1).toNat = i + 1 := by omega
    by_cases h : i + 1 < n.ancs.length
    · have : inR (i : Int) 0 (n.walls.length - 1) = true := inR_iff.2 (by omega)
      rw [if_pos this, if_pos h, e, Int.toNat_natCast]
    · have : ¬ inR (i : Int) 0 (n.walls.length - 1) = true := fun hh => by rw [inR_iff] at hh; omega
      rw [if_neg this, if_neg h, Int.add_zero]
  rw [← q2]
  refine Iso_of (es _ _ _ _) e73 ?_
  simp only [f73]
  simp (disch := first | assumption | omega | (simp only [az]; done)) only [ru, eq_self, if_true, if_false, BEq.rfl, binI, AO.row?, splice, fillL, mmAll, loadV, storeV, zeros, Am.rowAt, Am.part, addOff, Nat.reduceAdd, Nat.reduceMul, Nat.reduceLeDiff, Nat.reduceSub, Nat.reduceLT, Int.reduceEq, Int.reduceLT, Int.reduceLE, Int.reduceGT, Int.reduceGE, Int.reduceAdd, Int.reduceSub, Int.reduceMul, Int.reduceNeg, Int.reduceToNat, reduceCtorEq, reduceIte, c1, c2]

theorem s94 {n : Net} {g a w : AV} (H : NetOk n g a w) {t : Tru} {v : AV} (V : TruOk t v) (G : Fair n t) {b : List Bool} (hb : b.length = 6) {i : Nat} (hi : i < n.ancs.length) (st : Bool) :
    Iso E 53 [.agg [I n.wind.lo, I n.wind.hi, I n.cur.lo, I n.cur.hi, g, a, w, I t.wind, I t.cur, v], I i, .agg (b.map Bo)] st = some (I (canI n t i - bearsI n t i (gb b))) := by
  have B := netB G.v
  have la := B.la; have lw := B.lw
  have hi' : (i : Int) < n.ancs.length := by omega
  obtain ⟨w0, w1, b0, b1, m0, m1⟩ := good_anc G hi
  have tw : ∀ (k : Nat) (d : Bool), k < n.walls.length → 0 ≤ twice d (ldI n t k) ∧ twice d (ldI n t k) ≤ 720 := fun k d hk => by
    have := good_ld G hk
    unfold twice; split <;> omega
  have bb : 0 ≤ bearsI n t i (gb b) ∧ bearsI n t i (gb b) ≤ 1440 := by
    unfold bearsI
    have h1 := tw (i - 1) (gb b (i - 1))
    have h2 := tw i (gb b (i + 1))
    split <;> split <;> omega
  obtain ⟨bb0, bb1⟩ := bb
  refine Iso_of (es _ _ _ _) e53 ?_
  simp only [f53]
  simp (disch := first | assumption | omega | (simp only [az]; done)) only [ru, eq_self, if_true, if_false, BEq.rfl, binI, AO.row?, splice, fillL, mmAll, loadV, storeV, zeros, Am.rowAt, Am.part, addOff, Nat.reduceAdd, Nat.reduceMul, Nat.reduceLeDiff, Nat.reduceSub, Nat.reduceLT, Int.reduceEq, Int.reduceLT, Int.reduceLE, Int.reduceGT, Int.reduceGE, Int.reduceAdd, Int.reduceSub, Int.reduceMul, Int.reduceNeg, Int.reduceToNat, reduceCtorEq, reduceIte, lenV_sl H.g, lenV_sl H.a, lenV_sl H.w, elem_sl Spn.el H.g, elem_sl Anc.el H.a, elem_sl Wal.el H.w, view_sl H.g, view_sl H.a, view_sl H.w, scalar_sl H.g, scalar_sl H.a, scalar_sl H.w, cells_sl H.g, cells_sl H.a, cells_sl H.w, pure_sl H.g, pure_sl H.a, pure_sl H.w, Spn.e, Anc.e, Wal.e, Spn.eta, Anc.eta, Wal.eta, Int.toNat_natCast, lenV_sl V.s, elem_sl intE V.s, view_sl V.s, scalar_sl V.s, cells_sl V.s, pure_sl V.s, view_bv, takeB hb, lenB hb, Nat.mul_one, hi', s119 H V G hb hi]
  simp only [canI]
end Go.Proofs.Ytmldjpeiokciiaa.A

namespace Go.Proofs.Ytmldjpeiokciiaa.A
open Go Go.Am Go.Proofs.Ytmldjpeiokciiaa.T
set_option maxRecDepth 100000
set_option linter.unusedSimpArgs false
set_option linter.unusedVariables false



theorem s81 {b : List Bool} (hb : b.length = 6) (st : Bool) : Iso E 39 [.agg (b.map Bo)] st = some (resL (upto (gb b) 6)) := by
  refine Iso_of (es _ _ _ _) e39 ?_
  simp only [f39]
  simp (disch := first | assumption | omega | (simp only [az]; done)) only [ru, eq_self, if_true, if_false, BEq.rfl, binI, AO.row?, splice, fillL, mmAll, loadV, storeV, zeros, Am.rowAt, Am.part, addOff, Nat.reduceAdd, Nat.reduceMul, Nat.reduceLeDiff, Nat.reduceSub, Nat.reduceLT, Int.reduceEq, Int.reduceLT, Int.reduceLE, Int.reduceGT, Int.reduceGE, Int.reduceAdd, Int.reduceSub, Int.reduceMul, Int.reduceNeg, Int.reduceToNat, reduceCtorEq, reduceIte, view_bv, takeB hb, lenB hb, Nat.mul_one]
  refine G_loop_ind (fun m ts h mk => ∃ (i : Nat) (J : List AO) (o : AV), i ≤ 6 ∧ m = 6 - i ∧ ts.length = 18 ∧ ts.getD 3 .undef = o ∧
    ts.getD 6 .undef = .agg (b.map Bo) ∧ ts.getD 7 .undef = I i ∧ OutSl 1 (.cells (b.map Bo) false :: J) o (upto (gb b) i) ∧ h = .cells (b.map Bo) false :: J ∧ mk = []) ?_ _ _ _ _
      ⟨0, [], .nils, Nat.zero_le _, rfl, rfl, rfl, rfl, rfl, .inl ⟨rfl, rfl⟩, rfl, rfl⟩
  rintro m ts h mk ih ⟨i, J, o, hi, rfl, hl, q3, q6, q7, ho, rfl, rfl⟩
  rw [lit_all hl]
  simp only [lit0, litS, Nat.reduceAdd, q3, q6, q7]
  simp (disch := first | assumption | omega | (simp only [az]; done)) only [ru, eq_self, if_true, if_false, BEq.rfl, binI, AO.row?, splice, fillL, mmAll, loadV, storeV, zeros, Am.rowAt, Am.part, addOff, Nat.reduceAdd, Nat.reduceMul, Nat.reduceLeDiff, Nat.reduceSub, Nat.reduceLT, Int.reduceEq, Int.reduceLT, Int.reduceLE, Int.reduceGT, Int.reduceGE, Int.reduceAdd, Int.reduceSub, Int.reduceMul, Int.reduceNeg, Int.reduceToNat, reduceCtorEq, reduceIte]
  by_cases hlt : (i : Int) < 6
  case pos =>
    have hh := headB (b := b) (i := i) (by omega)
    obtain ⟨v', J', ha, ho'⟩ := out_app (pre := [.cells (b.map Bo) false]) (J := J) (v := o) (l := upto (gb b) i) (lim := 0) ho (Nat.zero_le _) (by have := upto_len (p := gb b) (i := i); omega) (i : Int)
    simp only [apC, apN, lenS, len0, Nat.zero_add] at ha ho'
    have h0 : (0 : Int) ≤ i := by omega
    simp (disch := first | assumption | omega | (simp only [az]; done)) only [ru, eq_self, if_true, if_false, BEq.rfl, binI, AO.row?, splice, fillL, mmAll, loadV, storeV, zeros, Am.rowAt, Am.part, addOff, Nat.reduceAdd, Nat.reduceMul, Nat.reduceLeDiff, Nat.reduceSub, Nat.reduceLT, Int.reduceEq, Int.reduceLT, Int.reduceLE, Int.reduceGT, Int.reduceGE, Int.reduceAdd, Int.reduceSub, Int.reduceMul, Int.reduceNeg, Int.reduceToNat, reduceCtorEq, reduceIte, hlt, h0, Int.toNat_natCast, Nat.mul_one, hh]
    cases hd : gb b i
    · simp (disch := first | assumption | omega | (simp only [az]; done)) only [ru, eq_self, if_true, if_false, BEq.rfl, binI, AO.row?, splice, fillL, mmAll, loadV, storeV, zeros, Am.rowAt, Am.part, addOff, Nat.reduceAdd, Nat.reduceMul, Nat.reduceLeDiff, Nat.reduceSub, Nat.reduceLT, Int.reduceEq, Int.reduceLT, Int.reduceLE, Int.reduceGT, Int.reduceGE, Int.reduceAdd, Int.reduceSub, Int.reduceMul, Int.reduceNeg, Int.reduceToNat, reduceCtorEq, reduceIte]
      exact ih (6 - (i + 1)) _ _ _ (by omega) ⟨i + 1, J, o, by omega, rfl, rfl, rfl, rfl, rfl, by rw [upto_no hd]; exact ho, rfl, rfl⟩
    · simp (disch := first | assumption | omega | (simp only [az]; done)) only [ru, eq_self, if_true, if_false, BEq.rfl, binI, AO.row?, splice, fillL, mmAll, loadV, storeV, zeros, Am.rowAt, Am.part, addOff, Nat.reduceAdd, Nat.reduceMul, Nat.reduceLeDiff, Nat.reduceSub, Nat.reduceLT, Int.reduceEq, Int.reduceLT, Int.reduceLE, Int.reduceGT, Int.reduceGE, Int.reduceAdd, Int.reduceSub, Int.reduceMul, Int.reduceNeg, Int.reduceToNat, reduceCtorEq, reduceIte, ha]
      exact ih (6 - (i + 1)) _ _ _ (by omega) ⟨i + 1, J', v', by omega, rfl, rfl, rfl, rfl, rfl, by rw [upto_yes hd]; exact ho', rfl, rfl⟩
  obtain rfl : i = 6 := by omega
  simp (disch := first | assumption | omega | (simp only [az]; done)) only [ru, eq_self, if_true, if_false, BEq.rfl, binI, AO.row?, splice, fillL, mmAll, loadV, storeV, zeros, Am.rowAt, Am.part, addOff, Nat.reduceAdd, Nat.reduceMul, Nat.reduceLeDiff, Nat.reduceSub, Nat.reduceLT, Int.reduceEq, Int.reduceLT, Int.reduceLE, Int.reduceGT, Int.reduceGE, Int.reduceAdd, Int.reduceSub, Int.reduceMul, Int.reduceNeg, Int.reduceToNat, reduceCtorEq, reduceIte, hlt]
  exact out_view ho

theorem upto_ext {p : Nat → Bool} {k : Nat} : ∀ {m : Nat}, k ≤ m → (∀ i, k ≤ i → i < m → p i = false) → upto p m = upto p k
  | 0, h, _ => by rw [show k = 0 by omega]
  | m + 1, h, hp => by
    by_cases e : k = m + 1
    · rw [e]
    · rw [upto_no (hp m (by omega) (by omega)), upto_ext (by omega) (fun i h1 h2 => hp i h1 (by omega))]
theorem lst_upto {n : Net} {A : Nat → Bool} {b : List Bool} (hn : n.ancs.length ≤ 6) (h1 : ∀ i, i < n.ancs.length → A i = gb b i) (h2 : ∀ i, n.ancs.length ≤ i → gb b i = false) : upto (gb b) 6 = lst n A := by
  rw [upto_ext hn (fun i h _ => h2 i h), lst_congr h1]; rfl

def zeros6 : List Bool := [false, false, false, false, false, false]
theorem gb_zeros : gb zeros6 = none6 := by
  funext i
  match i with
  | 0 | 1 | 2 | 3 | 4 | 5 => rfl
  | _ + 6 => rfl

theorem spare_neg {n : Net} {t : Tru} {i : Nat} {D : Nat → Bool} : decide (canI n t i - bearsI n t i D < 0) = drg n t i D := by
  rw [drg, decide_eq_decide]; omega

theorem s84 {n : Net} {g a w : AV} (H : NetOk n g a w) {t : Tru} {v : AV} (V : TruOk t v) (G : Fair n t) {b : List Bool} (hb : b.length = 6) (st : Bool) : Iso E 38 [.agg [I n.wind.lo, I n.wind.hi, I n.cur.lo, I n.cur.hi, g, a, w, I t.wind, I t.cur, v], .agg (b.map Bo)] st = some (.agg ((rd n t b n.ancs.length).map Bo)) := by
  have la := (netB G.v).la
  refine Iso_of (es _ _ _ _) e38 ?_
  simp only [f38]
  simp (disch := first | assumption | omega | (simp only [az]; done)) only [ru, eq_self, if_true, if_false, BEq.rfl, binI, AO.row?, splice, fillL, mmAll, loadV, storeV, zeros, Am.rowAt, Am.part, addOff, Nat.reduceAdd, Nat.reduceMul, Nat.reduceLeDiff, Nat.reduceSub, Nat.reduceLT, Int.reduceEq, Int.reduceLT, Int.reduceLE, Int.reduceGT, Int.reduceGE, Int.reduceAdd, Int.reduceSub, Int.reduceMul, Int.reduceNeg, Int.reduceToNat, reduceCtorEq, reduceIte, lenV_sl H.g, lenV_sl H.a, lenV_sl H.w, elem_sl Spn.el H.g, elem_sl Anc.el H.a, elem_sl Wal.el H.w, view_sl H.g, view_sl H.a, view_sl H.w, scalar_sl H.g, scalar_sl H.a, scalar_sl H.w, cells_sl H.g, cells_sl H.a, cells_sl H.w, pure_sl H.g, pure_sl H.a, pure_sl H.w, Spn.e, Anc.e, Wal.e, Spn.eta, Anc.eta, Wal.eta, Int.toNat_natCast, lenV_sl V.s, elem_sl intE V.s, view_sl V.s, scalar_sl V.s, cells_sl V.s, pure_sl V.s, view_bv, takeB hb, lenB hb, Nat.mul_one]
  refine G_loop_ind (fun m ts h mk => ∃ k : Nat, k ≤ n.ancs.length ∧ m = n.ancs.length - k ∧ ts.length = 33 ∧ ts.getD 2 .undef = .ptr 0 0 ∧ ts.getD 3 .undef = .ptr 1 0 ∧ ts.getD 4 .undef = .ptr 2 0 ∧
    ts.getD 9 .undef = I n.ancs.length ∧ ts.getD 10 .undef = I k ∧ h = [.cells [I n.wind.lo, I n.wind.hi, I n.cur.lo, I n.cur.hi, g, a, w, I t.wind, I t.cur, v] false, .cells ((rd n t b k).map Bo) false, .cells (zeros6.map Bo) false] ∧ mk = []) ?_ _ _ _ _
      ⟨0, Nat.zero_le _, rfl, rfl, rfl, rfl, rfl, rfl, rfl, rfl, rfl⟩
  rintro m ts h mk ih ⟨k, hk, rfl, hl, q2, q3, q4, q9, q10, rfl, rfl⟩
  rw [lit_all hl]
  simp only [lit0, litS, Nat.reduceAdd, q2, q3, q4, q9, q10]
  simp (disch := first | assumption | omega | (simp only [az]; done)) only [ru, eq_self, if_true, if_false, BEq.rfl, binI, AO.row?, splice, fillL, mmAll, loadV, storeV, zeros, Am.rowAt, Am.part, addOff, Nat.reduceAdd, Nat.reduceMul, Nat.reduceLeDiff, Nat.reduceSub, Nat.reduceLT, Int.reduceEq, Int.reduceLT, Int.reduceLE, Int.reduceGT, Int.reduceGE, Int.reduceAdd, Int.reduceSub, Int.reduceMul, Int.reduceNeg, Int.reduceToNat, reduceCtorEq, reduceIte]
  have hr : (rd n t b k).length = 6 := by rw [rd_len, hb]
  by_cases hlt : (k : Int) < n.ancs.length
  case pos =>
    simp (disch := first | assumption | omega | (simp only [az]; done)) only [ru, eq_self, if_true, if_false, BEq.rfl, binI, AO.row?, splice, fillL, mmAll, loadV, storeV, zeros, Am.rowAt, Am.part, addOff, Nat.reduceAdd, Nat.reduceMul, Nat.reduceLeDiff, Nat.reduceSub, Nat.reduceLT, Int.reduceEq, Int.reduceLT, Int.reduceLE, Int.reduceGT, Int.reduceGE, Int.reduceAdd, Int.reduceSub, Int.reduceMul, Int.reduceNeg, Int.reduceToNat, reduceCtorEq, reduceIte, lenV_sl H.g, lenV_sl H.a, lenV_sl H.w, elem_sl Spn.el H.g, elem_sl Anc.el H.a, elem_sl Wal.el H.w, view_sl H.g, view_sl H.a, view_sl H.w, scalar_sl H.g, scalar_sl H.a, scalar_sl H.w, cells_sl H.g, cells_sl H.a, cells_sl H.w, pure_sl H.g, pure_sl H.a, pure_sl H.w, Spn.e, Anc.e, Wal.e, Spn.eta, Anc.eta, Wal.eta, Int.toNat_natCast, lenV_sl V.s, elem_sl intE V.s, view_sl V.s, scalar_sl V.s, cells_sl V.s, pure_sl V.s, hlt]
    refine G_loop_ind (fun m ts h mk => ∃ i : Nat, i ≤ n.ancs.length ∧ m = n.ancs.length - i ∧ ts.length = 33 ∧ ts.getD 2 .undef = .ptr 0 0 ∧ ts.getD 3 .undef = .ptr 1 0 ∧ ts.getD 4 .undef = .ptr 2 0 ∧
      ts.getD 9 .undef = I n.ancs.length ∧ ts.getD 10 .undef = I k ∧ ts.getD 15 .undef = I n.ancs.length ∧ ts.getD 16 .undef = I i ∧ h = [.cells [I n.wind.lo, I n.wind.hi, I n.cur.lo, I n.cur.hi, g, a, w, I t.wind, I t.cur, v] false, .cells ((sw n t (rd n t b k) i).map Bo) false, .cells (zeros6.map Bo) false] ∧ mk = []) ?_ _ _ _ _
        ⟨0, Nat.zero_le _, rfl, rfl, rfl, rfl, rfl, rfl, rfl, rfl, rfl, rfl, rfl⟩
    clear q2 q3 q4 q9 q10 hl
    rintro m ts h mk ih2 ⟨i, hi, rfl, hl, q2, q3, q4, q9, q10, q15, q16, rfl, rfl⟩
    rw [lit_all hl]
    simp only [lit0, litS, Nat.reduceAdd, q2, q3, q4, q9, q10, q15, q16]
    simp (disch := first | assumption | omega | (simp only [az]; done)) only [ru, eq_self, if_true, if_false, BEq.rfl, binI, AO.row?, splice, fillL, mmAll, loadV, storeV, zeros, Am.rowAt, Am.part, addOff, Nat.reduceAdd, Nat.reduceMul, Nat.reduceLeDiff, Nat.reduceSub, Nat.reduceLT, Int.reduceEq, Int.reduceLT, Int.reduceLE, Int.reduceGT, Int.reduceGE, Int.reduceAdd, Int.reduceSub, Int.reduceMul, Int.reduceNeg, Int.reduceToNat, reduceCtorEq, reduceIte]
    have hs : (sw n t (rd n t b k) i).length = 6 := by rw [sw_len, hr]
    by_cases hlt2 : (i : Int) < n.ancs.length
    case pos =>
      have hlt' : i < n.ancs.length := by omega
      have q := fun st => s94 H V G hs hlt' st
      have h6 : (i : Int) < 6 := by omega
      have h7 : i + 1 ≤ 6 := by omega
      have h0 : (0 : Int) ≤ i := by omega
      have hset := fun x => setB (b := sw n t (rd n t b k) i) (i := i) (x := x) (by omega)
      have hh := headB (b := sw n t (rd n t b k) i) (i := i) (by omega)
      simp (disch := first | assumption | omega | (simp only [az]; done)) only [ru, eq_self, if_true, if_false, BEq.rfl, binI, AO.row?, splice, fillL, mmAll, loadV, storeV, zeros, Am.rowAt, Am.part, addOff, Nat.reduceAdd, Nat.reduceMul, Nat.reduceLeDiff, Nat.reduceSub, Nat.reduceLT, Int.reduceEq, Int.reduceLT, Int.reduceLE, Int.reduceGT, Int.reduceGE, Int.reduceAdd, Int.reduceSub, Int.reduceMul, Int.reduceNeg, Int.reduceToNat, reduceCtorEq, reduceIte, hlt2, h0, h6, hh, Int.toNat_natCast, Nat.mul_one]
      cases hd : gb (sw n t (rd n t b k) i) i
      · simp (disch := first | assumption | omega | (simp only [az]; done)) only [ru, eq_self, if_true, if_false, BEq.rfl, binI, AO.row?, splice, fillL, mmAll, loadV, storeV, zeros, Am.rowAt, Am.part, addOff, Nat.reduceAdd, Nat.reduceMul, Nat.reduceLeDiff, Nat.reduceSub, Nat.reduceLT, Int.reduceEq, Int.reduceLT, Int.reduceLE, Int.reduceGT, Int.reduceGE, Int.reduceAdd, Int.reduceSub, Int.reduceMul, Int.reduceNeg, Int.reduceToNat, reduceCtorEq, reduceIte, lenV_sl H.g, lenV_sl H.a, lenV_sl H.w, elem_sl Spn.el H.g, elem_sl Anc.el H.a, elem_sl Wal.el H.w, view_sl H.g, view_sl H.a, view_sl H.w, scalar_sl H.g, scalar_sl H.a, scalar_sl H.w, cells_sl H.g, cells_sl H.a, cells_sl H.w, pure_sl H.g, pure_sl H.a, pure_sl H.w, Spn.e, Anc.e, Wal.e, Spn.eta, Anc.eta, Wal.eta, Int.toNat_natCast, lenV_sl V.s, elem_sl intE V.s, view_sl V.s, scalar_sl V.s, cells_sl V.s, pure_sl V.s, q, h0, h6, h7, view_bv, takeB hs, lenB hs, Nat.mul_one, Int.toNat_natCast, spare_neg, hset]
        exact ih2 (n.ancs.length - (i + 1)) _ _ _ (by omega) ⟨i + 1, by omega, rfl, rfl, rfl, rfl, rfl, rfl, rfl, rfl, rfl, by rw [sw, sw1, hd]; rfl, rfl⟩
      · simp (disch := first | assumption | omega | (simp only [az]; done)) only [ru, eq_self, if_true, if_false, BEq.rfl, binI, AO.row?, splice, fillL, mmAll, loadV, storeV, zeros, Am.rowAt, Am.part, addOff, Nat.reduceAdd, Nat.reduceMul, Nat.reduceLeDiff, Nat.reduceSub, Nat.reduceLT, Int.reduceEq, Int.reduceLT, Int.reduceLE, Int.reduceGT, Int.reduceGE, Int.reduceAdd, Int.reduceSub, Int.reduceMul, Int.reduceNeg, Int.reduceToNat, reduceCtorEq, reduceIte]
        exact ih2 (n.ancs.length - (i + 1)) _ _ _ (by omega) ⟨i + 1, by omega, rfl, rfl, rfl, rfl, rfl, rfl, rfl, rfl, rfl, by rw [sw, sw1, hd]; rfl, rfl⟩
    obtain rfl : i = n.ancs.length := by omega
    simp (disch := first | assumption | omega | (simp only [az]; done)) only [ru, eq_self, if_true, if_false, BEq.rfl, binI, AO.row?, splice, fillL, mmAll, loadV, storeV, zeros, Am.rowAt, Am.part, addOff, Nat.reduceAdd, Nat.reduceMul, Nat.reduceLeDiff, Nat.reduceSub, Nat.reduceLT, Int.reduceEq, Int.reduceLT, Int.reduceLE, Int.reduceGT, Int.reduceGE, Int.reduceAdd, Int.reduceSub, Int.reduceMul, Int.reduceNeg, Int.reduceToNat, reduceCtorEq, reduceIte, hlt2]
    exact ih (n.ancs.length - (k + 1)) _ _ _ (by omega) ⟨k + 1, by omega, rfl, rfl, rfl, rfl, rfl, rfl, rfl, rfl, rfl⟩
  obtain rfl : k = n.ancs.length := by omega
  have hz : (zeros6.map Bo).length = 6 := rfl
  have hd : (zeros6.map Bo).drop 6 = [] := rfl
  simp (disch := first | assumption | omega | (simp only [az]; done)) only [ru, eq_self, if_true, if_false, BEq.rfl, binI, AO.row?, splice, fillL, mmAll, loadV, storeV, zeros, Am.rowAt, Am.part, addOff, Nat.reduceAdd, Nat.reduceMul, Nat.reduceLeDiff, Nat.reduceSub, Nat.reduceLT, Int.reduceEq, Int.reduceLT, Int.reduceLE, Int.reduceGT, Int.reduceGE, Int.reduceAdd, Int.reduceSub, Int.reduceMul, Int.reduceNeg, Int.reduceToNat, reduceCtorEq, reduceIte, hlt, view_bv, takeB hr, lenB hr, hz, hd, scalB, finC, getRes, Option.some.injEq, exists_eq_left']
end Go.Proofs.Ytmldjpeiokciiaa.A

namespace Go.Proofs.Ytmldjpeiokciiaa.A
open Go Go.Am Go.Proofs.Ytmldjpeiokciiaa.T
set_option maxRecDepth 100000
set_option linter.unusedSimpArgs false
set_option linter.unusedVariables false



theorem given_fit {n : Net} {t : Tru} : (if n.valid then (if truthOk n t then (0 : Int) else 1) else 20) = givenE n t := rfl

theorem drags_lst {n : Net} {t : Tru} (G : Fair n t) {b : List Bool} (hb : b.length = 6) (ho : ∀ i, n.ancs.length ≤ i → gb b i = false) : upto (gb (rd n t b n.ancs.length)) 6 = lst n (lfp n t (gb b)) := by
  have B := netB G.v
  have la := B.la
  have h := rd_lfp (good_pos G) B.lw (b := b) (by omega)
  refine lst_upto la (fun i hi => lfp_unique (lfp_is h) h i hi) (fun i hi => ?_)
  rw [rd_out (by omega) i hi, ho i hi]

theorem s28 {n : Net} {g a w : AV} (H : NetOk n g a w) {t : Tru} {v : AV} (V : TruOk t v) : Iso E 22 [netV n g a w, .agg [I t.wind, I t.cur, v]] false = some (ansL n t (lfp n t none6)) := by
  refine Iso_of (es _ _ _ _) e22 ?_
  simp only [f22, netV]
  rcases given_cases n t with ⟨h0, G⟩ | ⟨h0, _⟩
  · have q := fun st => s81 (b := rd n t zeros6 n.ancs.length) (by rw [rd_len]; rfl) st
    rw [drags_lst G (b := zeros6) rfl (fun i _ => by rw [gb_zeros]; rfl), gb_zeros] at q
    have q2 := fun st => s84 H V G (b := zeros6) rfl st
    obtain ⟨D, hD⟩ : ∃ D, D = rd n t zeros6 n.ancs.length := ⟨_, rfl⟩
    rw [← hD] at q
    simp only [← hD] at q2
    simp only [zeros6, List.map_cons, List.map_nil] at q2
    simp (disch := first | assumption | omega | (simp only [az]; done)) only [ru, eq_self, if_true, if_false, BEq.rfl, binI, AO.row?, splice, fillL, mmAll, loadV, storeV, zeros, Am.rowAt, Am.part, addOff, Nat.reduceAdd, Nat.reduceMul, Nat.reduceLeDiff, Nat.reduceSub, Nat.reduceLT, Int.reduceEq, Int.reduceLT, Int.reduceLE, Int.reduceGT, Int.reduceGE, Int.reduceAdd, Int.reduceSub, Int.reduceMul, Int.reduceNeg, Int.reduceToNat, reduceCtorEq, reduceIte, s79 H V, s68 H, given_fit, lenV_sl H.g, lenV_sl H.a, lenV_sl H.w, elem_sl Spn.el H.g, elem_sl Anc.el H.a, elem_sl Wal.el H.w, view_sl H.g, view_sl H.a, view_sl H.w, scalar_sl H.g, scalar_sl H.a, scalar_sl H.w, cells_sl H.g, cells_sl H.a, cells_sl H.w, pure_sl H.g, pure_sl H.a, pure_sl H.w, Spn.e, Anc.e, Wal.e, Spn.eta, Anc.eta, Wal.eta, Int.toNat_natCast, lenV_sl V.s, elem_sl intE V.s, view_sl V.s, scalar_sl V.s, cells_sl V.s, pure_sl V.s, h0, q2, q, view_bv, view_sl (resL_is (lst n (lfp n t none6)))]
    simp only [ansL, errL, h0, if_true]
  · simp (disch := first | assumption | omega | (simp only [az]; done)) only [ru, eq_self, if_true, if_false, BEq.rfl, binI, AO.row?, splice, fillL, mmAll, loadV, storeV, zeros, Am.rowAt, Am.part, addOff, Nat.reduceAdd, Nat.reduceMul, Nat.reduceLeDiff, Nat.reduceSub, Nat.reduceLT, Int.reduceEq, Int.reduceLT, Int.reduceLE, Int.reduceGT, Int.reduceGE, Int.reduceAdd, Int.reduceSub, Int.reduceMul, Int.reduceNeg, Int.reduceToNat, reduceCtorEq, reduceIte, s79 H V, s68 H, given_fit, lenV_sl H.g, lenV_sl H.a, lenV_sl H.w, elem_sl Spn.el H.g, elem_sl Anc.el H.a, elem_sl Wal.el H.w, view_sl H.g, view_sl H.a, view_sl H.w, scalar_sl H.g, scalar_sl H.a, scalar_sl H.w, cells_sl H.g, cells_sl H.a, cells_sl H.w, pure_sl H.g, pure_sl H.a, pure_sl H.w, Spn.e, Anc.e, Wal.e, Spn.eta, Anc.eta, Wal.eta, Int.toNat_natCast, lenV_sl V.s, elem_sl intE V.s, view_sl V.s, scalar_sl V.s, cells_sl V.s, pure_sl V.s, h0]
    simp only [ansL, errL, h0, if_false, resL_nil]

end Go.Proofs.Ytmldjpeiokciiaa.A

namespace Go.Proofs.Ytmldjpeiokciiaa.A
open Go Go.Am Go.Proofs.Ytmldjpeiokciiaa.T
set_option maxRecDepth 100000
set_option linter.unusedSimpArgs false
set_option linter.unusedVariables false



end Go.Proofs.Ytmldjpeiokciiaa.A

namespace Go.Proofs.Ytmldjpeiokciiaa.A
open Go Go.Am Go.Proofs.Ytmldjpeiokciiaa.T
set_option maxRecDepth 100000
set_option linter.unusedSimpArgs false
set_option linter.unusedVariables false



/-- an append in a region of open order, to an empty slice of its own -/
theorem GO_sappend {X : Cx} {base : Nat} {k : List KF} {ts : List AV} {h : List AO} {mk : List Nat} {r : List AOper} {d : Option Nat} {kp : Bool} {e eb s : Nat} {a x : Opd} :
    GO X base (⟨d, .append kp e eb a x, none, some s, []⟩ :: r) k ts h mk = GX X base (exOp (R X.E) X.lim (some (base + s)) (Opd.ev ts) h (.append kp e eb a x)) d r k ts mk := by
  rw [GO_slot]; rfl
theorem app_keep {α : Type} {call : Am.Callee} {lim p : Nat} {ρ : Opd → AV} {h : List AO} {esz eb o : Nat} {enc : α → List AV} {l : List α} {a x : Opd} {v : AV} (hv : IsSl esz enc l v) (he : ∀ a, (enc a).length = esz) (hs : ∀ a, (enc a).all AV.scalar = true)
    (ha : ρ a = .ms esz o 0 0) (hx : ρ x = v) (ho : h[o]? = some (.cells [] false)) (hl : lim ≤ o) (hb : l.length * eb ≤ 140737488355328) (heb : 1 ≤ eb) :
    exOp call lim (some p) ρ h (.append true esz eb a x) = if l.length = 0 then some (.ms esz o 0 0, h) else some (.ms esz p 0 l.length, (h.set o (.ro [])).set p (.cells (l.flatMap enc) false)) := by
  simp only [exOp, ha, hx, lenOf_ms, lenOf_sl hv, rowOf_sl hv, flat_len he, scal_sl hs, Nat.zero_add, hb, heb, ho, hl, if_true, and_self, Nat.zero_mul, len0, true_or, newObj', take0, apN]
  rfl

theorem s25 {t : Tru} {v : AV} (V : TruOk t v) (st : Bool) : Iso E 23 [.agg [I t.wind, I t.cur, v]] st = some (.agg [I t.wind, I t.cur, slV 1 (fun n => [I n]) t.grips]) := by
  have sl := V.l
  have hk := fun (ρ : Opd → AV) (a x : Opd) (h1 : ρ a = AV.ms 1 2 0 0) (h2 : ρ x = v) (h : List AO) (h3 : h[2]? = some (.cells [] false)) => app_keep (call := R E) (lim := 0) (p := 2 + 1) V.s (fun _ => rfl) (fun _ => rfl) h1 h2 h3 (by omega) (eb := 8) (by omega) (by omega)
  refine Iso_of (es _ _ _ _) e23 ?_
  simp only [f23]
  simp (disch := first | assumption | omega | (simp only [az]; done)) only [ru, eq_self, if_true, if_false, BEq.rfl, binI, AO.row?, splice, fillL, mmAll, loadV, storeV, zeros, Am.rowAt, Am.part, addOff, Nat.reduceAdd, Nat.reduceMul, Nat.reduceLeDiff, Nat.reduceSub, Nat.reduceLT, Int.reduceEq, Int.reduceLT, Int.reduceLE, Int.reduceGT, Int.reduceGE, Int.reduceAdd, Int.reduceSub, Int.reduceMul, Int.reduceNeg, Int.reduceToNat, reduceCtorEq, reduceIte, lenV_sl V.s, elem_sl intE V.s, view_sl V.s, scalar_sl V.s, cells_sl V.s, pure_sl V.s]
  rw [GO_sappend, hk _ _ _ rfl rfl _ rfl]
  by_cases hz : t.grips.length = 0
  · have e : t.grips = [] := List.eq_nil_of_length_eq_zero hz
    simp (disch := first | assumption | omega | (simp only [az]; done)) only [ru, eq_self, if_true, if_false, BEq.rfl, binI, AO.row?, splice, fillL, mmAll, loadV, storeV, zeros, Am.rowAt, Am.part, addOff, Nat.reduceAdd, Nat.reduceMul, Nat.reduceLeDiff, Nat.reduceSub, Nat.reduceLT, Int.reduceEq, Int.reduceLT, Int.reduceLE, Int.reduceGT, Int.reduceGE, Int.reduceAdd, Int.reduceSub, Int.reduceMul, Int.reduceNeg, Int.reduceToNat, reduceCtorEq, reduceIte, lenV_sl V.s, elem_sl intE V.s, view_sl V.s, scalar_sl V.s, cells_sl V.s, pure_sl V.s, hz, finC, getRes, Option.some.injEq, exists_eq_left', Nat.zero_mul]
    simp only [slV, e]; rfl
  · have e1 := flat_take (enc := fun n : Int => [I n]) (l := t.grips) (k := 1) (fun _ => rfl)
    have e2 := flat1 t.grips
    rw [Nat.mul_one] at e1
    have e3 := fun (st : Bool) (h : List AO) (n : Nat) => flat_view (enc := fun n : Int => [I n]) (st := st) (h := h) (n := n) (fun a x hx => ⟨_, _, by simpa using hx⟩) t.grips
    simp (disch := first | assumption | omega | (simp only [az]; done)) only [ru, eq_self, if_true, if_false, BEq.rfl, binI, AO.row?, splice, fillL, mmAll, loadV, storeV, zeros, Am.rowAt, Am.part, addOff, Nat.reduceAdd, Nat.reduceMul, Nat.reduceLeDiff, Nat.reduceSub, Nat.reduceLT, Int.reduceEq, Int.reduceLT, Int.reduceLE, Int.reduceGT, Int.reduceGE, Int.reduceAdd, Int.reduceSub, Int.reduceMul, Int.reduceNeg, Int.reduceToNat, reduceCtorEq, reduceIte, lenV_sl V.s, elem_sl intE V.s, view_sl V.s, scalar_sl V.s, cells_sl V.s, pure_sl V.s, hz, finC, getRes, Option.some.injEq, exists_eq_left', Nat.mul_one, e1, e2, e3]
    rfl

theorem TruOk.c {t : Tru} {v : AV} (V : TruOk t v) : TruOk t (slV 1 (fun n => [I n]) t.grips) := ⟨slV_is, V.l⟩
end Go.Proofs.Ytmldjpeiokciiaa.A

/-
What a law of stage 2 that compares with nothing asks of its inputs; lists that rise, parts of lists.
-/
namespace Go.Proofs.Ytmldjpeiokciiaa.A
open Go Go.Am Go.Proofs.Ytmldjpeiokciiaa.T
set_option maxRecDepth 100000
set_option linter.unusedSimpArgs false
set_option linter.unusedVariables false



def Rises (l : List Int) (lo hi : Int) : Prop := ∀ i, i < l.length → inR (l.getD i default) lo hi = true ∧ (0 < i → l.getD (i - 1) default < l.getD i default)
theorem s53 {l : List Int} {v : AV} (hv : IsSl 1 (fun n => [I n]) l v) (hl : l.length ≤ 1000000) {lo hi : Int} (hr : Rises l lo hi) (st : Bool) : Iso E 24 [v, I lo, I hi] st = some (Bo true) := by
  refine Iso_of (es _ _ _ _) e24 ?_
  simp only [f24]
  simp (disch := first | assumption | omega | (simp only [az]; done)) only [ru, eq_self, if_true, if_false, BEq.rfl, binI, AO.row?, splice, fillL, mmAll, loadV, storeV, zeros, Am.rowAt, Am.part, addOff, Nat.reduceAdd, Nat.reduceMul, Nat.reduceLeDiff, Nat.reduceSub, Nat.reduceLT, Int.reduceEq, Int.reduceLT, Int.reduceLE, Int.reduceGT, Int.reduceGE, Int.reduceAdd, Int.reduceSub, Int.reduceMul, Int.reduceNeg, Int.reduceToNat, reduceCtorEq, reduceIte]
  refine G_loop_ind (fun m ts h mk => ∃ i : Nat, i ≤ l.length ∧ m = l.length - i ∧ ts.length = 38 ∧ ts.getD 0 .undef = v ∧ ts.getD 1 .undef = I lo ∧ ts.getD 2 .undef = I hi ∧ ts.getD 7 .undef = I i ∧ h = [] ∧ mk = []) ?_ _ _ _ _ ⟨0, Nat.zero_le _, rfl, rfl, rfl, rfl, rfl, rfl, rfl, rfl⟩
  rintro m ts h mk ih ⟨i, hi', rfl, hl', q0, q1, q2, q7, rfl, rfl⟩
  rw [lit_all hl']
  simp only [lit0, litS, Nat.reduceAdd, q0, q1, q2, q7]
  simp (disch := first | assumption | omega | (simp only [az]; done)) only [ru, eq_self, if_true, if_false, BEq.rfl, binI, AO.row?, splice, fillL, mmAll, loadV, storeV, zeros, Am.rowAt, Am.part, addOff, Nat.reduceAdd, Nat.reduceMul, Nat.reduceLeDiff, Nat.reduceSub, Nat.reduceLT, Int.reduceEq, Int.reduceLT, Int.reduceLE, Int.reduceGT, Int.reduceGE, Int.reduceAdd, Int.reduceSub, Int.reduceMul, Int.reduceNeg, Int.reduceToNat, reduceCtorEq, reduceIte, lenV_sl hv]
  by_cases hlt : (i : Int) < l.length
  case pos =>
    obtain ⟨r1, r2⟩ := hr i (by omega)
    by_cases h0 : (i : Int) > 0
    · have r3 := r2 (by omega)
      have e1 : (i : Int) - 1 = ((i - 1 : Nat) : Int) := by omega
      have r4 : ¬ l.getD i default ≤ l.getD (i - 1) default := by omega
      simp (disch := first | assumption | omega | (simp only [az]; done)) only [ru, eq_self, if_true, if_false, BEq.rfl, binI, AO.row?, splice, fillL, mmAll, loadV, storeV, zeros, Am.rowAt, Am.part, addOff, Nat.reduceAdd, Nat.reduceMul, Nat.reduceLeDiff, Nat.reduceSub, Nat.reduceLT, Int.reduceEq, Int.reduceLT, Int.reduceLE, Int.reduceGT, Int.reduceGE, Int.reduceAdd, Int.reduceSub, Int.reduceMul, Int.reduceNeg, Int.reduceToNat, reduceCtorEq, reduceIte, hlt, elem_sl intE hv, Int.toNat_natCast, s58, r1, h0, e1, r4]
      exact ih (l.length - (i + 1)) _ _ _ (by omega) ⟨i + 1, by omega, rfl, rfl, rfl, rfl, rfl, rfl, rfl, rfl⟩
    · simp (disch := first | assumption | omega | (simp only [az]; done)) only [ru, eq_self, if_true, if_false, BEq.rfl, binI, AO.row?, splice, fillL, mmAll, loadV, storeV, zeros, Am.rowAt, Am.part, addOff, Nat.reduceAdd, Nat.reduceMul, Nat.reduceLeDiff, Nat.reduceSub, Nat.reduceLT, Int.reduceEq, Int.reduceLT, Int.reduceLE, Int.reduceGT, Int.reduceGE, Int.reduceAdd, Int.reduceSub, Int.reduceMul, Int.reduceNeg, Int.reduceToNat, reduceCtorEq, reduceIte, hlt, elem_sl intE hv, Int.toNat_natCast, s58, r1, h0]
      exact ih (l.length - (i + 1)) _ _ _ (by omega) ⟨i + 1, by omega, rfl, rfl, rfl, rfl, rfl, rfl, rfl, rfl⟩
  simp (disch := first | assumption | omega | (simp only [az]; done)) only [ru, eq_self, if_true, if_false, BEq.rfl, binI, AO.row?, splice, fillL, mmAll, loadV, storeV, zeros, Am.rowAt, Am.part, addOff, Nat.reduceAdd, Nat.reduceMul, Nat.reduceLeDiff, Nat.reduceSub, Nat.reduceLT, Int.reduceEq, Int.reduceLT, Int.reduceLE, Int.reduceGT, Int.reduceGE, Int.reduceAdd, Int.reduceSub, Int.reduceMul, Int.reduceNeg, Int.reduceToNat, reduceCtorEq, reduceIte, hlt]

/-! how many truths -/
def smallN (n : Net) : Prop := n.grips.length ≤ 40 ∧ n.ancs.length ≤ 40 ∧ n.walls.length ≤ 40

theorem anyIs_iff {l : List Int} {x : Int} : anyIs l x = true ↔ x ∈ l := by simp [anyIs]
theorem lst_rises (n : Net) (D : Nat → Bool) : Rises (lst n D) 0 ((n.ancs.length : Int) - 1) := by
  intro i hi
  have hp : List.Pairwise (fun (x y : Int) => x < y) (lst n D) := by
    unfold lst
    rw [List.pairwise_map]
    exact (List.Pairwise.filter D List.pairwise_lt_range).imp (fun h => by omega)
  rw [List.pairwise_iff_getElem] at hp
  have hm : (lst n D).getD i default ∈ lst n D := getD_mem hi
  refine ⟨?_, fun h0 => ?_⟩
  · unfold lst at hm
    simp only [List.mem_map, List.mem_filter, List.mem_range] at hm
    obtain ⟨k, ⟨hk, _⟩, e⟩ := hm
    unfold lst
    rw [← e, inR_iff]; omega
  · have := hp (i - 1) i (by omega) hi (by omega)
    simp only [List.getD_eq_getElem?_getD, List.getElem?_eq_getElem hi, List.getElem?_eq_getElem (show i - 1 < (lst n D).length by omega), Option.getD_some]
    exact this

end Go.Proofs.Ytmldjpeiokciiaa.A

/-
What is pulled, and the key: the law of stage 2 on them.
-/
namespace Go.Proofs.Ytmldjpeiokciiaa.A
open Go Go.Am Go.Proofs.Ytmldjpeiokciiaa.T
set_option maxRecDepth 100000
set_option linter.unusedSimpArgs false
set_option linter.unusedVariables false



theorem gUn {X : Cx} {base : Nat} {k : List KF} {ts : List AV} {h : List AO} {mk : List Nat} {r : List AOper} {d : Option Nat} {w : Bool} {op : AOp} {sl : Option Nat} {m : List Nat} {x : Option (Nat × Bool)} : GG X base .undef w ⟨d, op, x, sl, m⟩ r k ts h mk = GO X base r k (putT ts d .undef) h mk := id rfl

theorem none_lfp {n : Net} {t : Tru} (G : Fair n t) : IsLfp n t none6 (lfp n t none6) := by
  have B := netB G.v
  have h := rd_lfp (good_pos G) B.lw (b := zeros6) (by have := B.la; simp [zeros6]; omega)
  rw [show gb zeros6 = none6 from funext fun i => by rw [gb_zeros]] at h
  exact lfp_is h
theorem lst_part {n : Net} {A B : Nat → Bool} (h : Le n A B) : ∀ i, i < (lst n A).length → anyIs (lst n B) ((lst n A).getD i default) = true := by
  intro i hi
  have hm : (lst n A).getD i default ∈ lst n A := getD_mem hi
  rw [anyIs_iff]
  obtain ⟨y, hy⟩ : ∃ y, y = (lst n A).getD i default := ⟨_, rfl⟩
  rw [← hy] at hm ⊢
  have hm' := hm
  unfold lst at hm'
  simp only [List.mem_map, List.mem_filter, List.mem_range] at hm'
  obtain ⟨k, ⟨hk, _⟩, rfl⟩ := hm'
  exact (mem_lst hk).2 (h k hk ((mem_lst hk).1 hm))

end Go.Proofs.Ytmldjpeiokciiaa.A

