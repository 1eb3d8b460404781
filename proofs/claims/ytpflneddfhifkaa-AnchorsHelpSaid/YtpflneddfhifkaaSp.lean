import Derived.Test.YtpflneddfhifkaaTab
import Derived.Test.YtpflneddfhifkaaAmY
namespace Go.Proofs.Ytpflneddfhifkaa.S
open Go Go.Am Go.Proofs.Ytpflneddfhifkaa.T
set_option maxRecDepth 100000
set_option linter.unusedSimpArgs false
set_option linter.unusedVariables false

def inR (n lo hi : Int) : Bool := decide (lo ≤ n) && decide (n ≤ hi)

structure Spn where
  lo : Int
  hi : Int
  deriving Inhabited
structure Anc where
  w : Int
  b : Int
  deriving Inhabited
structure Wal where
  sail : Int
  drag : Int
  lean : Int
  corks : Int
  stones : Int
  deriving Inhabited
structure Net where
  wind : Spn
  cur : Spn
  grips : List Spn
  ancs : List Anc
  walls : List Wal
def Spn.e (s : Spn) : List AV := [I s.lo, I s.hi]
def Anc.e (s : Anc) : List AV := [I s.w, I s.b]
def Wal.e (s : Wal) : List AV := [I s.sail, I s.drag, I s.lean, I s.corks, I s.stones]
theorem Spn.el (s : Spn) : s.e.length = 2 := rfl
theorem Anc.el (s : Anc) : s.e.length = 2 := rfl
theorem Wal.el (s : Wal) : s.e.length = 5 := rfl
theorem intE (n : Int) : [I n].length = 1 := rfl

def spanOk (s : Spn) (m : Int) : Bool := inR s.hi 0 m && inR s.lo 0 s.hi

theorem s58 (n lo hi : Int) (st : Bool) : Iso E 58 [I n, I lo, I hi] st = some (Bo (inR n lo hi)) := by
  refine Iso_of (es _ _ _ _) e58 ?_
  simp only [f58, inR]
  simp (disch := first | assumption | omega | (simp only [az]; done)) only [ru, eq_self, if_true, if_false, BEq.rfl, binI, AO.row?, splice, fillL, mmAll, loadV, storeV, zeros, Am.rowAt, Am.part, addOff, Nat.reduceAdd, Nat.reduceMul, Nat.reduceLeDiff, Nat.reduceSub, Nat.reduceLT, Int.reduceEq, Int.reduceLT, Int.reduceLE, Int.reduceGT, Int.reduceGE, Int.reduceAdd, Int.reduceSub, Int.reduceMul, Int.reduceNeg, Int.reduceToNat, reduceCtorEq, reduceIte]
  by_cases h1 : lo ≤ n
  · simp (disch := first | assumption | omega | (simp only [az]; done)) only [ru, eq_self, if_true, if_false, BEq.rfl, binI, AO.row?, splice, fillL, mmAll, loadV, storeV, zeros, Am.rowAt, Am.part, addOff, Nat.reduceAdd, Nat.reduceMul, Nat.reduceLeDiff, Nat.reduceSub, Nat.reduceLT, Int.reduceEq, Int.reduceLT, Int.reduceLE, Int.reduceGT, Int.reduceGE, Int.reduceAdd, Int.reduceSub, Int.reduceMul, Int.reduceNeg, Int.reduceToNat, reduceCtorEq, reduceIte, h1]
  · simp (disch := first | assumption | omega | (simp only [az]; done)) only [ru, eq_self, if_true, if_false, BEq.rfl, binI, AO.row?, splice, fillL, mmAll, loadV, storeV, zeros, Am.rowAt, Am.part, addOff, Nat.reduceAdd, Nat.reduceMul, Nat.reduceLeDiff, Nat.reduceSub, Nat.reduceLT, Int.reduceEq, Int.reduceLT, Int.reduceLE, Int.reduceGT, Int.reduceGE, Int.reduceAdd, Int.reduceSub, Int.reduceMul, Int.reduceNeg, Int.reduceToNat, reduceCtorEq, reduceIte, h1]

theorem s67 (n lo hi : Int) (st : Bool) : Iso E 67 [I n, I lo, I hi] st = some (Bo (inR n lo hi)) := by
  refine Iso_of (es _ _ _ _) e67 ?_
  simp only [f67]
  simp (disch := first | assumption | omega | (simp only [az]; done)) only [ru, eq_self, if_true, if_false, BEq.rfl, binI, AO.row?, splice, fillL, mmAll, loadV, storeV, zeros, Am.rowAt, Am.part, addOff, Nat.reduceAdd, Nat.reduceMul, Nat.reduceLeDiff, Nat.reduceSub, Nat.reduceLT, Int.reduceEq, Int.reduceLT, Int.reduceLE, Int.reduceGT, Int.reduceGE, Int.reduceAdd, Int.reduceSub, Int.reduceMul, Int.reduceNeg, Int.reduceToNat, reduceCtorEq, reduceIte, s58]

theorem s66 (lo hi m : Int) (st : Bool) : Iso E 66 [.agg [I lo, I hi], I m] st = some (Bo (spanOk ⟨lo, hi⟩ m)) := by
  refine Iso_of (es _ _ _ _) e66 ?_
  simp only [f66, spanOk]
  simp (disch := first | assumption | omega | (simp only [az]; done)) only [ru, eq_self, if_true, if_false, BEq.rfl, binI, AO.row?, splice, fillL, mmAll, loadV, storeV, zeros, Am.rowAt, Am.part, addOff, Nat.reduceAdd, Nat.reduceMul, Nat.reduceLeDiff, Nat.reduceSub, Nat.reduceLT, Int.reduceEq, Int.reduceLT, Int.reduceLE, Int.reduceGT, Int.reduceGE, Int.reduceAdd, Int.reduceSub, Int.reduceMul, Int.reduceNeg, Int.reduceToNat, reduceCtorEq, reduceIte, s67]
  cases h1 : inR hi 0 m
  · simp (disch := first | assumption | omega | (simp only [az]; done)) only [ru, eq_self, if_true, if_false, BEq.rfl, binI, AO.row?, splice, fillL, mmAll, loadV, storeV, zeros, Am.rowAt, Am.part, addOff, Nat.reduceAdd, Nat.reduceMul, Nat.reduceLeDiff, Nat.reduceSub, Nat.reduceLT, Int.reduceEq, Int.reduceLT, Int.reduceLE, Int.reduceGT, Int.reduceGE, Int.reduceAdd, Int.reduceSub, Int.reduceMul, Int.reduceNeg, Int.reduceToNat, reduceCtorEq, reduceIte, h1]
  · simp (disch := first | assumption | omega | (simp only [az]; done)) only [ru, eq_self, if_true, if_false, BEq.rfl, binI, AO.row?, splice, fillL, mmAll, loadV, storeV, zeros, Am.rowAt, Am.part, addOff, Nat.reduceAdd, Nat.reduceMul, Nat.reduceLeDiff, Nat.reduceSub, Nat.reduceLT, Int.reduceEq, Int.reduceLT, Int.reduceLE, Int.reduceGT, Int.reduceGE, Int.reduceAdd, Int.reduceSub, Int.reduceMul, Int.reduceNeg, Int.reduceToNat, reduceCtorEq, reduceIte, h1, s67]

theorem s73 (n : Int) (st : Bool) : Iso E 73 [I n] st = some (Bo (inR n 0 20)) := by
  refine Iso_of (es _ _ _ _) e73 ?_
  simp only [f73]
  simp (disch := first | assumption | omega | (simp only [az]; done)) only [ru, eq_self, if_true, if_false, BEq.rfl, binI, AO.row?, splice, fillL, mmAll, loadV, storeV, zeros, Am.rowAt, Am.part, addOff, Nat.reduceAdd, Nat.reduceMul, Nat.reduceLeDiff, Nat.reduceSub, Nat.reduceLT, Int.reduceEq, Int.reduceLT, Int.reduceLE, Int.reduceGT, Int.reduceGE, Int.reduceAdd, Int.reduceSub, Int.reduceMul, Int.reduceNeg, Int.reduceToNat, reduceCtorEq, reduceIte, s67]

theorem Spn.eta (s : Spn) : Spn.mk s.lo s.hi = s := rfl
theorem Anc.eta (s : Anc) : Anc.mk s.w s.b = s := rfl
theorem Wal.eta (s : Wal) : Wal.mk s.sail s.drag s.lean s.corks s.stones = s := rfl

abbrev netV (n : Net) (g a w : AV) : AV := .agg [I n.wind.lo, I n.wind.hi, I n.cur.lo, I n.cur.hi, g, a, w]

structure NetOk (n : Net) (g a w : AV) : Prop where
  g : IsSl 2 Spn.e n.grips g
  a : IsSl 2 Anc.e n.ancs a
  w : IsSl 5 Wal.e n.walls w
  sg : n.grips.length ≤ 40
  sa : n.ancs.length ≤ 40
  sw : n.walls.length ≤ 40

def ancOk (n : Net) (a : Anc) : Bool := inR a.w 0 20 && inR a.b 0 (n.grips.length - 1)
def walOk (w : Wal) : Bool := inR w.sail 0 9 && inR w.drag 0 9 && inR w.lean 0 9 && inR w.corks 0 99 && inR w.stones 0 99
def Net.valid (n : Net) : Bool := spanOk n.wind 20 && spanOk n.cur 20 && decide (n.grips.length ≤ 3) && decide (n.ancs.length ≤ 6) && decide (n.walls.length = n.ancs.length - 1) &&
  n.grips.all (spanOk · 9) && n.ancs.all (ancOk n) && n.walls.all walOk

theorem s57 {n : Net} {g a w : AV} (H : NetOk n g a w) (i : Int) (st : Bool) : Iso E 57 [netV n g a w, I i] st = some (Bo (inR i 0 (n.ancs.length - 1))) := by
  have sa := H.sa
  refine Iso_of (es _ _ _ _) e57 ?_
  simp only [f57, netV]
  simp (disch := first | assumption | omega | (simp only [az]; done)) only [ru, eq_self, if_true, if_false, BEq.rfl, binI, AO.row?, splice, fillL, mmAll, loadV, storeV, zeros, Am.rowAt, Am.part, addOff, Nat.reduceAdd, Nat.reduceMul, Nat.reduceLeDiff, Nat.reduceSub, Nat.reduceLT, Int.reduceEq, Int.reduceLT, Int.reduceLE, Int.reduceGT, Int.reduceGE, Int.reduceAdd, Int.reduceSub, Int.reduceMul, Int.reduceNeg, Int.reduceToNat, reduceCtorEq, reduceIte, s67, lenV_sl H.g, lenV_sl H.a, lenV_sl H.w, elem_sl Spn.el H.g, elem_sl Anc.el H.a, elem_sl Wal.el H.w, view_sl H.g, view_sl H.a, view_sl H.w, scalar_sl H.g, scalar_sl H.a, scalar_sl H.w, cells_sl H.g, cells_sl H.a, cells_sl H.w, pure_sl H.g, pure_sl H.a, pure_sl H.w, Spn.e, Anc.e, Wal.e, Spn.eta, Anc.eta, Wal.eta, Int.toNat_natCast]

theorem s63 {n : Net} {g a w : AV} (H : NetOk n g a w) (i : Int) (st : Bool) : Iso E 63 [netV n g a w, I i] st = some (Bo (inR i 0 (n.walls.length - 1))) := by
  have sw := H.sw
  refine Iso_of (es _ _ _ _) e63 ?_
  simp only [f63, netV]
  simp (disch := first | assumption | omega | (simp only [az]; done)) only [ru, eq_self, if_true, if_false, BEq.rfl, binI, AO.row?, splice, fillL, mmAll, loadV, storeV, zeros, Am.rowAt, Am.part, addOff, Nat.reduceAdd, Nat.reduceMul, Nat.reduceLeDiff, Nat.reduceSub, Nat.reduceLT, Int.reduceEq, Int.reduceLT, Int.reduceLE, Int.reduceGT, Int.reduceGE, Int.reduceAdd, Int.reduceSub, Int.reduceMul, Int.reduceNeg, Int.reduceToNat, reduceCtorEq, reduceIte, s67, lenV_sl H.g, lenV_sl H.a, lenV_sl H.w, elem_sl Spn.el H.g, elem_sl Anc.el H.a, elem_sl Wal.el H.w, view_sl H.g, view_sl H.a, view_sl H.w, scalar_sl H.g, scalar_sl H.a, scalar_sl H.w, cells_sl H.g, cells_sl H.a, cells_sl H.w, pure_sl H.g, pure_sl H.a, pure_sl H.w, Spn.e, Anc.e, Wal.e, Spn.eta, Anc.eta, Wal.eta, Int.toNat_natCast]

theorem all_upto_succ {α : Type} [Inhabited α] {l : List α} {p : α → Bool} {i : Nat} (hi : i < l.length) {x : α} (hx : l.getD i default = x) (h : (l.take i).all p = true) (hp : p x = true) : (l.take (i + 1)).all p = true := by
  subst hx
  rw [List.take_succ_eq_append_getElem hi, List.all_append, h]
  simpa [List.getD_eq_getElem?_getD, hi] using hp
theorem all_not {α : Type} [Inhabited α] {l : List α} {p : α → Bool} {i : Nat} (hi : i < l.length) {x : α} (hx : l.getD i default = x) (hp : p x = false) : l.all p = false := by
  subst hx
  rw [List.all_eq_false]
  exact ⟨l[i], List.getElem_mem hi, by simpa [List.getD_eq_getElem?_getD, hi] using hp⟩

end Go.Proofs.Ytpflneddfhifkaa.S
