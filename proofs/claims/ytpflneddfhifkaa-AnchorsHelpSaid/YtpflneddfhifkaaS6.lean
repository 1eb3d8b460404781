import Derived.Test.YtpflneddfhifkaaS5
namespace Go.Proofs.Ytpflneddfhifkaa.S
open Go Go.Am Go.Proofs.Ytpflneddfhifkaa.T
set_option maxRecDepth 100000
set_option linter.unusedSimpArgs false
set_option linter.unusedVariables false



def slV {α : Type} (esz : Nat) (enc : α → List AV) (l : List α) : AV := .cs esz l.length (l.flatMap enc)
theorem slV_is {α : Type} {esz : Nat} {enc : α → List AV} {l : List α} : IsSl esz enc l (slV esz enc l) := .inl rfl
theorem Spn.sc (s : Spn) : s.e.all AV.scalar = true := rfl
theorem Anc.sc (s : Anc) : s.e.all AV.scalar = true := rfl
theorem Wal.sc (s : Wal) : s.e.all AV.scalar = true := rfl
/-- the net itself, in values of its own -/
abbrev netC (n : Net) : AV := netV n (slV 2 Spn.e n.grips) (slV 2 Anc.e n.ancs) (slV 5 Wal.e n.walls)
theorem NetOk.c {n : Net} {g a w : AV} (H : NetOk n g a w) : NetOk n (slV 2 Spn.e n.grips) (slV 2 Anc.e n.ancs) (slV 5 Wal.e n.walls) := ⟨slV_is, slV_is, slV_is, H.sg, H.sa, H.sw⟩

theorem mapM_view {st : Bool} {h : List AO} {n : Nat} : ∀ {c : List AV}, (∀ x ∈ c, view st h n x = some x) → c.mapM (view st h n) = some c
  | [], _ => rfl
  | a :: c, hc => by
    simp only [List.mapM_cons, hc a (by simp), mapM_view (c := c) (fun x hx => hc x (by simp [hx])), Option.bind_eq_bind, Option.bind_some, Option.pure_def]
theorem flat_view {α : Type} {enc : α → List AV} {st : Bool} {h : List AO} {n : Nat} (hi : ∀ a, ∀ x ∈ enc a, ∃ k i, x = .int k i) (l : List α) : (l.flatMap enc).mapM (view st h n) = some (l.flatMap enc) :=
  mapM_view fun x hx => by
    obtain ⟨a, _, hx⟩ := List.mem_flatMap.1 hx
    obtain ⟨k, i, rfl⟩ := hi a x hx
    exact view_int
theorem Spn.iv (s : Spn) : ∀ x ∈ s.e, ∃ k i, x = .int k i := by simp [Spn.e]
theorem Anc.iv (s : Anc) : ∀ x ∈ s.e, ∃ k i, x = .int k i := by simp [Anc.e]
theorem Wal.iv (s : Wal) : ∀ x ∈ s.e, ∃ k i, x = .int k i := by simp [Wal.e]

theorem flat_take {α : Type} {enc : α → List AV} {l : List α} {k : Nat} (he : ∀ a, (enc a).length = k) : (l.flatMap enc).take (l.length * k) = l.flatMap enc := List.take_of_length_le (by rw [flat_len he]; omega)
theorem flat0 {α : Type} {enc : α → List AV} {l : List α} (h : l.length = 0) : l.flatMap enc = [] := by rw [List.eq_nil_of_length_eq_zero h]; rfl
theorem s17 {n : Net} {g a w : AV} (H : NetOk n g a w) (st : Bool) : Iso E 17 [netV n g a w] st = some (netC n) := by
  have sg := H.sg; have sa := H.sa; have sw := H.sw
  refine Iso_of (es _ _ _ _) e17 ?_
  simp only [f17, netV]
  by_cases h1 : n.grips.length = 0 <;> by_cases h2 : n.ancs.length = 0 <;> by_cases h3 : n.walls.length = 0
  all_goals
    simp (disch := first | assumption | omega | (simp only [az]; done)) only [ru, eq_self, if_true, if_false, BEq.rfl, binI, AO.row?, splice, fillL, mmAll, loadV, storeV, zeros, Am.rowAt, Am.part, addOff, Nat.reduceAdd, Nat.reduceMul, Nat.reduceLeDiff, Nat.reduceSub, Nat.reduceLT, Int.reduceEq, Int.reduceLT, Int.reduceLE, Int.reduceGT, Int.reduceGE, Int.reduceAdd, Int.reduceSub, Int.reduceMul, Int.reduceNeg, Int.reduceToNat, reduceCtorEq, reduceIte, lenV_sl H.g, lenV_sl H.a, lenV_sl H.w, elem_sl Spn.el H.g, elem_sl Anc.el H.a, elem_sl Wal.el H.w, view_sl H.g, view_sl H.a, view_sl H.w, scalar_sl H.g, scalar_sl H.a, scalar_sl H.w, cells_sl H.g, cells_sl H.a, cells_sl H.w, pure_sl H.g, pure_sl H.a, pure_sl H.w, Spn.e, Anc.e, Wal.e, Spn.eta, Anc.eta, Wal.eta, Int.toNat_natCast, appV_new H.g Spn.el Spn.sc (eb := 16) (by omega) (by omega), appV_new H.a Anc.el Anc.sc (eb := 16) (by omega) (by omega), appV_new H.w Wal.el Wal.sc (eb := 40) (by omega) (by omega), h1, h2, h3, finC, getRes, Option.some.injEq, exists_eq_left', Nat.zero_mul, flat_take Spn.el, flat_take Anc.el, flat_take Wal.el, flat_len Spn.el, flat_len Anc.el, flat_len Wal.el, flat_view Spn.iv, flat_view Anc.iv, flat_view Wal.iv, slV, Spn.el, Anc.el, Wal.el]
  all_goals first
    | rfl
    | (simp (disch := assumption) only [netC, slV, flat0, h1, h2, h3]; done)

theorem mul_bd {a b m k : Int} (h1 : 0 ≤ a) (h2 : a ≤ m) (h3 : 0 ≤ b) (h4 : b ≤ k) : 0 ≤ a * b ∧ a * b ≤ m * k :=
  ⟨Int.mul_nonneg h1 h3, Int.mul_le_mul h2 h4 h3 (by omega)⟩

theorem inR_iff {n lo hi : Int} : inR n lo hi = true ↔ lo ≤ n ∧ n ≤ hi := by simp [inR]

theorem getD_mem {α : Type} [Inhabited α] {l : List α} {i : Nat} (h : i < l.length) : l.getD i default ∈ l := by
  rw [List.getD_eq_getElem?_getD, List.getElem?_eq_getElem h]; exact List.getElem_mem h

structure WalB (s : Wal) : Prop where
  a0 : 0 ≤ s.sail
  a1 : s.sail ≤ 9
  b0 : 0 ≤ s.drag
  b1 : s.drag ≤ 9
  c0 : 0 ≤ s.lean
  c1 : s.lean ≤ 9
  d0 : 0 ≤ s.corks
  d1 : s.corks ≤ 99
  e0 : 0 ≤ s.stones
  e1 : s.stones ≤ 99
theorem walB {s : Wal} (h : walOk s = true) : WalB s := by
  simp only [walOk, Bool.and_eq_true, inR_iff] at h
  obtain ⟨⟨⟨⟨⟨a0, a1⟩, b0, b1⟩, c0, c1⟩, d0, d1⟩, e0, e1⟩ := h
  exact ⟨a0, a1, b0, b1, c0, c1, d0, d1, e0, e1⟩
structure NetB (n : Net) : Prop where
  w0 : 0 ≤ n.wind.lo
  w1 : n.wind.lo ≤ n.wind.hi
  w2 : n.wind.hi ≤ 20
  c0 : 0 ≤ n.cur.lo
  c1 : n.cur.lo ≤ n.cur.hi
  c2 : n.cur.hi ≤ 20
  lg : n.grips.length ≤ 3
  la : n.ancs.length ≤ 6
  lw : n.walls.length = n.ancs.length - 1
  g : ∀ s ∈ n.grips, 0 ≤ s.lo ∧ s.lo ≤ s.hi ∧ s.hi ≤ 9
  a : ∀ s ∈ n.ancs, 0 ≤ s.w ∧ s.w ≤ 20 ∧ 0 ≤ s.b ∧ s.b < n.grips.length
  w : ∀ s ∈ n.walls, WalB s
theorem netB {n : Net} (h : n.valid = true) : NetB n := by
  simp only [Net.valid, spanOk, Bool.and_eq_true, inR_iff, decide_eq_true_eq, List.all_eq_true, ancOk] at h
  obtain ⟨⟨⟨⟨⟨⟨⟨⟨⟨a0, a1⟩, b0, b1⟩, ⟨c0, c1⟩, d0, d1⟩, e⟩, f⟩, g⟩, i⟩, j⟩, k⟩ := h
  refine ⟨b0, b1, a1, d0, d1, c1, e, f, g, fun s hs => ?_, fun s hs => ?_, fun s hs => walB (k s hs)⟩
  · have := i s hs; omega
  · have := j s hs; omega

def wallAt (n : Net) (i : Int) : Wal := n.walls.getD i.toNat default
theorem wallAt_b {n : Net} (h : n.valid = true) {i : Int} (hi : inR i 0 (n.walls.length - 1) = true) : WalB (wallAt n i) := by
  rw [inR_iff] at hi
  exact (netB h).w _ (getD_mem (by omega))

/-- the answer to Load -/
def loadR (n : Net) (wall wi cu : Int) : Int × Int :=
  if n.valid then (if inR wall 0 (n.walls.length - 1) && (inR wi 0 20 && inR cu 0 20) then ((wallAt n wall).sail * wi + (wallAt n wall).drag * cu, 0) else (0, 1)) else (0, 20)

theorem s74' (s : Wal) (wi cu : Int) (st : Bool) (h1 : 0 ≤ s.sail * wi ∧ s.sail * wi ≤ 9 * 20) (h3 : 0 ≤ s.drag * cu ∧ s.drag * cu ≤ 9 * 20) : Iso E 74 [.agg [I s.sail, I s.drag, I s.lean, I s.corks, I s.stones], I wi, I cu] st = some (I (s.sail * wi + s.drag * cu)) :=
  s74 s wi cu st (by omega) (by omega) (by omega) (by omega)
theorem s71' (s : Wal) (wi cu : Int) (st : Bool) (h1 : 0 ≤ s.sail * wi ∧ s.sail * wi ≤ 9 * 20) (h3 : 0 ≤ s.drag * cu ∧ s.drag * cu ≤ 9 * 20) : Iso E 71 [.agg [I s.sail, I s.drag, I s.lean, I s.corks, I s.stones], I wi, I cu] st = some (I (s.sail * wi + s.drag * cu)) :=
  s71 s wi cu st (by omega) (by omega) (by omega) (by omega)

theorem s21 {n : Net} {g a w : AV} (H : NetOk n g a w) (x wi cu : Int) (st : Bool) : Iso E 21 [netV n g a w, I x, I wi, I cu] st = some (.tup [I (loadR n x wi cu).1, I (loadR n x wi cu).2]) := by
  refine Iso_of (es _ _ _ _) e21 ?_
  simp only [f21, netV]
  cases hv : n.valid
  · simp (disch := first | assumption | omega | (simp only [az]; done)) only [ru, eq_self, if_true, if_false, BEq.rfl, binI, AO.row?, splice, fillL, mmAll, loadV, storeV, zeros, Am.rowAt, Am.part, addOff, Nat.reduceAdd, Nat.reduceMul, Nat.reduceLeDiff, Nat.reduceSub, Nat.reduceLT, Int.reduceEq, Int.reduceLT, Int.reduceLE, Int.reduceGT, Int.reduceGE, Int.reduceAdd, Int.reduceSub, Int.reduceMul, Int.reduceNeg, Int.reduceToNat, reduceCtorEq, reduceIte, s63 H, s72 H, s73, lenV_sl H.g, lenV_sl H.a, lenV_sl H.w, elem_sl Spn.el H.g, elem_sl Anc.el H.a, elem_sl Wal.el H.w, view_sl H.g, view_sl H.a, view_sl H.w, scalar_sl H.g, scalar_sl H.a, scalar_sl H.w, cells_sl H.g, cells_sl H.a, cells_sl H.w, pure_sl H.g, pure_sl H.a, pure_sl H.w, Spn.e, Anc.e, Wal.e, Spn.eta, Anc.eta, Wal.eta, Int.toNat_natCast, hv] ; repeat' ((first | refine GG_split (fun hb => ?_) (fun hb => ?_) | refine GC_split (fun hb => ?_) (fun hb => ?_)) <;> simp (disch := first | assumption | omega | (simp only [az]; done)) only [ru, eq_self, if_true, if_false, BEq.rfl, binI, AO.row?, splice, fillL, mmAll, loadV, storeV, zeros, Am.rowAt, Am.part, addOff, Nat.reduceAdd, Nat.reduceMul, Nat.reduceLeDiff, Nat.reduceSub, Nat.reduceLT, Int.reduceEq, Int.reduceLT, Int.reduceLE, Int.reduceGT, Int.reduceGE, Int.reduceAdd, Int.reduceSub, Int.reduceMul, Int.reduceNeg, Int.reduceToNat, reduceCtorEq, reduceIte, s63 H, s72 H, s73, lenV_sl H.g, lenV_sl H.a, lenV_sl H.w, elem_sl Spn.el H.g, elem_sl Anc.el H.a, elem_sl Wal.el H.w, view_sl H.g, view_sl H.a, view_sl H.w, scalar_sl H.g, scalar_sl H.a, scalar_sl H.w, cells_sl H.g, cells_sl H.a, cells_sl H.w, pure_sl H.g, pure_sl H.a, pure_sl H.w, Spn.e, Anc.e, Wal.e, Spn.eta, Anc.eta, Wal.eta, Int.toNat_natCast, hv, hb])
    all_goals simp only [loadR, hv, if_false, Bool.false_eq_true]
  cases hx : inR x 0 (n.walls.length - 1)
  · simp (disch := first | assumption | omega | (simp only [az]; done)) only [ru, eq_self, if_true, if_false, BEq.rfl, binI, AO.row?, splice, fillL, mmAll, loadV, storeV, zeros, Am.rowAt, Am.part, addOff, Nat.reduceAdd, Nat.reduceMul, Nat.reduceLeDiff, Nat.reduceSub, Nat.reduceLT, Int.reduceEq, Int.reduceLT, Int.reduceLE, Int.reduceGT, Int.reduceGE, Int.reduceAdd, Int.reduceSub, Int.reduceMul, Int.reduceNeg, Int.reduceToNat, reduceCtorEq, reduceIte, s63 H, s72 H, s73, lenV_sl H.g, lenV_sl H.a, lenV_sl H.w, elem_sl Spn.el H.g, elem_sl Anc.el H.a, elem_sl Wal.el H.w, view_sl H.g, view_sl H.a, view_sl H.w, scalar_sl H.g, scalar_sl H.a, scalar_sl H.w, cells_sl H.g, cells_sl H.a, cells_sl H.w, pure_sl H.g, pure_sl H.a, pure_sl H.w, Spn.e, Anc.e, Wal.e, Spn.eta, Anc.eta, Wal.eta, Int.toNat_natCast, hv, hx] ; repeat' ((first | refine GG_split (fun hb => ?_) (fun hb => ?_) | refine GC_split (fun hb => ?_) (fun hb => ?_)) <;> simp (disch := first | assumption | omega | (simp only [az]; done)) only [ru, eq_self, if_true, if_false, BEq.rfl, binI, AO.row?, splice, fillL, mmAll, loadV, storeV, zeros, Am.rowAt, Am.part, addOff, Nat.reduceAdd, Nat.reduceMul, Nat.reduceLeDiff, Nat.reduceSub, Nat.reduceLT, Int.reduceEq, Int.reduceLT, Int.reduceLE, Int.reduceGT, Int.reduceGE, Int.reduceAdd, Int.reduceSub, Int.reduceMul, Int.reduceNeg, Int.reduceToNat, reduceCtorEq, reduceIte, s63 H, s72 H, s73, lenV_sl H.g, lenV_sl H.a, lenV_sl H.w, elem_sl Spn.el H.g, elem_sl Anc.el H.a, elem_sl Wal.el H.w, view_sl H.g, view_sl H.a, view_sl H.w, scalar_sl H.g, scalar_sl H.a, scalar_sl H.w, cells_sl H.g, cells_sl H.a, cells_sl H.w, pure_sl H.g, pure_sl H.a, pure_sl H.w, Spn.e, Anc.e, Wal.e, Spn.eta, Anc.eta, Wal.eta, Int.toNat_natCast, hv, hx, hb])
    all_goals simp only [loadR, hv, hx, if_false, if_true, Bool.false_eq_true, Bool.false_and]
  cases h1 : inR wi 0 20
  · simp (disch := first | assumption | omega | (simp only [az]; done)) only [ru, eq_self, if_true, if_false, BEq.rfl, binI, AO.row?, splice, fillL, mmAll, loadV, storeV, zeros, Am.rowAt, Am.part, addOff, Nat.reduceAdd, Nat.reduceMul, Nat.reduceLeDiff, Nat.reduceSub, Nat.reduceLT, Int.reduceEq, Int.reduceLT, Int.reduceLE, Int.reduceGT, Int.reduceGE, Int.reduceAdd, Int.reduceSub, Int.reduceMul, Int.reduceNeg, Int.reduceToNat, reduceCtorEq, reduceIte, s63 H, s72 H, s73, lenV_sl H.g, lenV_sl H.a, lenV_sl H.w, elem_sl Spn.el H.g, elem_sl Anc.el H.a, elem_sl Wal.el H.w, view_sl H.g, view_sl H.a, view_sl H.w, scalar_sl H.g, scalar_sl H.a, scalar_sl H.w, cells_sl H.g, cells_sl H.a, cells_sl H.w, pure_sl H.g, pure_sl H.a, pure_sl H.w, Spn.e, Anc.e, Wal.e, Spn.eta, Anc.eta, Wal.eta, Int.toNat_natCast, hv, hx, h1] ; repeat' ((first | refine GG_split (fun hb => ?_) (fun hb => ?_) | refine GC_split (fun hb => ?_) (fun hb => ?_)) <;> simp (disch := first | assumption | omega | (simp only [az]; done)) only [ru, eq_self, if_true, if_false, BEq.rfl, binI, AO.row?, splice, fillL, mmAll, loadV, storeV, zeros, Am.rowAt, Am.part, addOff, Nat.reduceAdd, Nat.reduceMul, Nat.reduceLeDiff, Nat.reduceSub, Nat.reduceLT, Int.reduceEq, Int.reduceLT, Int.reduceLE, Int.reduceGT, Int.reduceGE, Int.reduceAdd, Int.reduceSub, Int.reduceMul, Int.reduceNeg, Int.reduceToNat, reduceCtorEq, reduceIte, s63 H, s72 H, s73, lenV_sl H.g, lenV_sl H.a, lenV_sl H.w, elem_sl Spn.el H.g, elem_sl Anc.el H.a, elem_sl Wal.el H.w, view_sl H.g, view_sl H.a, view_sl H.w, scalar_sl H.g, scalar_sl H.a, scalar_sl H.w, cells_sl H.g, cells_sl H.a, cells_sl H.w, pure_sl H.g, pure_sl H.a, pure_sl H.w, Spn.e, Anc.e, Wal.e, Spn.eta, Anc.eta, Wal.eta, Int.toNat_natCast, hv, hx, h1, hb])
    all_goals simp only [loadR, hv, hx, h1, if_false, if_true, Bool.false_eq_true, Bool.false_and, Bool.true_and]
  cases h2 : inR cu 0 20
  · simp (disch := first | assumption | omega | (simp only [az]; done)) only [ru, eq_self, if_true, if_false, BEq.rfl, binI, AO.row?, splice, fillL, mmAll, loadV, storeV, zeros, Am.rowAt, Am.part, addOff, Nat.reduceAdd, Nat.reduceMul, Nat.reduceLeDiff, Nat.reduceSub, Nat.reduceLT, Int.reduceEq, Int.reduceLT, Int.reduceLE, Int.reduceGT, Int.reduceGE, Int.reduceAdd, Int.reduceSub, Int.reduceMul, Int.reduceNeg, Int.reduceToNat, reduceCtorEq, reduceIte, s63 H, s72 H, s73, lenV_sl H.g, lenV_sl H.a, lenV_sl H.w, elem_sl Spn.el H.g, elem_sl Anc.el H.a, elem_sl Wal.el H.w, view_sl H.g, view_sl H.a, view_sl H.w, scalar_sl H.g, scalar_sl H.a, scalar_sl H.w, cells_sl H.g, cells_sl H.a, cells_sl H.w, pure_sl H.g, pure_sl H.a, pure_sl H.w, Spn.e, Anc.e, Wal.e, Spn.eta, Anc.eta, Wal.eta, Int.toNat_natCast, hv, hx, h1, h2] ; repeat' ((first | refine GG_split (fun hb => ?_) (fun hb => ?_) | refine GC_split (fun hb => ?_) (fun hb => ?_)) <;> simp (disch := first | assumption | omega | (simp only [az]; done)) only [ru, eq_self, if_true, if_false, BEq.rfl, binI, AO.row?, splice, fillL, mmAll, loadV, storeV, zeros, Am.rowAt, Am.part, addOff, Nat.reduceAdd, Nat.reduceMul, Nat.reduceLeDiff, Nat.reduceSub, Nat.reduceLT, Int.reduceEq, Int.reduceLT, Int.reduceLE, Int.reduceGT, Int.reduceGE, Int.reduceAdd, Int.reduceSub, Int.reduceMul, Int.reduceNeg, Int.reduceToNat, reduceCtorEq, reduceIte, s63 H, s72 H, s73, lenV_sl H.g, lenV_sl H.a, lenV_sl H.w, elem_sl Spn.el H.g, elem_sl Anc.el H.a, elem_sl Wal.el H.w, view_sl H.g, view_sl H.a, view_sl H.w, scalar_sl H.g, scalar_sl H.a, scalar_sl H.w, cells_sl H.g, cells_sl H.a, cells_sl H.w, pure_sl H.g, pure_sl H.a, pure_sl H.w, Spn.e, Anc.e, Wal.e, Spn.eta, Anc.eta, Wal.eta, Int.toNat_natCast, hv, hx, h1, h2, hb])
    all_goals simp only [loadR, hv, hx, h1, h2, if_false, if_true, Bool.false_eq_true, Bool.false_and, Bool.true_and, Bool.and_self]
  have b := wallAt_b hv hx
  have hx' := inR_iff.1 hx
  have h1' := inR_iff.1 h1
  have h2' := inR_iff.1 h2
  have x0 : 0 ≤ x := hx'.1
  have x1 : x < n.walls.length := by omega
  have m1 := mul_bd b.a0 b.a1 h1'.1 h1'.2
  have m2 := mul_bd b.b0 b.b1 h2'.1 h2'.2
  have hl := s74' (wallAt n x) wi cu
  simp only [wallAt] at hl m1 m2
  simp (disch := first | assumption | omega | (simp only [az]; done)) only [ru, eq_self, if_true, if_false, BEq.rfl, binI, AO.row?, splice, fillL, mmAll, loadV, storeV, zeros, Am.rowAt, Am.part, addOff, Nat.reduceAdd, Nat.reduceMul, Nat.reduceLeDiff, Nat.reduceSub, Nat.reduceLT, Int.reduceEq, Int.reduceLT, Int.reduceLE, Int.reduceGT, Int.reduceGE, Int.reduceAdd, Int.reduceSub, Int.reduceMul, Int.reduceNeg, Int.reduceToNat, reduceCtorEq, reduceIte, s63 H, s72 H, s73, lenV_sl H.g, lenV_sl H.a, lenV_sl H.w, elem_sl Spn.el H.g, elem_sl Anc.el H.a, elem_sl Wal.el H.w, view_sl H.g, view_sl H.a, view_sl H.w, scalar_sl H.g, scalar_sl H.a, scalar_sl H.w, cells_sl H.g, cells_sl H.a, cells_sl H.w, pure_sl H.g, pure_sl H.a, pure_sl H.w, Spn.e, Anc.e, Wal.e, Spn.eta, Anc.eta, Wal.eta, Int.toNat_natCast, hv, hx, h1, h2, hl]
  simp only [loadR, hv, hx, h1, h2, wallAt, if_true, Bool.and_self]

end Go.Proofs.Ytpflneddfhifkaa.S
