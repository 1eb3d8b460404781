import Derived.Test.YtpflneddfhifkaaSc
namespace Go.Proofs.Ytpflneddfhifkaa.S
open Go Go.Am Go.Proofs.Ytpflneddfhifkaa.T
set_option maxRecDepth 100000
set_option linter.unusedSimpArgs false
set_option linter.unusedVariables false



theorem view_bv {st : Bool} {h : List AO} {k : Nat} {b : List Bool} : (b.map Bo).mapM (view st h k) = some (b.map Bo) := mapM_view fun x hx => by
  obtain ⟨y, _, rfl⟩ := List.mem_map.1 hx
  exact view_bool
theorem takeB {b : List Bool} (hb : b.length = 6) : (b.map Bo).take 6 = b.map Bo := List.take_of_length_le (by simp [hb])
theorem lenB {b : List Bool} (hb : b.length = 6) : (b.map Bo).length = 6 := by simp [hb]
theorem headB {b : List Bool} {i : Nat} (hi : i < b.length) : ((b.map Bo).drop i).head? = some (Bo (gb b i)) := by
  rw [List.head?_drop, List.getElem?_map, List.getElem?_eq_getElem hi]
  simp [gb, hi]
theorem setB {b : List Bool} {i : Nat} {x : Bool} (hi : i < b.length) : (b.map Bo).take i ++ [Bo x] ++ (b.map Bo).drop (i + 1) = (b.set i x).map Bo := by
  rw [List.map_set]
  apply List.ext_getElem?
  intro j
  rw [List.getElem?_set, List.append_assoc]
  by_cases h1 : j < i
  · rw [List.getElem?_append_left (by simp; omega), List.getElem?_take, if_pos h1, if_neg (by omega)]
  · rw [List.getElem?_append_right (by simp; omega)]
    have e : (List.take i (List.map Bo b)).length = i := by simp; omega
    rw [e]
    by_cases h2 : j = i
    · subst h2; simp [hi]
    · rw [if_neg (by omega)]
      obtain ⟨k, rfl⟩ : ∃ k, j = i + 1 + k := ⟨j - (i + 1), by omega⟩
      rw [show i + 1 + k - i = k + 1 by omega, List.singleton_append, List.getElem?_cons_succ, List.getElem?_drop]
theorem scalB {b : List Bool} : (b.map Bo).all AV.scalar = true := by
  rw [List.all_eq_true]; intro x hx; obtain ⟨y, _, rfl⟩ := List.mem_map.1 hx; rfl

theorem s121 {n : Net} {g a w : AV} (H : NetOk n g a w) {t : Tru} {v : AV} (V : TruOk t v) (G : Fair n t) {b : List Bool} (hb : b.length = 6) (x o s : Int) (ho : inR x 0 (n.walls.length - 1) = true → 0 ≤ o ∧ o < 6) (hs0 : 0 ≤ s) (hs1 : s ≤ 1000) :
    R E (.fn 121) [I x, I o, .ptr 0 0, .ptr 2 0, .ptr 1 0] [.cells [I n.wind.lo, I n.wind.hi, I n.cur.lo, I n.cur.hi, g, a, w, I t.wind, I t.cur, v] false, .cells (b.map Bo) false, .cells [I s] false] 0 =
      some (.tup [], [.cells [I n.wind.lo, I n.wind.hi, I n.cur.lo, I n.cur.hi, g, a, w, I t.wind, I t.cur, v] false, .cells (b.map Bo) false, .cells [I (if inR x 0 (n.walls.length - 1) then s + twice (gb b o.toNat) (ldI n t x.toNat) else s)] false]) := by
  have sw := H.sw
  obtain ⟨r, h', h1, h2, h3⟩ := R_of (f := 121) (fn := f121) (vs := [I x, I o, .ptr 0 0, .ptr 2 0, .ptr 1 0]) (h := [.cells [I n.wind.lo, I n.wind.hi, I n.cur.lo, I n.cur.hi, g, a, w, I t.wind, I t.cur, v] false, .cells (b.map Bo) false, .cells [I s] false]) (lim := 0)
    (fun r h' => r = AV.tup [] ∧ h' = [.cells [I n.wind.lo, I n.wind.hi, I n.cur.lo, I n.cur.hi, g, a, w, I t.wind, I t.cur, v] false, .cells (b.map Bo) false, .cells [I (if inR x 0 (n.walls.length - 1) then s + twice (gb b o.toNat) (ldI n t x.toNat) else s)] false]) (es _ _ _ _) e121 (by
    simp only [f121]
    cases hx : inR x 0 (n.walls.length - 1)
    · simp (disch := first | assumption | omega | (simp only [az]; done)) only [ru, eq_self, if_true, if_false, BEq.rfl, binI, AO.row?, splice, fillL, mmAll, loadV, storeV, zeros, Am.rowAt, Am.part, addOff, Nat.reduceAdd, Nat.reduceMul, Nat.reduceLeDiff, Nat.reduceSub, Nat.reduceLT, Int.reduceEq, Int.reduceLT, Int.reduceLE, Int.reduceGT, Int.reduceGE, Int.reduceAdd, Int.reduceSub, Int.reduceMul, Int.reduceNeg, Int.reduceToNat, reduceCtorEq, reduceIte, s69 H, lenV_sl H.g, lenV_sl H.a, lenV_sl H.w, elem_sl Spn.el H.g, elem_sl Anc.el H.a, elem_sl Wal.el H.w, view_sl H.g, view_sl H.a, view_sl H.w, scalar_sl H.g, scalar_sl H.a, scalar_sl H.w, cells_sl H.g, cells_sl H.a, cells_sl H.w, pure_sl H.g, pure_sl H.a, pure_sl H.w, Spn.e, Anc.e, Wal.e, Spn.eta, Anc.eta, Wal.eta, Int.toNat_natCast, lenV_sl V.s, elem_sl intE V.s, view_sl V.s, scalar_sl V.s, cells_sl V.s, pure_sl V.s, hx]
    · obtain ⟨ho0, ho1⟩ := ho hx
      have hx' := inR_iff.1 hx
      have x0 : 0 ≤ x := hx'.1
      have x1 : x < n.walls.length := by omega
      obtain ⟨m1, m2⟩ := good_wall G (i := x.toNat) (by omega)
      have hz := fun st => s71' (n.walls.getD x.toNat default) t.wind t.cur st m1 m2
      have hh := headB (b := b) (i := o.toNat) (by omega)
      have o2 : o.toNat < 6 := by omega
      simp (disch := first | assumption | omega | (simp only [az]; done)) only [ru, eq_self, if_true, if_false, BEq.rfl, binI, AO.row?, splice, fillL, mmAll, loadV, storeV, zeros, Am.rowAt, Am.part, addOff, Nat.reduceAdd, Nat.reduceMul, Nat.reduceLeDiff, Nat.reduceSub, Nat.reduceLT, Int.reduceEq, Int.reduceLT, Int.reduceLE, Int.reduceGT, Int.reduceGE, Int.reduceAdd, Int.reduceSub, Int.reduceMul, Int.reduceNeg, Int.reduceToNat, reduceCtorEq, reduceIte, s69 H, lenV_sl H.g, lenV_sl H.a, lenV_sl H.w, elem_sl Spn.el H.g, elem_sl Anc.el H.a, elem_sl Wal.el H.w, view_sl H.g, view_sl H.a, view_sl H.w, scalar_sl H.g, scalar_sl H.a, scalar_sl H.w, cells_sl H.g, cells_sl H.a, cells_sl H.w, pure_sl H.g, pure_sl H.a, pure_sl H.w, Spn.e, Anc.e, Wal.e, Spn.eta, Anc.eta, Wal.eta, Int.toNat_natCast, lenV_sl V.s, elem_sl intE V.s, view_sl V.s, scalar_sl V.s, cells_sl V.s, pure_sl V.s, hx, hz, ho0, ho1, hh, lenB hb, Nat.mul_one]
      cases hd : gb b o.toNat
      all_goals
        simp (disch := first | assumption | omega | (simp only [az]; done)) only [ru, eq_self, if_true, if_false, BEq.rfl, binI, AO.row?, splice, fillL, mmAll, loadV, storeV, zeros, Am.rowAt, Am.part, addOff, Nat.reduceAdd, Nat.reduceMul, Nat.reduceLeDiff, Nat.reduceSub, Nat.reduceLT, Int.reduceEq, Int.reduceLT, Int.reduceLE, Int.reduceGT, Int.reduceGE, Int.reduceAdd, Int.reduceSub, Int.reduceMul, Int.reduceNeg, Int.reduceToNat, reduceCtorEq, reduceIte, twice, ldI]
      all_goals simp only [Int.add_assoc])
  rw [h1, h2, h3]

theorem s119 {n : Net} {g a w : AV} (H : NetOk n g a w) {t : Tru} {v : AV} (V : TruOk t v) (G : Fair n t) {b : List Bool} (hb : b.length = 6) {i : Nat} (hi : i < n.ancs.length) (st : Bool) :
    Iso E 119 [.agg [I n.wind.lo, I n.wind.hi, I n.cur.lo, I n.cur.hi, g, a, w, I t.wind, I t.cur, v], I i, .agg (b.map Bo)] st = some (I (bearsI n t i (gb b))) := by
  have B := netB G.v
  have la := B.la; have lw := B.lw
  have c1 := s121 H V G hb ((i : Int) - 1) ((i : Int) - 1) 0 (fun h => by rw [inR_iff] at h; omega) (by omega) (by omega)
  obtain ⟨s1, hs1⟩ : ∃ s1, s1 = (if inR ((i : Int) - 1) 0 (n.walls.length - 1) then 0 + twice (gb b ((i : Int) - 1).toNat) (ldI n t ((i : Int) - 1).toNat) else 0) := ⟨_, rfl⟩
  rw [← hs1] at c1
  have q1 : s1 = (if 0 < i then twice (gb b (i - 1)) (ldI n t (i - 1)) else 0) := by
    rw [hs1]
    have e : ((i : Int) - 1).toNat = i - 1 := by omega
    by_cases h : 0 < i
    · have : inR ((i : Int) - 1) 0 (n.walls.length - 1) = true := inR_iff.2 (by omega)
      rw [if_pos this, if_pos h, e, Int.zero_add]
    · have : ¬ inR ((i : Int) - 1) 0 (n.walls.length - 1) = true := fun hh => by rw [inR_iff] at hh; omega
      rw [if_neg this, if_neg h]
  have tw : ∀ (k : Nat) (d : Bool), k < n.walls.length → 0 ≤ twice d (ldI n t k) ∧ twice d (ldI n t k) ≤ 720 := fun k d hk => by
    have := good_ld G hk
    unfold twice; split <;> omega
  have b1 : 0 ≤ s1 ∧ s1 ≤ 720 := by
    rw [q1]; split
    · exact tw _ _ (by omega)
    · omega
  have c2 := s121 H V G hb (i : Int) ((i : Int) + 1) s1 (fun h => by rw [inR_iff] at h; omega) b1.1 (by omega)
  obtain ⟨s2, hs2⟩ : ∃ s2, s2 = (if inR (i : Int) 0 (n.walls.length - 1) then s1 + twice (gb b ((i : Int) + 1).toNat) (ldI n t (i : Int).toNat) else s1) := ⟨_, rfl⟩
  rw [← hs2] at c2
  have q2 : s2 = bearsI n t i (gb b) := by
    rw [hs2, bearsI, q1]
    have e : ((i : Int) + 1).toNat = i + 1 := by omega
    by_cases h : i + 1 < n.ancs.length
    · have : inR (i : Int) 0 (n.walls.length - 1) = true := inR_iff.2 (by omega)
      rw [if_pos this, if_pos h, e, Int.toNat_natCast]
    · have : ¬ inR (i : Int) 0 (n.walls.length - 1) = true := fun hh => by rw [inR_iff] at hh; omega
      rw [if_neg this, if_neg h, Int.add_zero]
  rw [← q2]
  refine Iso_of (es _ _ _ _) e119 ?_
  simp only [f119]
  simp (disch := first | assumption | omega | (simp only [az]; done)) only [ru, eq_self, if_true, if_false, BEq.rfl, binI, AO.row?, splice, fillL, mmAll, loadV, storeV, zeros, Am.rowAt, Am.part, addOff, Nat.reduceAdd, Nat.reduceMul, Nat.reduceLeDiff, Nat.reduceSub, Nat.reduceLT, Int.reduceEq, Int.reduceLT, Int.reduceLE, Int.reduceGT, Int.reduceGE, Int.reduceAdd, Int.reduceSub, Int.reduceMul, Int.reduceNeg, Int.reduceToNat, reduceCtorEq, reduceIte, c1, c2]

theorem s94 {n : Net} {g a w : AV} (H : NetOk n g a w) {t : Tru} {v : AV} (V : TruOk t v) (G : Fair n t) {b : List Bool} (hb : b.length = 6) {i : Nat} (hi : i < n.ancs.length) (st : Bool) :
    Iso E 94 [.agg [I n.wind.lo, I n.wind.hi, I n.cur.lo, I n.cur.hi, g, a, w, I t.wind, I t.cur, v], I i, .agg (b.map Bo)] st = some (I (canI n t i - bearsI n t i (gb b))) := by
  have B := netB G.v
  have la := B.la; have lw := B.lw
  have hi' : (i : Int) < n.ancs.length := by omega
  obtain ⟨w0, w1, b0, b1, m0, m1⟩ := good_anc G hi
  have tw : ∀ (k : Nat) (d : Bool), k < n.walls.length → 0 ≤ twice d (ldI n t k) ∧ twice d (ldI n t k) ≤ 720 := fun k d hk => by
    have := good_ld G hk
    unfold twice; split <;> omega
  have bb : 0 ≤ bearsI n t i (gb b) ∧ bearsI n t i (gb b) ≤ 1440 := by
    unfold bearsI
    have h1 := tw (i - 1) (gb b (i - 1))
    have h2 := tw i (gb b (i + 1))
    split <;> split <;> omega
  obtain ⟨bb0, bb1⟩ := bb
  refine Iso_of (es _ _ _ _) e94 ?_
  simp only [f94]
  simp (disch := first | assumption | omega | (simp only [az]; done)) only [ru, eq_self, if_true, if_false, BEq.rfl, binI, AO.row?, splice, fillL, mmAll, loadV, storeV, zeros, Am.rowAt, Am.part, addOff, Nat.reduceAdd, Nat.reduceMul, Nat.reduceLeDiff, Nat.reduceSub, Nat.reduceLT, Int.reduceEq, Int.reduceLT, Int.reduceLE, Int.reduceGT, Int.reduceGE, Int.reduceAdd, Int.reduceSub, Int.reduceMul, Int.reduceNeg, Int.reduceToNat, reduceCtorEq, reduceIte, lenV_sl H.g, lenV_sl H.a, lenV_sl H.w, elem_sl Spn.el H.g, elem_sl Anc.el H.a, elem_sl Wal.el H.w, view_sl H.g, view_sl H.a, view_sl H.w, scalar_sl H.g, scalar_sl H.a, scalar_sl H.w, cells_sl H.g, cells_sl H.a, cells_sl H.w, pure_sl H.g, pure_sl H.a, pure_sl H.w, Spn.e, Anc.e, Wal.e, Spn.eta, Anc.eta, Wal.eta, Int.toNat_natCast, lenV_sl V.s, elem_sl intE V.s, view_sl V.s, scalar_sl V.s, cells_sl V.s, pure_sl V.s, view_bv, takeB hb, lenB hb, Nat.mul_one, hi', s119 H V G hb hi]
  simp only [canI]
end Go.Proofs.Ytpflneddfhifkaa.S
