/-
By how much each anchor must be heavier: Need.
-/
import Derived.Test.YtpflneddfhifkaaHm
namespace Go.Proofs.Ytpflneddfhifkaa.S
open Go Go.Am Go.Proofs.Ytpflneddfhifkaa.T
set_option maxRecDepth 100000
set_option linter.unusedSimpArgs false
set_option linter.unusedVariables false

def gripI (n : Net) (t : Tru) (i : Nat) : Int := t.grips.getD (n.ancs.getD i default).b.toNat default
/-- the first number, from one on, with which it is enough -/
def ndGo (s g : Int) : Nat → Nat → Nat
  | 0, m => m
  | f + 1, m => if s + 2 * (m : Int) * g ≥ 0 then m else ndGo s g f (m + 1)
theorem ndGo_ge {s g : Int} : ∀ {f m : Nat}, m ≤ ndGo s g f m ∧ ndGo s g f m ≤ m + f
  | 0, m => ⟨Nat.le_refl _, Nat.le_refl _⟩
  | f + 1, m => by
    rw [ndGo]; split
    · omega
    · have := ndGo_ge (s := s) (g := g) (f := f) (m := m + 1); omega
theorem ndGo_no {s g : Int} : ∀ {f m j : Nat}, m ≤ j → j < ndGo s g f m → ¬ s + 2 * (j : Int) * g ≥ 0
  | 0, m, j, h, h2 => by rw [ndGo] at h2; omega
  | f + 1, m, j, h, h2 => by
    rw [ndGo] at h2
    split at h2
    · omega
    · rename_i hs
      by_cases e : m = j
      · subst e; exact hs
      · exact ndGo_no (f := f) (m := m + 1) (by omega) h2
theorem ndGo_yes {s g : Int} : ∀ {f m : Nat}, ndGo s g f m < m + f → s + 2 * (ndGo s g f m : Int) * g ≥ 0
  | 0, m, h => by rw [ndGo] at h; omega
  | f + 1, m, h => by
    by_cases hs : s + 2 * (m : Int) * g ≥ 0
    · have e : ndGo s g (f + 1) m = m := by rw [ndGo, if_pos hs]
      rw [e]; exact hs
    · have e : ndGo s g (f + 1) m = ndGo s g f (m + 1) := by rw [ndGo, if_neg hs]
      rw [e] at h ⊢
      exact ndGo_yes (by omega)

/-- how much heavier there can be, and one -/
def roomI (n : Net) (i : Nat) : Nat := (20 - (n.ancs.getD i default).w + 1).toNat
def ndT (n : Net) (t : Tru) (i : Nat) : Nat := ndGo (spareI n t i) (gripI n t i) (roomI n i) 0
def ndOk (n : Net) (t : Tru) (i : Nat) : Bool := decide (ndT n t i < roomI n i)

theorem s100 {n : Net} {g a w : AV} (H : NetOk n g a w) {t : Tru} {v : AV} (V : TruOk t v) (G : Fair n t) {i : Nat} (hi : i < n.ancs.length) (st : Bool) :
    Iso E 100 [netT n g a w t v, I i] st = some (.tup [I (if ndOk n t i then ndT n t i else 0), Bo (ndOk n t i)]) := by
  have q := fun st => s94 H V G (b := zeros6) rfl hi st
  rw [gb_zeros] at q
  simp only [spareI_eq] at q
  simp only [zeros6, List.map_cons, List.map_nil] at q
  obtain ⟨w0, w1, b0, b1, c0, c1⟩ := good_anc G hi
  have gg := (good_tru G).2.2.2 (n.ancs.getD i default).b.toNat (by omega)
  have bb := bears_bd G hi none6
  have sp : -1440 ≤ spareI n t i ∧ spareI n t i ≤ 360 := by unfold spareI canI; omega
  have h0 : (0 : Int) ≤ i := by omega
  have hi' : (i : Int) < n.ancs.length := by omega
  have hroom : (roomI n i : Int) = 20 - (n.ancs.getD i default).w + 1 := by unfold roomI; omega
  obtain ⟨N, hN⟩ : ∃ N, N = roomI n i := ⟨_, rfl⟩
  obtain ⟨s, hs⟩ : ∃ s, s = spareI n t i := ⟨_, rfl⟩
  obtain ⟨y, hy⟩ : ∃ y, y = ndT n t i := ⟨_, rfl⟩
  have hy' : ndGo s (gripI n t i) N 0 = y := by rw [hy, hs, hN]; rfl
  obtain ⟨ok, hok⟩ : ∃ ok, ok = ndOk n t i := ⟨_, rfl⟩
  have hok' : ok = decide (y < N) := by rw [hok, hy, hN]; rfl
  rw [← hok, ← hy]
  unfold gripI at hy'
  obtain ⟨z, hz⟩ : ∃ z, z = t.grips.getD (n.ancs.getD i default).b.toNat default := ⟨_, rfl⟩
  obtain ⟨wt, hwt⟩ : ∃ wt, wt = n.ancs.getD i default := ⟨_, rfl⟩
  simp only [← hwt] at w0 w1 b0 b1 gg hroom hz hy'
  rw [← hz] at gg hy'
  rw [← hN] at hroom
  simp only [← hs] at q sp
  refine Iso_of (es _ _ _ _) e100 ?_
  simp only [f100, netT]
  simp (disch := first | assumption | omega | (simp only [az]; done)) only [ru, eq_self, if_true, if_false, BEq.rfl, binI, AO.row?, splice, fillL, mmAll, loadV, storeV, zeros, Am.rowAt, Am.part, addOff, Nat.reduceAdd, Nat.reduceMul, Nat.reduceLeDiff, Nat.reduceSub, Nat.reduceLT, Int.reduceEq, Int.reduceLT, Int.reduceLE, Int.reduceGT, Int.reduceGE, Int.reduceAdd, Int.reduceSub, Int.reduceMul, Int.reduceNeg, Int.reduceToNat, reduceCtorEq, reduceIte, lenV_sl H.g, lenV_sl H.a, lenV_sl H.w, elem_sl Spn.el H.g, elem_sl Anc.el H.a, elem_sl Wal.el H.w, view_sl H.g, view_sl H.a, view_sl H.w, scalar_sl H.g, scalar_sl H.a, scalar_sl H.w, cells_sl H.g, cells_sl H.a, cells_sl H.w, pure_sl H.g, pure_sl H.a, pure_sl H.w, Spn.e, Anc.e, Wal.e, Spn.eta, Anc.eta, Wal.eta, Int.toNat_natCast, lenV_sl V.s, elem_sl intE V.s, view_sl V.s, scalar_sl V.s, cells_sl V.s, pure_sl V.s, hi', ← hwt]
  refine G_loop_ind (fun m ts h mk => ∃ (j : Nat), j ≤ N ∧ m = N - j ∧ ndGo s z (N - j) j = y ∧ ts.length = 42 ∧ ts.getD 1 .undef = I i ∧ ts.getD 2 .undef = .ptr 0 0 ∧ ts.getD 15 .undef = I N ∧ ts.getD 16 .undef = I j ∧
    h = [.cells [I n.wind.lo, I n.wind.hi, I n.cur.lo, I n.cur.hi, g, a, w, I t.wind, I t.cur, v] false] ∧ mk = []) ?_ _ _ _ _ ⟨0, Nat.zero_le _, rfl, hy', rfl, rfl, rfl, by rw [hroom]; rfl, rfl, rfl, rfl⟩
  rintro m ts h mk ih ⟨j, hj, rfl, hg, hl, q1, q2, q15, q16, rfl, rfl⟩
  rw [lit_all hl]
  simp only [lit0, litS, Nat.reduceAdd, q1, q2, q15, q16]
  simp (disch := first | assumption | omega | (simp only [az]; done)) only [ru, eq_self, if_true, if_false, BEq.rfl, binI, AO.row?, splice, fillL, mmAll, loadV, storeV, zeros, Am.rowAt, Am.part, addOff, Nat.reduceAdd, Nat.reduceMul, Nat.reduceLeDiff, Nat.reduceSub, Nat.reduceLT, Int.reduceEq, Int.reduceLT, Int.reduceLE, Int.reduceGT, Int.reduceGE, Int.reduceAdd, Int.reduceSub, Int.reduceMul, Int.reduceNeg, Int.reduceToNat, reduceCtorEq, reduceIte]
  by_cases hlt : (j : Int) < N
  case pos =>
    have e : N - j = (N - (j + 1)) + 1 := by omega
    rw [e, ndGo] at hg
    have m1 := mul_bd (a := 2 * (j : Int)) (m := 40) (by omega) (by omega) gg.1 gg.2
    by_cases hq : s + 2 * (j : Int) * z ≥ 0
    · rw [if_pos hq] at hg
      subst hg
      have o1 : ok = true := by rw [hok', decide_eq_true_eq]; omega
      simp (disch := first | assumption | omega | (simp only [az]; done)) only [ru, eq_self, if_true, if_false, BEq.rfl, binI, AO.row?, splice, fillL, mmAll, loadV, storeV, zeros, Am.rowAt, Am.part, addOff, Nat.reduceAdd, Nat.reduceMul, Nat.reduceLeDiff, Nat.reduceSub, Nat.reduceLT, Int.reduceEq, Int.reduceLT, Int.reduceLE, Int.reduceGT, Int.reduceGE, Int.reduceAdd, Int.reduceSub, Int.reduceMul, Int.reduceNeg, Int.reduceToNat, reduceCtorEq, reduceIte, lenV_sl H.g, lenV_sl H.a, lenV_sl H.w, elem_sl Spn.el H.g, elem_sl Anc.el H.a, elem_sl Wal.el H.w, view_sl H.g, view_sl H.a, view_sl H.w, scalar_sl H.g, scalar_sl H.a, scalar_sl H.w, cells_sl H.g, cells_sl H.a, cells_sl H.w, pure_sl H.g, pure_sl H.a, pure_sl H.w, Spn.e, Anc.e, Wal.e, Spn.eta, Anc.eta, Wal.eta, Int.toNat_natCast, lenV_sl V.s, elem_sl intE V.s, view_sl V.s, scalar_sl V.s, cells_sl V.s, pure_sl V.s, hlt, q, hi', ← hwt, ← hz, hq, o1]
    · rw [if_neg hq] at hg
      simp (disch := first | assumption | omega | (simp only [az]; done)) only [ru, eq_self, if_true, if_false, BEq.rfl, binI, AO.row?, splice, fillL, mmAll, loadV, storeV, zeros, Am.rowAt, Am.part, addOff, Nat.reduceAdd, Nat.reduceMul, Nat.reduceLeDiff, Nat.reduceSub, Nat.reduceLT, Int.reduceEq, Int.reduceLT, Int.reduceLE, Int.reduceGT, Int.reduceGE, Int.reduceAdd, Int.reduceSub, Int.reduceMul, Int.reduceNeg, Int.reduceToNat, reduceCtorEq, reduceIte, lenV_sl H.g, lenV_sl H.a, lenV_sl H.w, elem_sl Spn.el H.g, elem_sl Anc.el H.a, elem_sl Wal.el H.w, view_sl H.g, view_sl H.a, view_sl H.w, scalar_sl H.g, scalar_sl H.a, scalar_sl H.w, cells_sl H.g, cells_sl H.a, cells_sl H.w, pure_sl H.g, pure_sl H.a, pure_sl H.w, Spn.e, Anc.e, Wal.e, Spn.eta, Anc.eta, Wal.eta, Int.toNat_natCast, lenV_sl V.s, elem_sl intE V.s, view_sl V.s, scalar_sl V.s, cells_sl V.s, pure_sl V.s, hlt, q, hi', ← hwt, ← hz, hq]
      exact ih (N - (j + 1)) _ _ _ (by omega) ⟨j + 1, by omega, rfl, hg, rfl, rfl, rfl, rfl, rfl, rfl, rfl⟩
  obtain rfl : j = N := by omega
  have hg' : y = j := by rw [← hg, Nat.sub_self]; rfl
  have o1 : ok = false := by rw [hok', decide_eq_false_iff_not]; omega
  simp (disch := first | assumption | omega | (simp only [az]; done)) only [ru, eq_self, if_true, if_false, BEq.rfl, binI, AO.row?, splice, fillL, mmAll, loadV, storeV, zeros, Am.rowAt, Am.part, addOff, Nat.reduceAdd, Nat.reduceMul, Nat.reduceLeDiff, Nat.reduceSub, Nat.reduceLT, Int.reduceEq, Int.reduceLT, Int.reduceLE, Int.reduceGT, Int.reduceGE, Int.reduceAdd, Int.reduceSub, Int.reduceMul, Int.reduceNeg, Int.reduceToNat, reduceCtorEq, reduceIte, hlt, o1]

theorem out_viewk {b : Nat} {h : List AO} {v : AV} {l : List Int} (H : OutSl b h v l) {st : Bool} {k : Nat} : view st h (k + 1) v = some (resL l) := by
  rcases H with ⟨rfl, rfl⟩ | ⟨hne, o, ho, rfl, hc⟩
  · rfl
  · have e : (l.flatMap fun n => [I n]).take (l.length * 1) = l.flatMap fun n => [I n] := List.take_of_length_le (by rw [flat1]; omega)
    rw [Nat.mul_one] at e
    simp only [view_ms, rowOf_ms, Am.rowAt, hc, Option.bind_some, AO.row?, List.drop_zero, Nat.mul_one, e, flat1, if_true, resL, hne, if_false]
    rw [flat_view (enc := fun n : Int => [I n]) (fun a x hx => ⟨_, _, by simpa using hx⟩)]
    rfl

/-- what Need answers, if there is an answer -/
def ndl (n : Net) (k : Nat) : List Int := (List.range k).map fun i => (ndT n (rough n) i : Int)
theorem ndl_succ {n : Net} {k : Nat} : ndl n (k + 1) = ndl n k ++ [(ndT n (rough n) k : Int)] := by
  unfold ndl; rw [List.range_succ, List.map_append]; rfl
theorem ndl_len {n : Net} {k : Nat} : (ndl n k).length = k := by simp [ndl]
def ndAll (n : Net) : Bool := (List.range n.ancs.length).all fun i => ndOk n (rough n) i

theorem s49 {n : Net} {g a w : AV} (H : NetOk n g a w) (hv : n.valid = true) (st : Bool) : Iso E 49 [netV n g a w] st = some (.tup [if ndAll n then resL (ndl n n.ancs.length) else .nils, I (if ndAll n then 0 else 3)]) := by
  have B := netB hv
  have lg := B.lg; have la := B.la
  have q := fun i hi st => s100 H (rough_ok H) (rough_good hv).toFair (i := i) hi st
  refine Iso_of (es _ _ _ _) e49 ?_
  simp only [f49, netV]
  simp only [netT] at q
  obtain ⟨A, hA⟩ : ∃ A, A = ndAll n := ⟨_, rfl⟩
  have hA' : A = (List.range n.ancs.length).all fun i => ndOk n (rough n) i := hA
  rw [← hA]
  simp (disch := first | assumption | omega | (simp only [az]; done)) only [ru, eq_self, if_true, if_false, BEq.rfl, binI, AO.row?, splice, fillL, mmAll, loadV, storeV, zeros, Am.rowAt, Am.part, addOff, Nat.reduceAdd, Nat.reduceMul, Nat.reduceLeDiff, Nat.reduceSub, Nat.reduceLT, Int.reduceEq, Int.reduceLT, Int.reduceLE, Int.reduceGT, Int.reduceGE, Int.reduceAdd, Int.reduceSub, Int.reduceMul, Int.reduceNeg, Int.reduceToNat, reduceCtorEq, reduceIte, lenV_sl H.g, lenV_sl H.a, lenV_sl H.w, elem_sl Spn.el H.g, elem_sl Anc.el H.a, elem_sl Wal.el H.w, view_sl H.g, view_sl H.a, view_sl H.w, scalar_sl H.g, scalar_sl H.a, scalar_sl H.w, cells_sl H.g, cells_sl H.a, cells_sl H.w, pure_sl H.g, pure_sl H.a, pure_sl H.w, Spn.e, Anc.e, Wal.e, Spn.eta, Anc.eta, Wal.eta, Int.toNat_natCast, s18 H, hv]
  refine G_loop_ind (fun m ts h mk => ∃ (i : Nat) (J : List AO) (o : AV), i ≤ n.ancs.length ∧ m = n.ancs.length - i ∧ ((List.range i).all fun i => ndOk n (rough n) i) = true ∧ ts.length = 35 ∧ ts.getD 1 .undef = .ptr 0 0 ∧
    ts.getD 5 .undef = o ∧ ts.getD 16 .undef = I n.ancs.length ∧ ts.getD 17 .undef = I i ∧ OutSl 1 (.cells [I n.wind.lo, I n.wind.hi, I n.cur.lo, I n.cur.hi, g, a, w] false :: J) o (ndl n i) ∧ h = .cells [I n.wind.lo, I n.wind.hi, I n.cur.lo, I n.cur.hi, g, a, w] false :: J ∧ mk = []) ?_ _ _ _ _
      ⟨0, [], .nils, Nat.zero_le _, rfl, rfl, rfl, rfl, rfl, rfl, rfl, .inl ⟨rfl, rfl⟩, rfl, rfl⟩
  rintro m ts h mk ih ⟨i, J, o, hi, rfl, hall, hl, q1, q5, q16, q17, ho, rfl, rfl⟩
  rw [lit_all hl]
  simp only [lit0, litS, Nat.reduceAdd, q1, q5, q16, q17]
  simp (disch := first | assumption | omega | (simp only [az]; done)) only [ru, eq_self, if_true, if_false, BEq.rfl, binI, AO.row?, splice, fillL, mmAll, loadV, storeV, zeros, Am.rowAt, Am.part, addOff, Nat.reduceAdd, Nat.reduceMul, Nat.reduceLeDiff, Nat.reduceSub, Nat.reduceLT, Int.reduceEq, Int.reduceLT, Int.reduceLE, Int.reduceGT, Int.reduceGE, Int.reduceAdd, Int.reduceSub, Int.reduceMul, Int.reduceNeg, Int.reduceToNat, reduceCtorEq, reduceIte, lenV_sl H.g, lenV_sl H.a, lenV_sl H.w, elem_sl Spn.el H.g, elem_sl Anc.el H.a, elem_sl Wal.el H.w, view_sl H.g, view_sl H.a, view_sl H.w, scalar_sl H.g, scalar_sl H.a, scalar_sl H.w, cells_sl H.g, cells_sl H.a, cells_sl H.w, pure_sl H.g, pure_sl H.a, pure_sl H.w, Spn.e, Anc.e, Wal.e, Spn.eta, Anc.eta, Wal.eta, Int.toNat_natCast]
  by_cases hlt : (i : Int) < n.ancs.length
  case pos =>
    have hi' : i < n.ancs.length := by omega
    have q' := fun st => q i hi' st
    cases hb : ndOk n (rough n) i
    · simp only [hb] at q'
      have A0 : A = false := by rw [hA']; exact range_not hi' hb
      simp (disch := first | assumption | omega | (simp only [az]; done)) only [ru, eq_self, if_true, if_false, BEq.rfl, binI, AO.row?, splice, fillL, mmAll, loadV, storeV, zeros, Am.rowAt, Am.part, addOff, Nat.reduceAdd, Nat.reduceMul, Nat.reduceLeDiff, Nat.reduceSub, Nat.reduceLT, Int.reduceEq, Int.reduceLT, Int.reduceLE, Int.reduceGT, Int.reduceGE, Int.reduceAdd, Int.reduceSub, Int.reduceMul, Int.reduceNeg, Int.reduceToNat, reduceCtorEq, reduceIte, lenV_sl H.g, lenV_sl H.a, lenV_sl H.w, elem_sl Spn.el H.g, elem_sl Anc.el H.a, elem_sl Wal.el H.w, view_sl H.g, view_sl H.a, view_sl H.w, scalar_sl H.g, scalar_sl H.a, scalar_sl H.w, cells_sl H.g, cells_sl H.a, cells_sl H.w, pure_sl H.g, pure_sl H.a, pure_sl H.w, Spn.e, Anc.e, Wal.e, Spn.eta, Anc.eta, Wal.eta, Int.toNat_natCast, hlt, s90 H lg, q', resL_sc, resL_ce, resL_pu, resL_vi, A0]
    · simp only [hb, if_true] at q'
      obtain ⟨v', J', ha, ho'⟩ := out_app (pre := [.cells [I n.wind.lo, I n.wind.hi, I n.cur.lo, I n.cur.hi, g, a, w] false]) (J := J) (v := o) (l := ndl n i) (lim := 0) ho (Nat.zero_le _) (by rw [ndl_len]; omega) (ndT n (rough n) i : Int)
      simp only [apC, apN, lenS, len0, Nat.zero_add] at ha ho'
      rw [← ndl_succ] at ho'
      simp (disch := first | assumption | omega | (simp only [az]; done)) only [ru, eq_self, if_true, if_false, BEq.rfl, binI, AO.row?, splice, fillL, mmAll, loadV, storeV, zeros, Am.rowAt, Am.part, addOff, Nat.reduceAdd, Nat.reduceMul, Nat.reduceLeDiff, Nat.reduceSub, Nat.reduceLT, Int.reduceEq, Int.reduceLT, Int.reduceLE, Int.reduceGT, Int.reduceGE, Int.reduceAdd, Int.reduceSub, Int.reduceMul, Int.reduceNeg, Int.reduceToNat, reduceCtorEq, reduceIte, lenV_sl H.g, lenV_sl H.a, lenV_sl H.w, elem_sl Spn.el H.g, elem_sl Anc.el H.a, elem_sl Wal.el H.w, view_sl H.g, view_sl H.a, view_sl H.w, scalar_sl H.g, scalar_sl H.a, scalar_sl H.w, cells_sl H.g, cells_sl H.a, cells_sl H.w, pure_sl H.g, pure_sl H.a, pure_sl H.w, Spn.e, Anc.e, Wal.e, Spn.eta, Anc.eta, Wal.eta, Int.toNat_natCast, hlt, s90 H lg, q', resL_sc, resL_ce, resL_pu, resL_vi, ha]
      exact ih (n.ancs.length - (i + 1)) _ _ _ (by omega) ⟨i + 1, J', v', by omega, rfl, range_all_succ hall hb, rfl, rfl, rfl, rfl, rfl, ho', rfl, rfl⟩
  obtain rfl : i = n.ancs.length := by omega
  have A1 : A = true := by rw [hA']; exact hall
  simp (disch := first | assumption | omega | (simp only [az]; done)) only [ru, eq_self, if_true, if_false, BEq.rfl, binI, AO.row?, splice, fillL, mmAll, loadV, storeV, zeros, Am.rowAt, Am.part, addOff, Nat.reduceAdd, Nat.reduceMul, Nat.reduceLeDiff, Nat.reduceSub, Nat.reduceLT, Int.reduceEq, Int.reduceLT, Int.reduceLE, Int.reduceGT, Int.reduceGE, Int.reduceAdd, Int.reduceSub, Int.reduceMul, Int.reduceNeg, Int.reduceToNat, reduceCtorEq, reduceIte, hlt, A1]
  rw [out_viewk ho]
  rfl
end Go.Proofs.Ytpflneddfhifkaa.S
