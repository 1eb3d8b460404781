import Derived.Test.YtpflneddfhifkaaSd
namespace Go.Proofs.Ytpflneddfhifkaa.S
open Go Go.Am Go.Proofs.Ytpflneddfhifkaa.T
set_option maxRecDepth 100000
set_option linter.unusedSimpArgs false
set_option linter.unusedVariables false



theorem s81 {b : List Bool} (hb : b.length = 6) (st : Bool) : Iso E 81 [.agg (b.map Bo)] st = some (resL (upto (gb b) 6)) := by
  refine Iso_of (es _ _ _ _) e81 ?_
  simp only [f81]
  simp (disch := first | assumption | omega | (simp only [az]; done)) only [ru, eq_self, if_true, if_false, BEq.rfl, binI, AO.row?, splice, fillL, mmAll, loadV, storeV, zeros, Am.rowAt, Am.part, addOff, Nat.reduceAdd, Nat.reduceMul, Nat.reduceLeDiff, Nat.reduceSub, Nat.reduceLT, Int.reduceEq, Int.reduceLT, Int.reduceLE, Int.reduceGT, Int.reduceGE, Int.reduceAdd, Int.reduceSub, Int.reduceMul, Int.reduceNeg, Int.reduceToNat, reduceCtorEq, reduceIte, view_bv, takeB hb, lenB hb, Nat.mul_one]
  refine G_loop_ind (fun m ts h mk => ∃ (i : Nat) (J : List AO) (o : AV), i ≤ 6 ∧ m = 6 - i ∧ ts.length = 18 ∧ ts.getD 3 .undef = o ∧
    ts.getD 6 .undef = .agg (b.map Bo) ∧ ts.getD 7 .undef = I i ∧ OutSl 1 (.cells (b.map Bo) false :: J) o (upto (gb b) i) ∧ h = .cells (b.map Bo) false :: J ∧ mk = []) ?_ _ _ _ _
      ⟨0, [], .nils, Nat.zero_le _, rfl, rfl, rfl, rfl, rfl, .inl ⟨rfl, rfl⟩, rfl, rfl⟩
  rintro m ts h mk ih ⟨i, J, o, hi, rfl, hl, q3, q6, q7, ho, rfl, rfl⟩
  rw [lit_all hl]
  simp only [lit0, litS, Nat.reduceAdd, q3, q6, q7]
  simp (disch := first | assumption | omega | (simp only [az]; done)) only [ru, eq_self, if_true, if_false, BEq.rfl, binI, AO.row?, splice, fillL, mmAll, loadV, storeV, zeros, Am.rowAt, Am.part, addOff, Nat.reduceAdd, Nat.reduceMul, Nat.reduceLeDiff, Nat.reduceSub, Nat.reduceLT, Int.reduceEq, Int.reduceLT, Int.reduceLE, Int.reduceGT, Int.reduceGE, Int.reduceAdd, Int.reduceSub, Int.reduceMul, Int.reduceNeg, Int.reduceToNat, reduceCtorEq, reduceIte]
  by_cases hlt : (i : Int) < 6
  case pos =>
    have hh := headB (b := b) (i := i) (by omega)
    obtain ⟨v', J', ha, ho'⟩ := out_app (pre := [.cells (b.map Bo) false]) (J := J) (v := o) (l := upto (gb b) i) (lim := 0) ho (Nat.zero_le _) (by have := upto_len (p := gb b) (i := i); omega) (i : Int)
    simp only [apC, apN, lenS, len0, Nat.zero_add] at ha ho'
    have h0 : (0 : Int) ≤ i := by omega
    simp (disch := first | assumption | omega | (simp only [az]; done)) only [ru, eq_self, if_true, if_false, BEq.rfl, binI, AO.row?, splice, fillL, mmAll, loadV, storeV, zeros, Am.rowAt, Am.part, addOff, Nat.reduceAdd, Nat.reduceMul, Nat.reduceLeDiff, Nat.reduceSub, Nat.reduceLT, Int.reduceEq, Int.reduceLT, Int.reduceLE, Int.reduceGT, Int.reduceGE, Int.reduceAdd, Int.reduceSub, Int.reduceMul, Int.reduceNeg, Int.reduceToNat, reduceCtorEq, reduceIte, hlt, h0, Int.toNat_natCast, Nat.mul_one, hh]
    cases hd : gb b i
    · simp (disch := first | assumption | omega | (simp only [az]; done)) only [ru, eq_self, if_true, if_false, BEq.rfl, binI, AO.row?, splice, fillL, mmAll, loadV, storeV, zeros, Am.rowAt, Am.part, addOff, Nat.reduceAdd, Nat.reduceMul, Nat.reduceLeDiff, Nat.reduceSub, Nat.reduceLT, Int.reduceEq, Int.reduceLT, Int.reduceLE, Int.reduceGT, Int.reduceGE, Int.reduceAdd, Int.reduceSub, Int.reduceMul, Int.reduceNeg, Int.reduceToNat, reduceCtorEq, reduceIte]
      exact ih (6 - (i + 1)) _ _ _ (by omega) ⟨i + 1, J, o, by omega, rfl, rfl, rfl, rfl, rfl, by rw [upto_no hd]; exact ho, rfl, rfl⟩
    · simp (disch := first | assumption | omega | (simp only [az]; done)) only [ru, eq_self, if_true, if_false, BEq.rfl, binI, AO.row?, splice, fillL, mmAll, loadV, storeV, zeros, Am.rowAt, Am.part, addOff, Nat.reduceAdd, Nat.reduceMul, Nat.reduceLeDiff, Nat.reduceSub, Nat.reduceLT, Int.reduceEq, Int.reduceLT, Int.reduceLE, Int.reduceGT, Int.reduceGE, Int.reduceAdd, Int.reduceSub, Int.reduceMul, Int.reduceNeg, Int.reduceToNat, reduceCtorEq, reduceIte, ha]
      exact ih (6 - (i + 1)) _ _ _ (by omega) ⟨i + 1, J', v', by omega, rfl, rfl, rfl, rfl, rfl, by rw [upto_yes hd]; exact ho', rfl, rfl⟩
  obtain rfl : i = 6 := by omega
  simp (disch := first | assumption | omega | (simp only [az]; done)) only [ru, eq_self, if_true, if_false, BEq.rfl, binI, AO.row?, splice, fillL, mmAll, loadV, storeV, zeros, Am.rowAt, Am.part, addOff, Nat.reduceAdd, Nat.reduceMul, Nat.reduceLeDiff, Nat.reduceSub, Nat.reduceLT, Int.reduceEq, Int.reduceLT, Int.reduceLE, Int.reduceGT, Int.reduceGE, Int.reduceAdd, Int.reduceSub, Int.reduceMul, Int.reduceNeg, Int.reduceToNat, reduceCtorEq, reduceIte, hlt]
  exact out_view ho

theorem s88 {b : List Bool} (hb : b.length = 6) (st : Bool) : Iso E 88 [.agg (b.map Bo)] st = some (I (upto (gb b) 6).length) := by
  refine Iso_of (es _ _ _ _) e88 ?_
  simp only [f88]
  simp (disch := first | assumption | omega | (simp only [az]; done)) only [ru, eq_self, if_true, if_false, BEq.rfl, binI, AO.row?, splice, fillL, mmAll, loadV, storeV, zeros, Am.rowAt, Am.part, addOff, Nat.reduceAdd, Nat.reduceMul, Nat.reduceLeDiff, Nat.reduceSub, Nat.reduceLT, Int.reduceEq, Int.reduceLT, Int.reduceLE, Int.reduceGT, Int.reduceGE, Int.reduceAdd, Int.reduceSub, Int.reduceMul, Int.reduceNeg, Int.reduceToNat, reduceCtorEq, reduceIte, view_bv, takeB hb, lenB hb, Nat.mul_one, s81 hb, lenV_sl (resL_is (upto (gb b) 6))]

theorem upto_ext {p : Nat → Bool} {k : Nat} : ∀ {m : Nat}, k ≤ m → (∀ i, k ≤ i → i < m → p i = false) → upto p m = upto p k
  | 0, h, _ => by rw [show k = 0 by omega]
  | m + 1, h, hp => by
    by_cases e : k = m + 1
    · rw [e]
    · rw [upto_no (hp m (by omega) (by omega)), upto_ext (by omega) (fun i h1 h2 => hp i h1 (by omega))]
theorem lst_upto {n : Net} {A : Nat → Bool} {b : List Bool} (hn : n.ancs.length ≤ 6) (h1 : ∀ i, i < n.ancs.length → A i = gb b i) (h2 : ∀ i, n.ancs.length ≤ i → gb b i = false) : upto (gb b) 6 = lst n A := by
  rw [upto_ext hn (fun i h _ => h2 i h), lst_congr h1]; rfl

def zeros6 : List Bool := [false, false, false, false, false, false]
theorem gb_zeros : gb zeros6 = none6 := by
  funext i
  match i with
  | 0 | 1 | 2 | 3 | 4 | 5 => rfl
  | _ + 6 => rfl

/-- what drags at first, of the first k -/
def fs (n : Net) (t : Tru) : Nat → List Bool
  | 0 => zeros6
  | k + 1 => (fs n t k).set k (drg n t k none6)
theorem fs_len {n : Net} {t : Tru} : ∀ {k : Nat}, (fs n t k).length = 6
  | 0 => rfl
  | k + 1 => by rw [fs, List.length_set, fs_len]
theorem fs_at {n : Net} {t : Tru} : ∀ {k : Nat} (i : Nat), k ≤ 6 → gb (fs n t k) i = if i < k then drg n t i none6 else false
  | 0, i, _ => by rw [fs, gb_zeros]; rfl
  | k + 1, i, hk => by
    rw [fs, gb_set (by rw [fs_len]; omega), fs_at i (by omega)]
    by_cases e : k = i
    · subst e; simp
    · rw [if_neg e]
      by_cases h : i < k
      · rw [if_pos h, if_pos (by omega)]
      · rw [if_neg h, if_neg (by omega)]

theorem spare_neg {n : Net} {t : Tru} {i : Nat} {D : Nat → Bool} : decide (canI n t i - bearsI n t i D < 0) = drg n t i D := by
  rw [drg, decide_eq_decide]; omega

theorem s80 {n : Net} {g a w : AV} (H : NetOk n g a w) {t : Tru} {v : AV} (V : TruOk t v) (G : Fair n t) (st : Bool) : Iso E 80 [.agg [I n.wind.lo, I n.wind.hi, I n.cur.lo, I n.cur.hi, g, a, w, I t.wind, I t.cur, v]] st = some (.agg ((fs n t n.ancs.length).map Bo)) := by
  have la := (netB G.v).la
  refine Iso_of (es _ _ _ _) e80 ?_
  simp only [f80]
  simp (disch := first | assumption | omega | (simp only [az]; done)) only [ru, eq_self, if_true, if_false, BEq.rfl, binI, AO.row?, splice, fillL, mmAll, loadV, storeV, zeros, Am.rowAt, Am.part, addOff, Nat.reduceAdd, Nat.reduceMul, Nat.reduceLeDiff, Nat.reduceSub, Nat.reduceLT, Int.reduceEq, Int.reduceLT, Int.reduceLE, Int.reduceGT, Int.reduceGE, Int.reduceAdd, Int.reduceSub, Int.reduceMul, Int.reduceNeg, Int.reduceToNat, reduceCtorEq, reduceIte, lenV_sl H.g, lenV_sl H.a, lenV_sl H.w, elem_sl Spn.el H.g, elem_sl Anc.el H.a, elem_sl Wal.el H.w, view_sl H.g, view_sl H.a, view_sl H.w, scalar_sl H.g, scalar_sl H.a, scalar_sl H.w, cells_sl H.g, cells_sl H.a, cells_sl H.w, pure_sl H.g, pure_sl H.a, pure_sl H.w, Spn.e, Anc.e, Wal.e, Spn.eta, Anc.eta, Wal.eta, Int.toNat_natCast, lenV_sl V.s, elem_sl intE V.s, view_sl V.s, scalar_sl V.s, cells_sl V.s, pure_sl V.s]
  refine G_loop_ind (fun m ts h mk => ∃ i : Nat, i ≤ n.ancs.length ∧ m = n.ancs.length - i ∧ ts.length = 21 ∧ ts.getD 1 .undef = .ptr 0 0 ∧ ts.getD 2 .undef = .ptr 1 0 ∧ ts.getD 3 .undef = .ptr 2 0 ∧
    ts.getD 8 .undef = I n.ancs.length ∧ ts.getD 9 .undef = I i ∧ h = [.cells [I n.wind.lo, I n.wind.hi, I n.cur.lo, I n.cur.hi, g, a, w, I t.wind, I t.cur, v] false, .cells (zeros6.map Bo) false, .cells ((fs n t i).map Bo) false] ∧ mk = []) ?_ _ _ _ _
      ⟨0, Nat.zero_le _, rfl, rfl, rfl, rfl, rfl, rfl, rfl, rfl, rfl⟩
  rintro m ts h mk ih ⟨i, hi, rfl, hl, q1, q2, q3, q8, q9, rfl, rfl⟩
  rw [lit_all hl]
  simp only [lit0, litS, Nat.reduceAdd, q1, q2, q3, q8, q9]
  simp (disch := first | assumption | omega | (simp only [az]; done)) only [ru, eq_self, if_true, if_false, BEq.rfl, binI, AO.row?, splice, fillL, mmAll, loadV, storeV, zeros, Am.rowAt, Am.part, addOff, Nat.reduceAdd, Nat.reduceMul, Nat.reduceLeDiff, Nat.reduceSub, Nat.reduceLT, Int.reduceEq, Int.reduceLT, Int.reduceLE, Int.reduceGT, Int.reduceGE, Int.reduceAdd, Int.reduceSub, Int.reduceMul, Int.reduceNeg, Int.reduceToNat, reduceCtorEq, reduceIte]
  have hb : (fs n t i).length = 6 := fs_len
  by_cases hlt : (i : Int) < n.ancs.length
  case pos =>
    have hlt' : i < n.ancs.length := by omega
    have q := fun st => s94 H V G (b := zeros6) rfl hlt' st
    simp only [zeros6, List.map_cons, List.map_nil] at q
    have h6 : (i : Int) < 6 := by omega
    have h7 : i + 1 ≤ 6 := by omega
    have h0 : (0 : Int) ≤ i := by omega
    have hset := fun x => setB (b := fs n t i) (i := i) (x := x) (by omega)
    simp (disch := first | assumption | omega | (simp only [az]; done)) only [ru, eq_self, if_true, if_false, BEq.rfl, binI, AO.row?, splice, fillL, mmAll, loadV, storeV, zeros, Am.rowAt, Am.part, addOff, Nat.reduceAdd, Nat.reduceMul, Nat.reduceLeDiff, Nat.reduceSub, Nat.reduceLT, Int.reduceEq, Int.reduceLT, Int.reduceLE, Int.reduceGT, Int.reduceGE, Int.reduceAdd, Int.reduceSub, Int.reduceMul, Int.reduceNeg, Int.reduceToNat, reduceCtorEq, reduceIte, lenV_sl H.g, lenV_sl H.a, lenV_sl H.w, elem_sl Spn.el H.g, elem_sl Anc.el H.a, elem_sl Wal.el H.w, view_sl H.g, view_sl H.a, view_sl H.w, scalar_sl H.g, scalar_sl H.a, scalar_sl H.w, cells_sl H.g, cells_sl H.a, cells_sl H.w, pure_sl H.g, pure_sl H.a, pure_sl H.w, Spn.e, Anc.e, Wal.e, Spn.eta, Anc.eta, Wal.eta, Int.toNat_natCast, lenV_sl V.s, elem_sl intE V.s, view_sl V.s, scalar_sl V.s, cells_sl V.s, pure_sl V.s, hlt, q, h0, h6, h7, view_bv, takeB hb, lenB hb, Nat.mul_one, Int.toNat_natCast, spare_neg, hset]
    exact ih (n.ancs.length - (i + 1)) _ _ _ (by omega) ⟨i + 1, by omega, rfl, rfl, rfl, rfl, rfl, rfl, rfl, by rw [fs, ← gb_zeros]; rfl, rfl⟩
  obtain rfl : i = n.ancs.length := by omega
  have hz : (zeros6.map Bo).length = 6 := rfl
  have hd : (zeros6.map Bo).drop 6 = [] := rfl
  simp (disch := first | assumption | omega | (simp only [az]; done)) only [ru, eq_self, if_true, if_false, BEq.rfl, binI, AO.row?, splice, fillL, mmAll, loadV, storeV, zeros, Am.rowAt, Am.part, addOff, Nat.reduceAdd, Nat.reduceMul, Nat.reduceLeDiff, Nat.reduceSub, Nat.reduceLT, Int.reduceEq, Int.reduceLT, Int.reduceLE, Int.reduceGT, Int.reduceGE, Int.reduceAdd, Int.reduceSub, Int.reduceMul, Int.reduceNeg, Int.reduceToNat, reduceCtorEq, reduceIte, hlt, view_bv, takeB hb, lenB hb, Nat.mul_one, hz, hd, scalB, finC, getRes, Option.some.injEq, exists_eq_left']

theorem s84 {n : Net} {g a w : AV} (H : NetOk n g a w) {t : Tru} {v : AV} (V : TruOk t v) (G : Fair n t) {b : List Bool} (hb : b.length = 6) (st : Bool) : Iso E 84 [.agg [I n.wind.lo, I n.wind.hi, I n.cur.lo, I n.cur.hi, g, a, w, I t.wind, I t.cur, v], .agg (b.map Bo)] st = some (.agg ((rd n t b n.ancs.length).map Bo)) := by
  have la := (netB G.v).la
  refine Iso_of (es _ _ _ _) e84 ?_
  simp only [f84]
  simp (disch := first | assumption | omega | (simp only [az]; done)) only [ru, eq_self, if_true, if_false, BEq.rfl, binI, AO.row?, splice, fillL, mmAll, loadV, storeV, zeros, Am.rowAt, Am.part, addOff, Nat.reduceAdd, Nat.reduceMul, Nat.reduceLeDiff, Nat.reduceSub, Nat.reduceLT, Int.reduceEq, Int.reduceLT, Int.reduceLE, Int.reduceGT, Int.reduceGE, Int.reduceAdd, Int.reduceSub, Int.reduceMul, Int.reduceNeg, Int.reduceToNat, reduceCtorEq, reduceIte, lenV_sl H.g, lenV_sl H.a, lenV_sl H.w, elem_sl Spn.el H.g, elem_sl Anc.el H.a, elem_sl Wal.el H.w, view_sl H.g, view_sl H.a, view_sl H.w, scalar_sl H.g, scalar_sl H.a, scalar_sl H.w, cells_sl H.g, cells_sl H.a, cells_sl H.w, pure_sl H.g, pure_sl H.a, pure_sl H.w, Spn.e, Anc.e, Wal.e, Spn.eta, Anc.eta, Wal.eta, Int.toNat_natCast, lenV_sl V.s, elem_sl intE V.s, view_sl V.s, scalar_sl V.s, cells_sl V.s, pure_sl V.s, view_bv, takeB hb, lenB hb, Nat.mul_one]
  refine G_loop_ind (fun m ts h mk => ∃ k : Nat, k ≤ n.ancs.length ∧ m = n.ancs.length - k ∧ ts.length = 33 ∧ ts.getD 2 .undef = .ptr 0 0 ∧ ts.getD 3 .undef = .ptr 1 0 ∧ ts.getD 4 .undef = .ptr 2 0 ∧
    ts.getD 9 .undef = I n.ancs.length ∧ ts.getD 10 .undef = I k ∧ h = [.cells [I n.wind.lo, I n.wind.hi, I n.cur.lo, I n.cur.hi, g, a, w, I t.wind, I t.cur, v] false, .cells ((rd n t b k).map Bo) false, .cells (zeros6.map Bo) false] ∧ mk = []) ?_ _ _ _ _
      ⟨0, Nat.zero_le _, rfl, rfl, rfl, rfl, rfl, rfl, rfl, rfl, rfl⟩
  rintro m ts h mk ih ⟨k, hk, rfl, hl, q2, q3, q4, q9, q10, rfl, rfl⟩
  rw [lit_all hl]
  simp only [lit0, litS, Nat.reduceAdd, q2, q3, q4, q9, q10]
  simp (disch := first | assumption | omega | (simp only [az]; done)) only [ru, eq_self, if_true, if_false, BEq.rfl, binI, AO.row?, splice, fillL, mmAll, loadV, storeV, zeros, Am.rowAt, Am.part, addOff, Nat.reduceAdd, Nat.reduceMul, Nat.reduceLeDiff, Nat.reduceSub, Nat.reduceLT, Int.reduceEq, Int.reduceLT, Int.reduceLE, Int.reduceGT, Int.reduceGE, Int.reduceAdd, Int.reduceSub, Int.reduceMul, Int.reduceNeg, Int.reduceToNat, reduceCtorEq, reduceIte]
  have hr : (rd n t b k).length = 6 := by rw [rd_len, hb]
  by_cases hlt : (k : Int) < n.ancs.length
  case pos =>
    simp (disch := first | assumption | omega | (simp only [az]; done)) only [ru, eq_self, if_true, if_false, BEq.rfl, binI, AO.row?, splice, fillL, mmAll, loadV, storeV, zeros, Am.rowAt, Am.part, addOff, Nat.reduceAdd, Nat.reduceMul, Nat.reduceLeDiff, Nat.reduceSub, Nat.reduceLT, Int.reduceEq, Int.reduceLT, Int.reduceLE, Int.reduceGT, Int.reduceGE, Int.reduceAdd, Int.reduceSub, Int.reduceMul, Int.reduceNeg, Int.reduceToNat, reduceCtorEq, reduceIte, lenV_sl H.g, lenV_sl H.a, lenV_sl H.w, elem_sl Spn.el H.g, elem_sl Anc.el H.a, elem_sl Wal.el H.w, view_sl H.g, view_sl H.a, view_sl H.w, scalar_sl H.g, scalar_sl H.a, scalar_sl H.w, cells_sl H.g, cells_sl H.a, cells_sl H.w, pure_sl H.g, pure_sl H.a, pure_sl H.w, Spn.e, Anc.e, Wal.e, Spn.eta, Anc.eta, Wal.eta, Int.toNat_natCast, lenV_sl V.s, elem_sl intE V.s, view_sl V.s, scalar_sl V.s, cells_sl V.s, pure_sl V.s, hlt]
    refine G_loop_ind (fun m ts h mk => ∃ i : Nat, i ≤ n.ancs.length ∧ m = n.ancs.length - i ∧ ts.length = 33 ∧ ts.getD 2 .undef = .ptr 0 0 ∧ ts.getD 3 .undef = .ptr 1 0 ∧ ts.getD 4 .undef = .ptr 2 0 ∧
      ts.getD 9 .undef = I n.ancs.length ∧ ts.getD 10 .undef = I k ∧ ts.getD 15 .undef = I n.ancs.length ∧ ts.getD 16 .undef = I i ∧ h = [.cells [I n.wind.lo, I n.wind.hi, I n.cur.lo, I n.cur.hi, g, a, w, I t.wind, I t.cur, v] false, .cells ((sw n t (rd n t b k) i).map Bo) false, .cells (zeros6.map Bo) false] ∧ mk = []) ?_ _ _ _ _
        ⟨0, Nat.zero_le _, rfl, rfl, rfl, rfl, rfl, rfl, rfl, rfl, rfl, rfl, rfl⟩
    clear q2 q3 q4 q9 q10 hl
    rintro m ts h mk ih2 ⟨i, hi, rfl, hl, q2, q3, q4, q9, q10, q15, q16, rfl, rfl⟩
    rw [lit_all hl]
    simp only [lit0, litS, Nat.reduceAdd, q2, q3, q4, q9, q10, q15, q16]
    simp (disch := first | assumption | omega | (simp only [az]; done)) only [ru, eq_self, if_true, if_false, BEq.rfl, binI, AO.row?, splice, fillL, mmAll, loadV, storeV, zeros, Am.rowAt, Am.part, addOff, Nat.reduceAdd, Nat.reduceMul, Nat.reduceLeDiff, Nat.reduceSub, Nat.reduceLT, Int.reduceEq, Int.reduceLT, Int.reduceLE, Int.reduceGT, Int.reduceGE, Int.reduceAdd, Int.reduceSub, Int.reduceMul, Int.reduceNeg, Int.reduceToNat, reduceCtorEq, reduceIte]
    have hs : (sw n t (rd n t b k) i).length = 6 := by rw [sw_len, hr]
    by_cases hlt2 : (i : Int) < n.ancs.length
    case pos =>
      have hlt' : i < n.ancs.length := by omega
      have q := fun st => s94 H V G hs hlt' st
      have h6 : (i : Int) < 6 := by omega
      have h7 : i + 1 ≤ 6 := by omega
      have h0 : (0 : Int) ≤ i := by omega
      have hset := fun x => setB (b := sw n t (rd n t b k) i) (i := i) (x := x) (by omega)
      have hh := headB (b := sw n t (rd n t b k) i) (i := i) (by omega)
      simp (disch := first | assumption | omega | (simp only [az]; done)) only [ru, eq_self, if_true, if_false, BEq.rfl, binI, AO.row?, splice, fillL, mmAll, loadV, storeV, zeros, Am.rowAt, Am.part, addOff, Nat.reduceAdd, Nat.reduceMul, Nat.reduceLeDiff, Nat.reduceSub, Nat.reduceLT, Int.reduceEq, Int.reduceLT, Int.reduceLE, Int.reduceGT, Int.reduceGE, Int.reduceAdd, Int.reduceSub, Int.reduceMul, Int.reduceNeg, Int.reduceToNat, reduceCtorEq, reduceIte, hlt2, h0, h6, hh, Int.toNat_natCast, Nat.mul_one]
      cases hd : gb (sw n t (rd n t b k) i) i
      · simp (disch := first | assumption | omega | (simp only [az]; done)) only [ru, eq_self, if_true, if_false, BEq.rfl, binI, AO.row?, splice, fillL, mmAll, loadV, storeV, zeros, Am.rowAt, Am.part, addOff, Nat.reduceAdd, Nat.reduceMul, Nat.reduceLeDiff, Nat.reduceSub, Nat.reduceLT, Int.reduceEq, Int.reduceLT, Int.reduceLE, Int.reduceGT, Int.reduceGE, Int.reduceAdd, Int.reduceSub, Int.reduceMul, Int.reduceNeg, Int.reduceToNat, reduceCtorEq, reduceIte, lenV_sl H.g, lenV_sl H.a, lenV_sl H.w, elem_sl Spn.el H.g, elem_sl Anc.el H.a, elem_sl Wal.el H.w, view_sl H.g, view_sl H.a, view_sl H.w, scalar_sl H.g, scalar_sl H.a, scalar_sl H.w, cells_sl H.g, cells_sl H.a, cells_sl H.w, pure_sl H.g, pure_sl H.a, pure_sl H.w, Spn.e, Anc.e, Wal.e, Spn.eta, Anc.eta, Wal.eta, Int.toNat_natCast, lenV_sl V.s, elem_sl intE V.s, view_sl V.s, scalar_sl V.s, cells_sl V.s, pure_sl V.s, q, h0, h6, h7, view_bv, takeB hs, lenB hs, Nat.mul_one, Int.toNat_natCast, spare_neg, hset]
        exact ih2 (n.ancs.length - (i + 1)) _ _ _ (by omega) ⟨i + 1, by omega, rfl, rfl, rfl, rfl, rfl, rfl, rfl, rfl, rfl, by rw [sw, sw1, hd]; rfl, rfl⟩
      · simp (disch := first | assumption | omega | (simp only [az]; done)) only [ru, eq_self, if_true, if_false, BEq.rfl, binI, AO.row?, splice, fillL, mmAll, loadV, storeV, zeros, Am.rowAt, Am.part, addOff, Nat.reduceAdd, Nat.reduceMul, Nat.reduceLeDiff, Nat.reduceSub, Nat.reduceLT, Int.reduceEq, Int.reduceLT, Int.reduceLE, Int.reduceGT, Int.reduceGE, Int.reduceAdd, Int.reduceSub, Int.reduceMul, Int.reduceNeg, Int.reduceToNat, reduceCtorEq, reduceIte]
        exact ih2 (n.ancs.length - (i + 1)) _ _ _ (by omega) ⟨i + 1, by omega, rfl, rfl, rfl, rfl, rfl, rfl, rfl, rfl, rfl, by rw [sw, sw1, hd]; rfl, rfl⟩
    obtain rfl : i = n.ancs.length := by omega
    simp (disch := first | assumption | omega | (simp only [az]; done)) only [ru, eq_self, if_true, if_false, BEq.rfl, binI, AO.row?, splice, fillL, mmAll, loadV, storeV, zeros, Am.rowAt, Am.part, addOff, Nat.reduceAdd, Nat.reduceMul, Nat.reduceLeDiff, Nat.reduceSub, Nat.reduceLT, Int.reduceEq, Int.reduceLT, Int.reduceLE, Int.reduceGT, Int.reduceGE, Int.reduceAdd, Int.reduceSub, Int.reduceMul, Int.reduceNeg, Int.reduceToNat, reduceCtorEq, reduceIte, hlt2]
    exact ih (n.ancs.length - (k + 1)) _ _ _ (by omega) ⟨k + 1, by omega, rfl, rfl, rfl, rfl, rfl, rfl, rfl, rfl, rfl⟩
  obtain rfl : k = n.ancs.length := by omega
  have hz : (zeros6.map Bo).length = 6 := rfl
  have hd : (zeros6.map Bo).drop 6 = [] := rfl
  simp (disch := first | assumption | omega | (simp only [az]; done)) only [ru, eq_self, if_true, if_false, BEq.rfl, binI, AO.row?, splice, fillL, mmAll, loadV, storeV, zeros, Am.rowAt, Am.part, addOff, Nat.reduceAdd, Nat.reduceMul, Nat.reduceLeDiff, Nat.reduceSub, Nat.reduceLT, Int.reduceEq, Int.reduceLT, Int.reduceLE, Int.reduceGT, Int.reduceGE, Int.reduceAdd, Int.reduceSub, Int.reduceMul, Int.reduceNeg, Int.reduceToNat, reduceCtorEq, reduceIte, hlt, view_bv, takeB hr, lenB hr, hz, hd, scalB, finC, getRes, Option.some.injEq, exists_eq_left']
end Go.Proofs.Ytpflneddfhifkaa.S
