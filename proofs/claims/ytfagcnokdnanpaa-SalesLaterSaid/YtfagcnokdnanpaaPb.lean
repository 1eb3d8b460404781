/-
SalesLater (the seat of More, Need, Later).
-/
import Derived.Test.YtfagcnokdnanpaaS2
namespace Go.Proofs.Ytfagcnokdnanpaa.S
open Go Go.Am Go.Proofs.Ytfagcnokdnanpaa.T
set_option maxRecDepth 100000
set_option linter.unusedSimpArgs false
set_option linter.unusedVariables false

theorem rdF_mono {h : Hs} {x : List Int} {d e : Int} (hd : d ≤ e) {i : Int} (hi : rdF h x d i = true) : rdF h x e i = true := by
  simp only [rdF, Bool.and_eq_true, decide_eq_true_eq] at hi ⊢
  exact ⟨hi.1, Int.le_trans hi.2.1 hd, hi.2.2⟩
theorem idx_mono {p q : Nat → Bool} (hpq : ∀ i, p i = true → q i = true) : ∀ n : Nat, (idx p n).length ≤ (idx q n).length ∧ (∀ x ∈ idx p n, x ∈ idx q n) ∧ (idx q n).length ≤ n
  | 0 => by simp [idx]
  | n + 1 => by
    obtain ⟨h1, h2, h3⟩ := idx_mono hpq n
    rw [idx_succ, idx_succ]
    cases hp : p n
    · simp only [Bool.false_eq_true, if_false, List.append_nil]
      refine ⟨by simp only [List.length_append]; omega, fun x hx => by simp [h2 x hx], ?_⟩
      simp only [List.length_append]; split <;> simp <;> omega
    · rw [hpq n hp]
      simp only [if_true, List.length_append, List.length_cons, List.length_nil, List.mem_append, List.mem_cons, List.not_mem_nil, or_false]
      exact ⟨by omega, fun x hx => hx.imp (h2 x) id, by omega⟩
theorem fsB_spec {v : Nat → Int} (h0 : ∀ i, 0 ≤ v i) : ∀ n : Nat, ∃ j : Nat, (fsB v (n + 1)).1 = j ∧ j < n + 1 ∧ (fsB v (n + 1)).2 = v j ∧ (∀ i, i < n + 1 → v i ≤ v j) ∧ ∀ i, i < j → v i < v j
  | 0 => by
    have := h0 0
    have e : fsB v 1 = if (-1 : Int) < v 0 then (((0 : Nat) : Int), v 0) else (0, -1) := rfl
    rw [if_pos (by omega)] at e
    rw [Nat.zero_add, e]
    exact ⟨0, rfl, by omega, rfl, fun i hi => by rw [show i = 0 by omega]; exact Int.le_refl _, fun i hi => by omega⟩
  | n + 1 => by
    obtain ⟨j, h1, h2, h3, h4, h5⟩ := fsB_spec h0 n
    have e : fsB v (n + 1 + 1) = if (fsB v (n + 1)).2 < v (n + 1) then (((n + 1 : Nat) : Int), v (n + 1)) else fsB v (n + 1) := rfl
    by_cases hc : (fsB v (n + 1)).2 < v (n + 1)
    · rw [e, if_pos hc]
      rw [h3] at hc
      refine ⟨n + 1, rfl, by omega, rfl, fun i hi => ?_, fun i hi => ?_⟩
      · rcases Nat.lt_or_ge i (n + 1) with h | h
        · have := h4 i h; omega
        · rw [show i = n + 1 by omega]; exact Int.le_refl _
      · have := h4 i hi; omega
    · rw [e, if_neg hc]
      rw [h3] at hc
      refine ⟨j, h1, by omega, h3, fun i hi => ?_, h5⟩
      rcases Nat.lt_or_ge i (n + 1) with h | h
      · exact h4 i h
      · rw [show i = n + 1 by omega]; omega
section
variable {f : Fs} {k p b pv bv : AV} {w : Nat → AV}
theorem tops_mono (G : FG f) {r r' : Int → Bool} (hr : ∀ x, r x = true → r' x = true) : tops f.bids r ≤ tops f.bids r' := by
  have w1 := wins_is G.bg (r := r)
  have := tops_ge G.bg (isS_mono hr w1.1)
  omega
theorem on_valid (hv : f.valid = true) {d : Int} (hd : inR d 0 20 = true) : (f.on f.pk d).valid = true := by
  simp only [Fs.valid, Fs.on, Bool.and_eq_true] at hv ⊢
  exact ⟨⟨⟨⟨hv.1.1.1.1, hd⟩, hv.1.1.2⟩, hv.1.2⟩, hv.2⟩
set_option maxHeartbeats 4000000 in
theorem n5 (H : FsIn f k p b pv bv w) (x y : Int) : Iso E 5 [frV f k p b pv bv, I x, I y] false = some (Bo true) := by
  have a13 := fun st => t13 H st
  simp only [frV] at a13
  refine Iso_of (es _ _ _ _) e5 ?_
  simp only [f5]
  have a92x := fun st => t92 x st
  have a92y := fun st => t92 y st
  cases hr : f.rdy
  · rw [hr] at a13
    simp (disch := first | assumption | omega | (simp only [az]; done)) only [ru, eq_self, if_true, if_false, BEq.rfl, binI, AO.row?, splice, fillL, mmAll, loadV, storeV, zeros, Am.rowAt, Am.part, addOff, Nat.reduceAdd, Nat.reduceMul, Nat.reduceLeDiff, Nat.reduceSub, Nat.reduceLT, Int.reduceEq, Int.reduceLT, Int.reduceLE, Int.reduceGT, Int.reduceGE, Int.reduceAdd, Int.reduceSub, Int.reduceMul, Int.reduceNeg, Int.reduceToNat, reduceCtorEq, reduceIte, lenV_sl H.h.k, lenV_sl H.h.p, lenV_sl H.h.b, elem_kd H.h.k, elem_pr H.h.p, elem_in H.h.b, view_sl H.h.k, view_sl H.h.p, view_sl H.h.b, scalar_sl H.h.k, scalar_sl H.h.p, scalar_sl H.h.b, cells_sl H.h.k, cells_sl H.h.p, cells_sl H.h.b, pure_sl H.h.k, pure_sl H.h.p, pure_sl H.h.b, Int.toNat_natCast, lenV_sl H.pk, view_sl H.pk, scalar_sl H.pk, cells_sl H.pk, pure_sl H.pk, H.bi.len, H.bi.sc, H.bi.ce, H.bi.pu, H.bi.vw, a13, t15, gUn, Bool.not_false]
  rw [hr] at a13
  obtain ⟨K, G, hv⟩ := rdy_ok H hr
  cases hx : inR x 0 20
  · rw [hx] at a92x
    simp (disch := first | assumption | omega | (simp only [az]; done)) only [ru, eq_self, if_true, if_false, BEq.rfl, binI, AO.row?, splice, fillL, mmAll, loadV, storeV, zeros, Am.rowAt, Am.part, addOff, Nat.reduceAdd, Nat.reduceMul, Nat.reduceLeDiff, Nat.reduceSub, Nat.reduceLT, Int.reduceEq, Int.reduceLT, Int.reduceLE, Int.reduceGT, Int.reduceGE, Int.reduceAdd, Int.reduceSub, Int.reduceMul, Int.reduceNeg, Int.reduceToNat, reduceCtorEq, reduceIte, lenV_sl H.h.k, lenV_sl H.h.p, lenV_sl H.h.b, elem_kd H.h.k, elem_pr H.h.p, elem_in H.h.b, view_sl H.h.k, view_sl H.h.p, view_sl H.h.b, scalar_sl H.h.k, scalar_sl H.h.p, scalar_sl H.h.b, cells_sl H.h.k, cells_sl H.h.p, cells_sl H.h.b, pure_sl H.h.k, pure_sl H.h.p, pure_sl H.h.b, Int.toNat_natCast, lenV_sl H.pk, view_sl H.pk, scalar_sl H.pk, cells_sl H.pk, pure_sl H.pk, H.bi.len, H.bi.sc, H.bi.ce, H.bi.pu, H.bi.vw, a13, a92x, t15, gUn, Bool.not_false, Bool.not_true]
  rw [hx] at a92x
  cases hy : inR y 0 20
  · rw [hy] at a92y
    simp (disch := first | assumption | omega | (simp only [az]; done)) only [ru, eq_self, if_true, if_false, BEq.rfl, binI, AO.row?, splice, fillL, mmAll, loadV, storeV, zeros, Am.rowAt, Am.part, addOff, Nat.reduceAdd, Nat.reduceMul, Nat.reduceLeDiff, Nat.reduceSub, Nat.reduceLT, Int.reduceEq, Int.reduceLT, Int.reduceLE, Int.reduceGT, Int.reduceGE, Int.reduceAdd, Int.reduceSub, Int.reduceMul, Int.reduceNeg, Int.reduceToNat, reduceCtorEq, reduceIte, lenV_sl H.h.k, lenV_sl H.h.p, lenV_sl H.h.b, elem_kd H.h.k, elem_pr H.h.p, elem_in H.h.b, view_sl H.h.k, view_sl H.h.p, view_sl H.h.b, scalar_sl H.h.k, scalar_sl H.h.p, scalar_sl H.h.b, cells_sl H.h.k, cells_sl H.h.p, cells_sl H.h.b, pure_sl H.h.k, pure_sl H.h.p, pure_sl H.h.b, Int.toNat_natCast, lenV_sl H.pk, view_sl H.pk, scalar_sl H.pk, cells_sl H.pk, pure_sl H.pk, H.bi.len, H.bi.sc, H.bi.ce, H.bi.pu, H.bi.vw, a13, a92x, a92y, t15, gUn, Bool.not_false, Bool.not_true]
  rw [hy] at a92y
  by_cases hxy : x > y
  · simp (disch := first | assumption | omega | (simp only [az]; done)) only [ru, eq_self, if_true, if_false, BEq.rfl, binI, AO.row?, splice, fillL, mmAll, loadV, storeV, zeros, Am.rowAt, Am.part, addOff, Nat.reduceAdd, Nat.reduceMul, Nat.reduceLeDiff, Nat.reduceSub, Nat.reduceLT, Int.reduceEq, Int.reduceLT, Int.reduceLE, Int.reduceGT, Int.reduceGE, Int.reduceAdd, Int.reduceSub, Int.reduceMul, Int.reduceNeg, Int.reduceToNat, reduceCtorEq, reduceIte, lenV_sl H.h.k, lenV_sl H.h.p, lenV_sl H.h.b, elem_kd H.h.k, elem_pr H.h.p, elem_in H.h.b, view_sl H.h.k, view_sl H.h.p, view_sl H.h.b, scalar_sl H.h.k, scalar_sl H.h.p, scalar_sl H.h.b, cells_sl H.h.k, cells_sl H.h.p, cells_sl H.h.b, pure_sl H.h.k, pure_sl H.h.p, pure_sl H.h.b, Int.toNat_natCast, lenV_sl H.pk, view_sl H.pk, scalar_sl H.pk, cells_sl H.pk, pure_sl H.pk, H.bi.len, H.bi.sc, H.bi.ce, H.bi.pu, H.bi.vw, a13, a92x, a92y, hxy, t15, gUn, Bool.not_false, Bool.not_true, decide_true]
  have hx' := inR_iff.1 hx
  have hy' := inR_iff.1 hy
  have nb4 := G.h.nb
  have a93x := t93 K x
  have a93y := t93 K y
  obtain ⟨wx, Kx⟩ := cpF_ok (FsOk.on K K.pk K.np x)
  obtain ⟨wy, Ky⟩ := cpF_ok (FsOk.on K K.pk K.np y)
  have vx := on_valid hv hx
  have vy := on_valid hv hy
  have Gx := FG.on G G.pk hx'
  have Gy := FG.on G G.pk hy'
  have a40x := fun st => t40 Kx st
  have a40y := fun st => t40 Ky st
  have a16x := fun st => t16 Kx vx st
  have a16y := fun st => t16 Ky vy st
  have a53 := fun (d : Int) st => t53 K d st
  have a55 := fun st => t55 K st
  have tb : ∀ d : Int, 0 ≤ tops f.bids (rdF f.h f.pk d) ∧ tops f.bids (rdF f.h f.pk d) ≤ 396 := fun d => tops_bd G
  have tm := tops_mono G (r := rdF f.h f.pk x) (r' := rdF f.h f.pk y) fun i => rdF_mono (by omega)
  have im := idx_mono (p := fun i : Nat => rdF f.h f.pk x i) (q := fun i : Nat => rdF f.h f.pk y i) (fun i => rdF_mono (by omega)) f.h.bs.length
  have rx : idx (fun i => (f.on f.pk x).r i) 4 = idx (fun i : Nat => rdF f.h f.pk x i) f.h.bs.length := rdL4 (f := f.on f.pk x) Gx.h
  have ry : idx (fun i => (f.on f.pk y).r i) 4 = idx (fun i : Nat => rdF f.h f.pk y i) f.h.bs.length := rdL4 (f := f.on f.pk y) Gy.h
  obtain ⟨j, j1, j2, j3, j4, j5⟩ := fsB_spec (v := fun d : Nat => tops f.bids (rdF f.h f.pk d)) (fun i => (tb i).1) 20
  rw [hv, if_pos rfl, j1, fE_t] at a55
  rw [vx, if_pos rfl, fE_t, rx] at a40x
  rw [vy, if_pos rfl, fE_t, ry] at a40y
  have gy : tops f.bids (rdF f.h f.pk y) ≤ tops f.bids (rdF f.h f.pk j) := by
    have := j4 y.toNat (by omega)
    rwa [show ((y.toNat : Nat) : Int) = y by omega] at this
  have gx : x < j → tops f.bids (rdF f.h f.pk x) < tops f.bids (rdF f.h f.pk j) := fun h => by
    have := j5 x.toNat (by omega)
    rwa [show ((x.toNat : Nat) : Int) = x by omega] at this
  have hj : inR j 0 20 = true := inR_iff.2 (by omega)
  have a92j := fun st => t92 j st
  have a53x := fun st => a53 x st
  have a53y := fun st => a53 y st
  have a53j := fun st => a53 j st
  rw [hj] at a92j
  simp only [hx, hy, hj, hv, askF, if_true] at a53x a53y a53j
  have tbx := tb x
  have tby := tb y
  have tbj := tb j
  obtain ⟨l1, hl1⟩ : ∃ l, l = idx (fun i : Nat => rdF f.h f.pk x i) f.h.bs.length := ⟨_, rfl⟩
  obtain ⟨l2, hl2⟩ : ∃ l, l = idx (fun i : Nat => rdF f.h f.pk y i) f.h.bs.length := ⟨_, rfl⟩
  rw [← hl1] at im a40x
  rw [← hl2] at im a40y
  obtain ⟨u1, hu1⟩ : ∃ u, u = resL l1 := ⟨_, rfl⟩
  obtain ⟨u2, hu2⟩ : ∃ u, u = resL l2 := ⟨_, rfl⟩
  have L1 : IsSl 1 intL l1 u1 := by rw [hu1]; exact resL_is l1
  have L2 : IsSl 1 intL l2 u2 := by rw [hu2]; exact resL_is l2
  rw [← hu1] at a40x
  rw [← hu2] at a40y
  have ex : tops (f.on f.pk x).bids (f.on f.pk x).r = tops f.bids (rdF f.h f.pk x) := rfl
  have ey : tops (f.on f.pk y).bids (f.on f.pk y).r = tops f.bids (rdF f.h f.pk y) := rfl
  rw [ex] at a16x
  rw [ey] at a16y
  obtain ⟨X, hX⟩ : ∃ X, X = tops f.bids (rdF f.h f.pk x) := ⟨_, rfl⟩
  obtain ⟨Y, hY⟩ : ∃ X, X = tops f.bids (rdF f.h f.pk y) := ⟨_, rfl⟩
  obtain ⟨J, hJ⟩ : ∃ X, X = tops f.bids (rdF f.h f.pk j) := ⟨_, rfl⟩
  rw [← hX] at a16x a53x tm gx tbx
  rw [← hY] at a16y a53y tm gy tby
  rw [← hJ] at a53j gx gy tbj
  clear a53 tb hX hY hJ j3 j4 j5 ex ey hl1 hl2 hu1 hu2 rx ry
  simp only [cpF, frV] at a40x a40y a16x a16y a55 a53x a53y a53j a93x a93y
  have m1 : ¬ l1.length > l2.length := by omega
  have m1' : ¬ (l1.length : Int) > l2.length := by omega
  have m2' : ¬ (l2.length : Int) > f.h.bs.length := by omega
  have m3 : ¬ X < 0 := by omega
  have m4 : ¬ X > Y := by omega
  have e1 : (X != X) = false := by simp
  have e2 : (Y != Y) = false := by simp
  have sk : IsSl 2 Kd.e f.h.ks (slV 2 Kd.e f.h.ks) := slV_is
  have sp : IsSl 2 Pr.e f.h.ps (slV 2 Pr.e f.h.ps) := slV_is
  have sb : IsSl 1 intL f.h.bs (slV 1 intL f.h.bs) := slV_is
  have sq : IsSl 1 intL f.pk (slV 1 intL f.pk) := slV_is
  obtain ⟨B, hB⟩ : ∃ B, B = resB f.bids := ⟨_, rfl⟩
  have B1 : B.scalar = true := by rw [hB]; exact Kx.bi.sc
  have B2 : B.cells = [B] := by rw [hB]; exact Kx.bi.ce
  have B3 : ∀ (g : List AO) (n : Nat), view false g n B = some B := fun g n => by rw [hB]; exact Kx.bi.vw g n
  have B4 : B.pureV = true := by rw [hB]; exact Kx.bi.pu
  have o1 : ∀ d : Int, (f.on f.pk d).bids = f.bids := fun _ => rfl
  have o2 : ∀ d : Int, (f.on f.pk d).h = f.h := fun _ => rfl
  have o3 : ∀ d : Int, (f.on f.pk d).pk = f.pk := fun _ => rfl
  have o4 : ∀ d : Int, (f.on f.pk d).d = d := fun _ => rfl
  have o5 : ∀ d : Int, (f.on f.pk d).n = f.n := fun _ => rfl
  simp only [o1, o2, o3, o4, o5, hsK, hsP, hsB] at a93x a93y a40x a40y a16x a16y
  simp only [← hB] at a93x a93y a40x a40y a16x a16y
  simp (disch := first | assumption | omega | (simp only [az]; done)) only [ru, eq_self, if_true, if_false, BEq.rfl, binI, AO.row?, splice, fillL, mmAll, loadV, storeV, zeros, Am.rowAt, Am.part, addOff, Nat.reduceAdd, Nat.reduceMul, Nat.reduceLeDiff, Nat.reduceSub, Nat.reduceLT, Int.reduceEq, Int.reduceLT, Int.reduceLE, Int.reduceGT, Int.reduceGE, Int.reduceAdd, Int.reduceSub, Int.reduceMul, Int.reduceNeg, Int.reduceToNat, reduceCtorEq, reduceIte, lenV_sl H.h.k, lenV_sl H.h.p, lenV_sl H.h.b, elem_kd H.h.k, elem_pr H.h.p, elem_in H.h.b, view_sl H.h.k, view_sl H.h.p, view_sl H.h.b, scalar_sl H.h.k, scalar_sl H.h.p, scalar_sl H.h.b, cells_sl H.h.k, cells_sl H.h.p, cells_sl H.h.b, pure_sl H.h.k, pure_sl H.h.p, pure_sl H.h.b, Int.toNat_natCast, lenV_sl H.pk, view_sl H.pk, scalar_sl H.pk, cells_sl H.pk, pure_sl H.pk, H.bi.len, H.bi.sc, H.bi.ce, H.bi.pu, H.bi.vw, lenV_sl sk, view_sl sk, scalar_sl sk, cells_sl sk, pure_sl sk, lenV_sl sp, view_sl sp, scalar_sl sp, cells_sl sp, pure_sl sp, lenV_sl sb, view_sl sb, scalar_sl sb, cells_sl sb, pure_sl sb, lenV_sl sq, view_sl sq, scalar_sl sq, cells_sl sq, pure_sl sq, lenV_sl L1, view_sl L1, scalar_sl L1, cells_sl L1, pure_sl L1, lenV_sl L2, view_sl L2, scalar_sl L2, cells_sl L2, pure_sl L2, B1, B2, B3, B4, a13, a92x, a92y, hxy, a93x, a93y, GO_mcall1, hide, a40x, a40y, a53x, a53y, a55, a16x, a16y, a92j, m1', m2', m3, m4, e1, e2, gUn, Bool.not_true, Bool.not_false, decide_false]
  have ll1 : l1.length ≤ 41 := by omega
  have ll2 : l2.length ≤ 41 := by omega
  have a55' := fun (c : Int) st => s55 L2 (by omega) c st
  refine G_loop_ind (fun m ts hk mk => ∃ (i : Nat), i ≤ l1.length ∧ m = l1.length - i ∧ hk[0]? = some (.cells [k, I f.h.fl, p, b, pv, I f.d, I f.n, bv] false) ∧
      ts.length = 173 ∧ ts.getD 1 .undef = I x ∧ ts.getD 3 .undef = .ptr 0 0 ∧ ts.getD 9 .undef = u1 ∧ ts.getD 11 .undef = u2 ∧ ts.getD 13 .undef = I X ∧ ts.getD 15 .undef = I Y ∧ ts.getD 17 .undef = I j ∧ ts.getD 19 .undef = I i ∧ mk = []) ?_ l1.length _ _ _ ⟨0, by omega, rfl, rfl, rfl, rfl, rfl, rfl, rfl, rfl, rfl, rfl, rfl, rfl⟩
  rintro m ts hk mk ih ⟨i, hi, rfl, cc, hlt', q1, q3, q9, q11, q13, q15, q17, q19, rfl⟩
  rw [lit_all hlt']
  simp only [lit0, litS, Nat.reduceAdd, q1, q3, q9, q11, q13, q15, q17, q19]
  by_cases hlt : (i : Int) < l1.length
  case neg =>
    have g1 : decide (J ≥ Y) = true := decide_eq_true gy
    by_cases hc : x ≥ (j : Int)
    · simp (disch := first | assumption | omega | (simp only [az]; done)) only [ru, eq_self, if_true, if_false, BEq.rfl, binI, AO.row?, splice, fillL, mmAll, loadV, storeV, zeros, Am.rowAt, Am.part, addOff, Nat.reduceAdd, Nat.reduceMul, Nat.reduceLeDiff, Nat.reduceSub, Nat.reduceLT, Int.reduceEq, Int.reduceLT, Int.reduceLE, Int.reduceGT, Int.reduceGE, Int.reduceAdd, Int.reduceSub, Int.reduceMul, Int.reduceNeg, Int.reduceToNat, reduceCtorEq, reduceIte, lenV_sl H.h.k, lenV_sl H.h.p, lenV_sl H.h.b, elem_kd H.h.k, elem_pr H.h.p, elem_in H.h.b, view_sl H.h.k, view_sl H.h.p, view_sl H.h.b, scalar_sl H.h.k, scalar_sl H.h.p, scalar_sl H.h.b, cells_sl H.h.k, cells_sl H.h.p, cells_sl H.h.b, pure_sl H.h.k, pure_sl H.h.p, pure_sl H.h.b, Int.toNat_natCast, lenV_sl H.pk, view_sl H.pk, scalar_sl H.pk, cells_sl H.pk, pure_sl H.pk, H.bi.len, H.bi.sc, H.bi.ce, H.bi.pu, H.bi.vw, lenV_sl L1, elem_in L1, view_sl L1, scalar_sl L1, cells_sl L1, pure_sl L1, Int.toNat_natCast, lenV_sl L2, elem_in L2, view_sl L2, scalar_sl L2, cells_sl L2, pure_sl L2, Int.toNat_natCast, cc, hlt, a53j, g1, hc, t15, gUn, decide_true]
      done
    · have g2 : X < J := gx (by omega)
      simp (disch := first | assumption | omega | (simp only [az]; done)) only [ru, eq_self, if_true, if_false, BEq.rfl, binI, AO.row?, splice, fillL, mmAll, loadV, storeV, zeros, Am.rowAt, Am.part, addOff, Nat.reduceAdd, Nat.reduceMul, Nat.reduceLeDiff, Nat.reduceSub, Nat.reduceLT, Int.reduceEq, Int.reduceLT, Int.reduceLE, Int.reduceGT, Int.reduceGE, Int.reduceAdd, Int.reduceSub, Int.reduceMul, Int.reduceNeg, Int.reduceToNat, reduceCtorEq, reduceIte, lenV_sl H.h.k, lenV_sl H.h.p, lenV_sl H.h.b, elem_kd H.h.k, elem_pr H.h.p, elem_in H.h.b, view_sl H.h.k, view_sl H.h.p, view_sl H.h.b, scalar_sl H.h.k, scalar_sl H.h.p, scalar_sl H.h.b, cells_sl H.h.k, cells_sl H.h.p, cells_sl H.h.b, pure_sl H.h.k, pure_sl H.h.p, pure_sl H.h.b, Int.toNat_natCast, lenV_sl H.pk, view_sl H.pk, scalar_sl H.pk, cells_sl H.pk, pure_sl H.pk, H.bi.len, H.bi.sc, H.bi.ce, H.bi.pu, H.bi.vw, lenV_sl L1, elem_in L1, view_sl L1, scalar_sl L1, cells_sl L1, pure_sl L1, Int.toNat_natCast, lenV_sl L2, elem_in L2, view_sl L2, scalar_sl L2, cells_sl L2, pure_sl L2, Int.toNat_natCast, cc, hlt, a53j, g1, hc, g2, t15, gUn, decide_true, decide_false]
      done
  have hm : l1.getD i 0 ∈ l2 := im.2.1 _ (getD_memI (by omega))
  have hm' : decide (l1.getD i 0 ∈ l2) = true := decide_eq_true hm
  simp (disch := first | assumption | omega | (simp only [az]; done)) only [ru, eq_self, if_true, if_false, BEq.rfl, binI, AO.row?, splice, fillL, mmAll, loadV, storeV, zeros, Am.rowAt, Am.part, addOff, Nat.reduceAdd, Nat.reduceMul, Nat.reduceLeDiff, Nat.reduceSub, Nat.reduceLT, Int.reduceEq, Int.reduceLT, Int.reduceLE, Int.reduceGT, Int.reduceGE, Int.reduceAdd, Int.reduceSub, Int.reduceMul, Int.reduceNeg, Int.reduceToNat, reduceCtorEq, reduceIte, lenV_sl H.h.k, lenV_sl H.h.p, lenV_sl H.h.b, elem_kd H.h.k, elem_pr H.h.p, elem_in H.h.b, view_sl H.h.k, view_sl H.h.p, view_sl H.h.b, scalar_sl H.h.k, scalar_sl H.h.p, scalar_sl H.h.b, cells_sl H.h.k, cells_sl H.h.p, cells_sl H.h.b, pure_sl H.h.k, pure_sl H.h.p, pure_sl H.h.b, Int.toNat_natCast, lenV_sl H.pk, view_sl H.pk, scalar_sl H.pk, cells_sl H.pk, pure_sl H.pk, H.bi.len, H.bi.sc, H.bi.ce, H.bi.pu, H.bi.vw, lenV_sl L1, elem_in L1, view_sl L1, scalar_sl L1, cells_sl L1, pure_sl L1, Int.toNat_natCast, lenV_sl L2, elem_in L2, view_sl L2, scalar_sl L2, cells_sl L2, pure_sl L2, Int.toNat_natCast, cc, hlt, a55', hm', gUn, decide_true, Bool.not_true]
  exact ih (l1.length - (i + 1)) _ _ _ (by omega) ⟨i + 1, by omega, rfl, cc, rfl, rfl, rfl, rfl, rfl, rfl, rfl, rfl, rfl, rfl⟩
end
end Go.Proofs.Ytfagcnokdnanpaa.S

