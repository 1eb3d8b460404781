/-
What is so in all truths: Drag, Safe and Spare.
-/
import Derived.Test.YtpflneddfhifkaaSk
namespace Go.Proofs.Ytpflneddfhifkaa.S
open Go Go.Am Go.Proofs.Ytpflneddfhifkaa.T
set_option maxRecDepth 100000
set_option linter.unusedSimpArgs false
set_option linter.unusedVariables false



theorem pvFn {f : Nat} : (AV.fn f [] []).pureV = true := id rfl
theorem resL_sc {l : List Int} : (resL l).scalar = true := scalar_sl (resL_is l)
theorem resL_ce {l : List Int} : (resL l).cells = [resL l] := cells_sl (resL_is l)
theorem resL_pu {l : List Int} : (resL l).pureV = true := pure_sl (resL_is l)
theorem resL_vi {l : List Int} : ∀ (g : List AO) (n : Nat), view false g n (resL l) = some (resL l) := view_sl (resL_is l)

theorem rough_good {n : Net} (hv : n.valid = true) : Good n (rough n) := by
  have B := netB hv
  have w0 := B.w0; have w1 := B.w1; have c0 := B.c0; have c1 := B.c1
  refine good_of hv ?_
  simp only [truthOk, rough, Bool.and_eq_true, inR_iff, decide_eq_true_eq, List.all_eq_true, List.mem_range, List.length_map]
  refine ⟨⟨⟨⟨by omega, by omega⟩, by omega, by omega⟩, trivial⟩, fun i hi => ?_⟩
  have G := B.g _ (getD_mem (l := n.grips) hi)
  have e : (n.grips.map Spn.lo).getD i default = (n.grips.getD i default).lo := by
    simp [List.getD_eq_getElem?_getD, hi]
  rw [e]; omega
theorem calm_good {n : Net} (hv : n.valid = true) : Good n (calm n) := by
  have B := netB hv
  have w0 := B.w0; have w1 := B.w1; have c0 := B.c0; have c1 := B.c1
  refine good_of hv ?_
  simp only [truthOk, calm, Bool.and_eq_true, inR_iff, decide_eq_true_eq, List.all_eq_true, List.mem_range, List.length_map]
  refine ⟨⟨⟨⟨by omega, by omega⟩, by omega, by omega⟩, trivial⟩, fun i hi => ?_⟩
  have G := B.g _ (getD_mem (l := n.grips) hi)
  have e : (n.grips.map Spn.hi).getD i default = (n.grips.getD i default).hi := by
    simp [List.getD_eq_getElem?_getD, hi]
  rw [e]; omega
theorem rough_ok {n : Net} {g a w : AV} (H : NetOk n g a w) : TruOk (rough n) (resL (rough n).grips) := ⟨resL_is _, by have := H.sg; simpa [rough] using this⟩
theorem calm_ok {n : Net} {g a w : AV} (H : NetOk n g a w) : TruOk (calm n) (resL (calm n).grips) := ⟨resL_is _, by have := H.sg; simpa [calm] using this⟩

abbrev netT (n : Net) (g a w : AV) (t : Tru) (v : AV) : AV := .agg [I n.wind.lo, I n.wind.hi, I n.cur.lo, I n.cur.hi, g, a, w, I t.wind, I t.cur, v]
theorem rdj {b : Nat} {J : List AO} {v : AV} {l : List Int} (H : (l = [] ∧ v = .nils) ∨ (l ≠ [] ∧ ∃ q sh, v = .ms 1 (b + q) 0 l.length ∧ J[q]? = some (.cells (l.flatMap fun n => [I n]) sh))) {h : List AO} (hb : h.length = b) : RdS (h ++ J) v l := by
  subst hb
  rcases H with h1 | ⟨hne, q, sh, rfl, hc⟩
  · exact .inl h1
  · exact .inr ⟨hne, h.length + q, sh, rfl, by rw [atT]; exact hc⟩
theorem s90 {n : Net} {g a w : AV} (H : NetOk n g a w) (hl : n.grips.length ≤ 3) : Iso E 90 [netV n g a w] false = some (netT n g a w (rough n) (resL (rough n).grips)) := by
  obtain ⟨v, J, q, hv⟩ := r115 H.g H.w (scalar_sl H.a) hl (h := [.cells [I n.wind.lo, I n.wind.hi, I n.cur.lo, I n.cur.hi, g, a, w] false, .cells [I 0, I 0, I 0, I 0, .nils, .nils, .nils, I 0, I 0, .nils] false]) (lim := 0) (Nat.zero_le _)
  have hr := fun x y => (rdj hv (h := [x, y]) rfl).view (st := false) (k := 6)
  obtain ⟨_, vc, vs⟩ := (rdj hv (h := [.cells [I n.wind.lo, I n.wind.hi, I n.cur.lo, I n.cur.hi, g, a, w] false, .cells [I 0, I 0, I 0, I 0, .nils, .nils, .nils, I 0, I 0, .nils] false]) rfl).len
  simp only [apC, apN] at q hr
  show Iso E 90 [netV n g a w] false = some (.agg [I n.wind.lo, I n.wind.hi, I n.cur.lo, I n.cur.hi, g, a, w, I n.wind.hi, I n.cur.hi, resL (n.grips.map Spn.lo)])
  refine Iso_of (es _ _ _ _) e90 ?_
  simp only [f90, netV]
  simp (disch := first | assumption | omega | (simp only [az]; done)) only [ru, eq_self, if_true, if_false, BEq.rfl, binI, AO.row?, splice, fillL, mmAll, loadV, storeV, zeros, Am.rowAt, Am.part, addOff, Nat.reduceAdd, Nat.reduceMul, Nat.reduceLeDiff, Nat.reduceSub, Nat.reduceLT, Int.reduceEq, Int.reduceLT, Int.reduceLE, Int.reduceGT, Int.reduceGE, Int.reduceAdd, Int.reduceSub, Int.reduceMul, Int.reduceNeg, Int.reduceToNat, reduceCtorEq, reduceIte, lenV_sl H.g, lenV_sl H.a, lenV_sl H.w, elem_sl Spn.el H.g, elem_sl Anc.el H.a, elem_sl Wal.el H.w, view_sl H.g, view_sl H.a, view_sl H.w, scalar_sl H.g, scalar_sl H.a, scalar_sl H.w, cells_sl H.g, cells_sl H.a, cells_sl H.w, pure_sl H.g, pure_sl H.a, pure_sl H.w, Spn.e, Anc.e, Wal.e, Spn.eta, Anc.eta, Wal.eta, Int.toNat_natCast, pvFn, q, vc, vs, hr, finC, getRes, Option.some.injEq, exists_eq_left']
theorem r90 {n : Net} {g a w : AV} (Hg : IsSl 2 Spn.e n.grips g) (Hw : IsSl 5 Wal.e n.walls w) (asc : a.scalar = true) (hl : n.grips.length ≤ 3) {h : List AO} {lim : Nat} (hlim : lim ≤ h.length) :
    ∃ v J, R E (.fn 90) [netV n g a w] h lim = some (netT n g a w (rough n) v, h ++ J) ∧ RdS (h ++ J) v (rough n).grips := by
  have k1 : ∀ k, lim ≤ h.length + k := fun k => by omega
  have gs := scalar_sl Hg; have ws := scalar_sl Hw
  obtain ⟨v, J, q, hv⟩ := r115 Hg Hw asc hl (h := h ++ [.cells [I n.wind.lo, I n.wind.hi, I n.cur.lo, I n.cur.hi, g, a, w] false, .cells [I 0, I 0, I 0, I 0, .nils, .nils, .nils, I 0, I 0, .nils] false]) (lim := lim) (by simp; omega)
  rw [List.append_assoc] at q
  simp only [apC, apN] at q
  have key : ∃ r h', R E (.fn 90) [netV n g a w] h lim = some (r, h') ∧ ∃ J', (r = netT n g a w (rough n) v ∧ h' = h ++ J') ∧ RdS (h ++ J') v (rough n).grips := by
    refine R_of _ (es _ _ _ _) e90 ?_
    simp only [f90, netV]
    obtain ⟨_, vc, vs⟩ := (rdj hv (h := h ++ [.cells [I n.wind.lo, I n.wind.hi, I n.cur.lo, I n.cur.hi, g, a, w] false, .cells [I 0, I 0, I 0, I 0, .nils, .nils, .nils, I 0, I 0, .nils] false]) rfl).len
    simp (disch := first | assumption | omega | (simp only [az]; done)) only [ru, eq_self, if_true, if_false, BEq.rfl, binI, AO.row?, splice, fillL, mmAll, loadV, storeV, zeros, Am.rowAt, Am.part, addOff, Nat.reduceAdd, Nat.reduceMul, Nat.reduceLeDiff, Nat.reduceSub, Nat.reduceLT, Int.reduceEq, Int.reduceLT, Int.reduceLE, Int.reduceGT, Int.reduceGE, Int.reduceAdd, Int.reduceSub, Int.reduceMul, Int.reduceNeg, Int.reduceToNat, reduceCtorEq, reduceIte, asc, gs, ws, q, vc, vs, finC, getRes, Option.some.injEq, exists_eq_left', List.append_assoc, lenE, setT, setT0, atT, atT0, getT, getT0, Nat.add_assoc, k1, hlim]
    refine ⟨_, ⟨rfl, rfl⟩, ?_⟩
    have := rdj hv (h := h ++ [.cells [I n.wind.lo, I n.wind.hi, I n.cur.lo, I n.cur.hi, g, a, w] false, .cells [I n.wind.lo, I n.wind.hi, I n.cur.lo, I n.cur.hi, g, a, w, I n.wind.hi, I n.cur.hi, v] false]) (by simp)
    rw [List.append_assoc] at this
    exact this
  obtain ⟨r, h', h1, J', ⟨rfl, rfl⟩, h2⟩ := key
  exact ⟨v, J', h1, h2⟩
theorem s89 {n : Net} {g a w : AV} (H : NetOk n g a w) (hl : n.grips.length ≤ 3) : Iso E 89 [netV n g a w] false = some (netT n g a w (calm n) (resL (calm n).grips)) := by
  have q := s115c H hl
  show Iso E 89 [netV n g a w] false = some (.agg [I n.wind.lo, I n.wind.hi, I n.cur.lo, I n.cur.hi, g, a, w, I n.wind.lo, I n.cur.lo, resL (n.grips.map Spn.hi)])
  refine Iso_of (es _ _ _ _) e89 ?_
  simp only [f89, netV]
  simp (disch := first | assumption | omega | (simp only [az]; done)) only [ru, eq_self, if_true, if_false, BEq.rfl, binI, AO.row?, splice, fillL, mmAll, loadV, storeV, zeros, Am.rowAt, Am.part, addOff, Nat.reduceAdd, Nat.reduceMul, Nat.reduceLeDiff, Nat.reduceSub, Nat.reduceLT, Int.reduceEq, Int.reduceLT, Int.reduceLE, Int.reduceGT, Int.reduceGE, Int.reduceAdd, Int.reduceSub, Int.reduceMul, Int.reduceNeg, Int.reduceToNat, reduceCtorEq, reduceIte, lenV_sl H.g, lenV_sl H.a, lenV_sl H.w, elem_sl Spn.el H.g, elem_sl Anc.el H.a, elem_sl Wal.el H.w, view_sl H.g, view_sl H.a, view_sl H.w, scalar_sl H.g, scalar_sl H.a, scalar_sl H.w, cells_sl H.g, cells_sl H.a, cells_sl H.w, pure_sl H.g, pure_sl H.a, pure_sl H.w, Spn.e, Anc.e, Wal.e, Spn.eta, Anc.eta, Wal.eta, Int.toNat_natCast, pvFn, q, resL_sc, resL_ce, resL_pu, resL_vi, finC, getRes, Option.some.injEq, exists_eq_left']

/-- nothing drags when all lie -/
def still (n : Net) (t : Tru) : Bool := decide (((lst n (stepS n t none6)).length : Int) = 0)
theorem s92 {n : Net} {g a w : AV} (H : NetOk n g a w) {t : Tru} {v : AV} (V : TruOk t v) (G : Fair n t) (st : Bool) : Iso E 92 [netT n g a w t v] st = some (Bo (still n t)) := by
  have q := fun st => s80 H V G st
  have q2 := fun st => s88 (fs_len (n := n) (t := t) (k := n.ancs.length)) st
  rw [first_lst G] at q2
  obtain ⟨D, hD⟩ : ∃ D, D = fs n t n.ancs.length := ⟨_, rfl⟩
  rw [← hD] at q2
  simp only [← hD] at q
  refine Iso_of (es _ _ _ _) e92 ?_
  simp only [f92, netT]
  simp (disch := first | assumption | omega | (simp only [az]; done)) only [ru, eq_self, if_true, if_false, BEq.rfl, binI, AO.row?, splice, fillL, mmAll, loadV, storeV, zeros, Am.rowAt, Am.part, addOff, Nat.reduceAdd, Nat.reduceMul, Nat.reduceLeDiff, Nat.reduceSub, Nat.reduceLT, Int.reduceEq, Int.reduceLT, Int.reduceLE, Int.reduceGT, Int.reduceGE, Int.reduceAdd, Int.reduceSub, Int.reduceMul, Int.reduceNeg, Int.reduceToNat, reduceCtorEq, reduceIte, lenV_sl H.g, lenV_sl H.a, lenV_sl H.w, elem_sl Spn.el H.g, elem_sl Anc.el H.a, elem_sl Wal.el H.w, view_sl H.g, view_sl H.a, view_sl H.w, scalar_sl H.g, scalar_sl H.a, scalar_sl H.w, cells_sl H.g, cells_sl H.a, cells_sl H.w, pure_sl H.g, pure_sl H.a, pure_sl H.w, Spn.e, Anc.e, Wal.e, Spn.eta, Anc.eta, Wal.eta, Int.toNat_natCast, lenV_sl V.s, elem_sl intE V.s, view_sl V.s, scalar_sl V.s, cells_sl V.s, pure_sl V.s, q, q2, view_bv, still]

def safeR (n : Net) : Int := if still n (rough n) then 1 else if still n (calm n) then 3 else 2
theorem s39 {n : Net} {g a w : AV} (H : NetOk n g a w) (hv : n.valid = true) (st : Bool) : Iso E 39 [netV n g a w] st = some (.tup [I (safeR n), I 0]) := by
  have lg := (netB hv).lg
  have q1 := fun st => s92 H (rough_ok H) (rough_good hv) st
  have q2 := fun st => s92 H (calm_ok H) (calm_good hv) st
  refine Iso_of (es _ _ _ _) e39 ?_
  simp only [f39, netV]
  simp only [netT] at q1 q2
  simp (disch := first | assumption | omega | (simp only [az]; done)) only [ru, eq_self, if_true, if_false, BEq.rfl, binI, AO.row?, splice, fillL, mmAll, loadV, storeV, zeros, Am.rowAt, Am.part, addOff, Nat.reduceAdd, Nat.reduceMul, Nat.reduceLeDiff, Nat.reduceSub, Nat.reduceLT, Int.reduceEq, Int.reduceLT, Int.reduceLE, Int.reduceGT, Int.reduceGE, Int.reduceAdd, Int.reduceSub, Int.reduceMul, Int.reduceNeg, Int.reduceToNat, reduceCtorEq, reduceIte, lenV_sl H.g, lenV_sl H.a, lenV_sl H.w, elem_sl Spn.el H.g, elem_sl Anc.el H.a, elem_sl Wal.el H.w, view_sl H.g, view_sl H.a, view_sl H.w, scalar_sl H.g, scalar_sl H.a, scalar_sl H.w, cells_sl H.g, cells_sl H.a, cells_sl H.w, pure_sl H.g, pure_sl H.a, pure_sl H.w, Spn.e, Anc.e, Wal.e, Spn.eta, Anc.eta, Wal.eta, Int.toNat_natCast, s18 H, hv, s90 H lg, s89 H lg, q1, q2, resL_sc, resL_ce, resL_pu, resL_vi, s76, safeR]

theorem rd_is {n : Net} {t : Tru} (G : Fair n t) {i : Nat} (hi : i < n.ancs.length) : gb (rd n t zeros6 n.ancs.length) i = lfp n t none6 i := by
  have B := netB G.v
  have h := rd_lfp (good_pos G) B.lw (b := zeros6) (by have := B.la; simp [zeros6]; omega)
  rw [show gb zeros6 = none6 from gb_zeros] at h
  exact (lfp_unique (lfp_is h) h i hi).symm

def dragR (n : Net) (i : Nat) (c r : Bool) : Int := if c then 1 else if r then 3 else 2
theorem s37 {n : Net} {g a w : AV} (H : NetOk n g a w) (hv : n.valid = true) {i : Nat} (hi : i < n.ancs.length) (st : Bool) : Iso E 37 [netV n g a w, I i] st = some (.tup [I (dragR n i (lfp n (calm n) none6 i) (lfp n (rough n) none6 i)), I 0]) := by
  have B := netB hv
  have lg := B.lg; have la := B.la
  have q1 := fun st => s84 H (rough_ok H) (rough_good hv) (b := zeros6) rfl st
  have q2 := fun st => s84 H (calm_ok H) (calm_good hv) (b := zeros6) rfl st
  have r1 := rd_is (rough_good hv).toFair hi
  have r2 := rd_is (calm_good hv).toFair hi
  obtain ⟨D, hD⟩ : ∃ D, D = rd n (rough n) zeros6 n.ancs.length := ⟨_, rfl⟩
  obtain ⟨C, hC⟩ : ∃ C, C = rd n (calm n) zeros6 n.ancs.length := ⟨_, rfl⟩
  have lD : D.length = 6 := by rw [hD, rd_len]; rfl
  have lC : C.length = 6 := by rw [hC, rd_len]; rfl
  simp only [← hD] at q1 r1
  simp only [← hC] at q2 r2
  simp only [zeros6, List.map_cons, List.map_nil] at q1 q2
  have h0 : (0 : Int) ≤ i := by omega
  have h6 : (i : Int) < 6 := by omega
  have hx : inR (i : Int) 0 ((n.ancs.length : Int) - 1) = true := inR_iff.2 (by omega)
  have d1 := headB (b := D) (i := i) (by omega)
  have d2 := headB (b := C) (i := i) (by omega)
  refine Iso_of (es _ _ _ _) e37 ?_
  simp only [f37, netV]
  simp (disch := first | assumption | omega | (simp only [az]; done)) only [ru, eq_self, if_true, if_false, BEq.rfl, binI, AO.row?, splice, fillL, mmAll, loadV, storeV, zeros, Am.rowAt, Am.part, addOff, Nat.reduceAdd, Nat.reduceMul, Nat.reduceLeDiff, Nat.reduceSub, Nat.reduceLT, Int.reduceEq, Int.reduceLT, Int.reduceLE, Int.reduceGT, Int.reduceGE, Int.reduceAdd, Int.reduceSub, Int.reduceMul, Int.reduceNeg, Int.reduceToNat, reduceCtorEq, reduceIte, lenV_sl H.g, lenV_sl H.a, lenV_sl H.w, elem_sl Spn.el H.g, elem_sl Anc.el H.a, elem_sl Wal.el H.w, view_sl H.g, view_sl H.a, view_sl H.w, scalar_sl H.g, scalar_sl H.a, scalar_sl H.w, cells_sl H.g, cells_sl H.a, cells_sl H.w, pure_sl H.g, pure_sl H.a, pure_sl H.w, Spn.e, Anc.e, Wal.e, Spn.eta, Anc.eta, Wal.eta, Int.toNat_natCast, s86 H, hx, s68 H, hv, s90 H lg, s89 H lg, q1, q2, resL_sc, resL_ce, resL_pu, resL_vi, view_bv, takeB lD, lenB lD, takeB lC, lenB lC, scalB, Nat.mul_one, h0, h6, d1, d2, r1, r2, s76, dragR]

def spareI (n : Net) (t : Tru) (i : Nat) : Int := canI n t i - bearsI n t i none6
theorem spareI_eq {n : Net} {t : Tru} {i : Nat} : canI n t i - bearsI n t i none6 = spareI n t i := id rfl
theorem finCT {lim i s j : Nat} {a : Bool} {P : AV → List AO → Prop} {ts : List AV} {h : List AO} : Done lim [.cell a s i, .tmp j] P .ret ⟨ts, h, []⟩ = ∃ v, getRes ts h (.cell a s i) = some v ∧ P (.tup [v, ts.getD j .undef]) h := by
  have e : getRes ts h (.tmp j) = some (ts.getD j .undef) := rfl
  simp only [Done, finish, takeMarks, List.all_nil, if_true, List.mapM_cons, List.mapM_nil, Option.bind_eq_bind, Option.pure_def, e]
  cases getRes ts h (.cell a s i) <;> simp
theorem s41 {n : Net} {g a w : AV} (H : NetOk n g a w) (hv : n.valid = true) {i : Nat} (hi : i < n.ancs.length) (st : Bool) : Iso E 41 [netV n g a w, I i] st = some (.tup [.agg [I (spareI n (rough n) i), I (spareI n (calm n) i)], I 0]) := by
  have B := netB hv
  have lg := B.lg
  have q1 := fun st => s94 H (rough_ok H) (rough_good hv) (b := zeros6) rfl hi st
  have q2 := fun st => s94 H (calm_ok H) (calm_good hv) (b := zeros6) rfl hi st
  rw [gb_zeros] at q1 q2
  simp only [spareI_eq] at q1 q2
  simp only [zeros6, List.map_cons, List.map_nil] at q1 q2
  have hx : inR (i : Int) 0 ((n.ancs.length : Int) - 1) = true := inR_iff.2 (by omega)
  refine Iso_of (es _ _ _ _) e41 ?_
  simp only [f41, netV]
  simp (disch := first | assumption | omega | (simp only [az]; done)) only [ru, eq_self, if_true, if_false, BEq.rfl, binI, AO.row?, splice, fillL, mmAll, loadV, storeV, zeros, Am.rowAt, Am.part, addOff, Nat.reduceAdd, Nat.reduceMul, Nat.reduceLeDiff, Nat.reduceSub, Nat.reduceLT, Int.reduceEq, Int.reduceLT, Int.reduceLE, Int.reduceGT, Int.reduceGE, Int.reduceAdd, Int.reduceSub, Int.reduceMul, Int.reduceNeg, Int.reduceToNat, reduceCtorEq, reduceIte, lenV_sl H.g, lenV_sl H.a, lenV_sl H.w, elem_sl Spn.el H.g, elem_sl Anc.el H.a, elem_sl Wal.el H.w, view_sl H.g, view_sl H.a, view_sl H.w, scalar_sl H.g, scalar_sl H.a, scalar_sl H.w, cells_sl H.g, cells_sl H.a, cells_sl H.w, pure_sl H.g, pure_sl H.a, pure_sl H.w, Spn.e, Anc.e, Wal.e, Spn.eta, Anc.eta, Wal.eta, Int.toNat_natCast, s86 H, hx, s68 H, hv, s90 H lg, s89 H lg, q1, q2, resL_sc, resL_ce, resL_pu, resL_vi, finCT, getRes, Option.some.injEq, exists_eq_left']

theorem bears_bd {n : Net} {t : Tru} (G : Fair n t) {i : Nat} (hi : i < n.ancs.length) (D : Nat → Bool) : 0 ≤ bearsI n t i D ∧ bearsI n t i D ≤ 1440 := by
  have lw := (netB G.v).lw
  have tw : ∀ (k : Nat) (d : Bool), k < n.walls.length → 0 ≤ twice d (ldI n t k) ∧ twice d (ldI n t k) ≤ 720 := fun k d hk => by
    have := good_ld G hk
    unfold twice; split <;> omega
  unfold bearsI
  have h1 := tw (i - 1) (D (i - 1))
  have h2 := tw i (D (i + 1))
  split <;> split <;> omega
theorem s55 {n : Net} {g a w : AV} (H : NetOk n g a w) {t : Tru} {v : AV} (V : TruOk t v) (G : Fair n t) {i : Nat} (hi : i < n.ancs.length) (st : Bool) : Iso E 55 [netV n g a w, .agg [I t.wind, I t.cur, v], I i] st = some (I (spareI n t i)) := by
  have c := good_anc G hi
  have b := bears_bd G hi none6
  have q := fun st => s104 H V G nil0 (by simp) hi st
  have e : (fun (j : Nat) => anyIs [] (j : Int)) = none6 := rfl
  rw [e] at q
  have c1 : 0 ≤ canI n t i ∧ canI n t i ≤ 360 := by unfold canI; omega
  refine Iso_of (es _ _ _ _) e55 ?_
  simp only [f55, netV]
  simp (disch := first | assumption | omega | (simp only [az]; done)) only [ru, eq_self, if_true, if_false, BEq.rfl, binI, AO.row?, splice, fillL, mmAll, loadV, storeV, zeros, Am.rowAt, Am.part, addOff, Nat.reduceAdd, Nat.reduceMul, Nat.reduceLeDiff, Nat.reduceSub, Nat.reduceLT, Int.reduceEq, Int.reduceLT, Int.reduceLE, Int.reduceGT, Int.reduceGE, Int.reduceAdd, Int.reduceSub, Int.reduceMul, Int.reduceNeg, Int.reduceToNat, reduceCtorEq, reduceIte, lenV_sl H.g, lenV_sl H.a, lenV_sl H.w, elem_sl Spn.el H.g, elem_sl Anc.el H.a, elem_sl Wal.el H.w, view_sl H.g, view_sl H.a, view_sl H.w, scalar_sl H.g, scalar_sl H.a, scalar_sl H.w, cells_sl H.g, cells_sl H.a, cells_sl H.w, pure_sl H.g, pure_sl H.a, pure_sl H.w, Spn.e, Anc.e, Wal.e, Spn.eta, Anc.eta, Wal.eta, Int.toNat_natCast, lenV_sl V.s, elem_sl intE V.s, view_sl V.s, scalar_sl V.s, cells_sl V.s, pure_sl V.s, s103 H V G hi, q, spareI]
end Go.Proofs.Ytpflneddfhifkaa.S
