import Derived.Test.YtpflneddfhifkaaSe
namespace Go.Proofs.Ytpflneddfhifkaa.S
open Go Go.Am Go.Proofs.Ytpflneddfhifkaa.T
set_option maxRecDepth 100000
set_option linter.unusedSimpArgs false
set_option linter.unusedVariables false



theorem given_fit {n : Net} {t : Tru} : (if n.valid then (if truthOk n t then (0 : Int) else 1) else 20) = givenE n t := rfl

theorem first_lst {n : Net} {t : Tru} (G : Fair n t) : upto (gb (fs n t n.ancs.length)) 6 = lst n (stepS n t none6) := by
  have la := (netB G.v).la
  refine lst_upto la (fun i hi => ?_) (fun i hi => ?_)
  · rw [fs_at i la, if_pos hi]; simp [stepS, none6]
  · rw [fs_at i la, if_neg (by omega)]
theorem drags_lst {n : Net} {t : Tru} (G : Fair n t) {b : List Bool} (hb : b.length = 6) (ho : ∀ i, n.ancs.length ≤ i → gb b i = false) : upto (gb (rd n t b n.ancs.length)) 6 = lst n (lfp n t (gb b)) := by
  have B := netB G.v
  have la := B.la
  have h := rd_lfp (good_pos G) B.lw (b := b) (by omega)
  refine lst_upto la (fun i hi => lfp_unique (lfp_is h) h i hi) (fun i hi => ?_)
  rw [rd_out (by omega) i hi, ho i hi]

theorem s26 {n : Net} {g a w : AV} (H : NetOk n g a w) {t : Tru} {v : AV} (V : TruOk t v) : Iso E 26 [netV n g a w, .agg [I t.wind, I t.cur, v]] false = some (ansL n t (stepS n t none6)) := by
  refine Iso_of (es _ _ _ _) e26 ?_
  simp only [f26, netV]
  rcases given_cases n t with ⟨h0, G⟩ | ⟨h0, _⟩
  · have q := fun st => s81 (fs_len (n := n) (t := t) (k := n.ancs.length)) st
    rw [first_lst G] at q
    simp (disch := first | assumption | omega | (simp only [az]; done)) only [ru, eq_self, if_true, if_false, BEq.rfl, binI, AO.row?, splice, fillL, mmAll, loadV, storeV, zeros, Am.rowAt, Am.part, addOff, Nat.reduceAdd, Nat.reduceMul, Nat.reduceLeDiff, Nat.reduceSub, Nat.reduceLT, Int.reduceEq, Int.reduceLT, Int.reduceLE, Int.reduceGT, Int.reduceGE, Int.reduceAdd, Int.reduceSub, Int.reduceMul, Int.reduceNeg, Int.reduceToNat, reduceCtorEq, reduceIte, s79 H V, s68 H, given_fit, lenV_sl H.g, lenV_sl H.a, lenV_sl H.w, elem_sl Spn.el H.g, elem_sl Anc.el H.a, elem_sl Wal.el H.w, view_sl H.g, view_sl H.a, view_sl H.w, scalar_sl H.g, scalar_sl H.a, scalar_sl H.w, cells_sl H.g, cells_sl H.a, cells_sl H.w, pure_sl H.g, pure_sl H.a, pure_sl H.w, Spn.e, Anc.e, Wal.e, Spn.eta, Anc.eta, Wal.eta, Int.toNat_natCast, lenV_sl V.s, elem_sl intE V.s, view_sl V.s, scalar_sl V.s, cells_sl V.s, pure_sl V.s, h0, s80 H V G, q, view_bv, view_sl (resL_is (lst n (stepS n t none6)))]
    simp only [ansL, errL, h0, if_true]
  · simp (disch := first | assumption | omega | (simp only [az]; done)) only [ru, eq_self, if_true, if_false, BEq.rfl, binI, AO.row?, splice, fillL, mmAll, loadV, storeV, zeros, Am.rowAt, Am.part, addOff, Nat.reduceAdd, Nat.reduceMul, Nat.reduceLeDiff, Nat.reduceSub, Nat.reduceLT, Int.reduceEq, Int.reduceLT, Int.reduceLE, Int.reduceGT, Int.reduceGE, Int.reduceAdd, Int.reduceSub, Int.reduceMul, Int.reduceNeg, Int.reduceToNat, reduceCtorEq, reduceIte, s79 H V, s68 H, given_fit, lenV_sl H.g, lenV_sl H.a, lenV_sl H.w, elem_sl Spn.el H.g, elem_sl Anc.el H.a, elem_sl Wal.el H.w, view_sl H.g, view_sl H.a, view_sl H.w, scalar_sl H.g, scalar_sl H.a, scalar_sl H.w, cells_sl H.g, cells_sl H.a, cells_sl H.w, pure_sl H.g, pure_sl H.a, pure_sl H.w, Spn.e, Anc.e, Wal.e, Spn.eta, Anc.eta, Wal.eta, Int.toNat_natCast, lenV_sl V.s, elem_sl intE V.s, view_sl V.s, scalar_sl V.s, cells_sl V.s, pure_sl V.s, h0]
    simp only [ansL, errL, h0, if_false, resL_nil]

theorem s28 {n : Net} {g a w : AV} (H : NetOk n g a w) {t : Tru} {v : AV} (V : TruOk t v) : Iso E 28 [netV n g a w, .agg [I t.wind, I t.cur, v]] false = some (ansL n t (lfp n t none6)) := by
  refine Iso_of (es _ _ _ _) e28 ?_
  simp only [f28, netV]
  rcases given_cases n t with ⟨h0, G⟩ | ⟨h0, _⟩
  · have q := fun st => s81 (b := rd n t zeros6 n.ancs.length) (by rw [rd_len]; rfl) st
    rw [drags_lst G (b := zeros6) rfl (fun i _ => by rw [gb_zeros]; rfl), gb_zeros] at q
    have q2 := fun st => s84 H V G (b := zeros6) rfl st
    obtain ⟨D, hD⟩ : ∃ D, D = rd n t zeros6 n.ancs.length := ⟨_, rfl⟩
    rw [← hD] at q
    simp only [← hD] at q2
    simp only [zeros6, List.map_cons, List.map_nil] at q2
    simp (disch := first | assumption | omega | (simp only [az]; done)) only [ru, eq_self, if_true, if_false, BEq.rfl, binI, AO.row?, splice, fillL, mmAll, loadV, storeV, zeros, Am.rowAt, Am.part, addOff, Nat.reduceAdd, Nat.reduceMul, Nat.reduceLeDiff, Nat.reduceSub, Nat.reduceLT, Int.reduceEq, Int.reduceLT, Int.reduceLE, Int.reduceGT, Int.reduceGE, Int.reduceAdd, Int.reduceSub, Int.reduceMul, Int.reduceNeg, Int.reduceToNat, reduceCtorEq, reduceIte, s79 H V, s68 H, given_fit, lenV_sl H.g, lenV_sl H.a, lenV_sl H.w, elem_sl Spn.el H.g, elem_sl Anc.el H.a, elem_sl Wal.el H.w, view_sl H.g, view_sl H.a, view_sl H.w, scalar_sl H.g, scalar_sl H.a, scalar_sl H.w, cells_sl H.g, cells_sl H.a, cells_sl H.w, pure_sl H.g, pure_sl H.a, pure_sl H.w, Spn.e, Anc.e, Wal.e, Spn.eta, Anc.eta, Wal.eta, Int.toNat_natCast, lenV_sl V.s, elem_sl intE V.s, view_sl V.s, scalar_sl V.s, cells_sl V.s, pure_sl V.s, h0, q2, q, view_bv, view_sl (resL_is (lst n (lfp n t none6)))]
    simp only [ansL, errL, h0, if_true]
  · simp (disch := first | assumption | omega | (simp only [az]; done)) only [ru, eq_self, if_true, if_false, BEq.rfl, binI, AO.row?, splice, fillL, mmAll, loadV, storeV, zeros, Am.rowAt, Am.part, addOff, Nat.reduceAdd, Nat.reduceMul, Nat.reduceLeDiff, Nat.reduceSub, Nat.reduceLT, Int.reduceEq, Int.reduceLT, Int.reduceLE, Int.reduceGT, Int.reduceGE, Int.reduceAdd, Int.reduceSub, Int.reduceMul, Int.reduceNeg, Int.reduceToNat, reduceCtorEq, reduceIte, s79 H V, s68 H, given_fit, lenV_sl H.g, lenV_sl H.a, lenV_sl H.w, elem_sl Spn.el H.g, elem_sl Anc.el H.a, elem_sl Wal.el H.w, view_sl H.g, view_sl H.a, view_sl H.w, scalar_sl H.g, scalar_sl H.a, scalar_sl H.w, cells_sl H.g, cells_sl H.a, cells_sl H.w, pure_sl H.g, pure_sl H.a, pure_sl H.w, Spn.e, Anc.e, Wal.e, Spn.eta, Anc.eta, Wal.eta, Int.toNat_natCast, lenV_sl V.s, elem_sl intE V.s, view_sl V.s, scalar_sl V.s, cells_sl V.s, pure_sl V.s, h0]
    simp only [ansL, errL, h0, if_false, resL_nil]

/-- it reads so in a heap, and in all that come out of it -/
def Vw (h : List AO) (v c : AV) : Prop := ∀ J, view false (h ++ J) 7 v = some c
theorem Vw.at2 {h : List AO} {v c : AV} (H : Vw h v c) (x y : AO) : view false (h ++ [x] ++ [y]) 7 v = some c := by rw [List.append_assoc]; exact H _
theorem Vw.more {h : List AO} {v c : AV} (H : Vw h v c) (J : List AO) : Vw (h ++ J) v c := fun K => by rw [List.append_assoc]; exact H _
theorem vw_sl {α : Type} {esz : Nat} {enc : α → List AV} {l : List α} {v : AV} (h : IsSl esz enc l v) (g : List AO) : Vw g v v := fun J => view_sl h _ _
theorem resL_un (l : List Int) (k : Nat) : (resL l).under k = true := by unfold resL; split <;> rfl
theorem unT {k : Nat} {c : List AV} : (AV.tup c).under k = AV.under.go k c := id rfl
theorem unN {k : Nat} : AV.under.go k [] = true := id rfl
theorem unC {k : Nat} {v : AV} {c : List AV} : AV.under.go k (v :: c) = (v.under k && AV.under.go k c) := id rfl
theorem unI {k : Nat} {t : IntKind} {i : Int} : (AV.int t i).under k = true := id rfl
theorem unB {k : Nat} {b : Bool} : (AV.bool b).under k = true := id rfl
theorem ansL_un (n : Net) (t : Tru) (D : Nat → Bool) (k : Nat) : (ansL n t D).under k = true := by
  simp only [ansL, unT, unC, unN, unI, resL_un, Bool.and_self]

/-- the same in whatever heap -/
theorem r28 {n : Net} {g a w g' a' w' : AV} (H : NetOk n g' a' w') {t : Tru} {v : AV} (V : TruOk t v) {h : List AO} (hg : Vw h g g') (ha : Vw h a a') (hw : Vw h w w') : Ro E 28 [netV n g a w, .agg [I t.wind, I t.cur, v]] h = some (ansL n t (lfp n t none6)) := by
  have un := ansL_un n t (lfp n t none6) h.length
  refine Ro_of (es _ _ _ _) e28 ?_
  simp only [f28, netV]
  have vg := hg.at2; have va := ha.at2; have vw := hw.at2
  rcases given_cases n t with ⟨h0, G⟩ | ⟨h0, _⟩
  · have q := fun st => s81 (b := rd n t zeros6 n.ancs.length) (by rw [rd_len]; rfl) st
    rw [drags_lst G (b := zeros6) rfl (fun i _ => by rw [gb_zeros]; rfl), gb_zeros] at q
    have q2 := fun st => s84 H V G (b := zeros6) rfl st
    obtain ⟨D, hD⟩ : ∃ D, D = rd n t zeros6 n.ancs.length := ⟨_, rfl⟩
    rw [← hD] at q
    simp only [← hD] at q2
    simp only [zeros6, List.map_cons, List.map_nil] at q2
    simp (disch := first | assumption | omega | (simp only [az]; done)) only [ru, eq_self, if_true, if_false, BEq.rfl, binI, AO.row?, splice, fillL, mmAll, loadV, storeV, zeros, Am.rowAt, Am.part, addOff, Nat.reduceAdd, Nat.reduceMul, Nat.reduceLeDiff, Nat.reduceSub, Nat.reduceLT, Int.reduceEq, Int.reduceLT, Int.reduceLE, Int.reduceGT, Int.reduceGE, Int.reduceAdd, Int.reduceSub, Int.reduceMul, Int.reduceNeg, Int.reduceToNat, reduceCtorEq, reduceIte, s79 H V, s68 H, given_fit, lenV_sl V.s, elem_sl intE V.s, view_sl V.s, scalar_sl V.s, cells_sl V.s, pure_sl V.s, vg, va, vw, h0, q2, q, view_bv, view_sl (resL_is (lst n (lfp n t none6)))]
    refine ⟨?_, un⟩
    simp only [ansL, errL, h0, if_true]
  · simp (disch := first | assumption | omega | (simp only [az]; done)) only [ru, eq_self, if_true, if_false, BEq.rfl, binI, AO.row?, splice, fillL, mmAll, loadV, storeV, zeros, Am.rowAt, Am.part, addOff, Nat.reduceAdd, Nat.reduceMul, Nat.reduceLeDiff, Nat.reduceSub, Nat.reduceLT, Int.reduceEq, Int.reduceLT, Int.reduceLE, Int.reduceGT, Int.reduceGE, Int.reduceAdd, Int.reduceSub, Int.reduceMul, Int.reduceNeg, Int.reduceToNat, reduceCtorEq, reduceIte, s79 H V, s68 H, given_fit, lenV_sl V.s, elem_sl intE V.s, view_sl V.s, scalar_sl V.s, cells_sl V.s, pure_sl V.s, vg, va, vw, h0]
    refine ⟨?_, un⟩
    simp only [ansL, errL, h0, if_false, resL_nil]

theorem gb_one {x i : Nat} (hx : x < 6) : gb (zeros6.set x true) i = one6 x i := by
  rw [gb_set (by simp [zeros6]; omega), gb_zeros]
  by_cases h : x = i
  · subst h; simp [one6]
  · rw [if_neg h]; simp [one6, none6]; omega
theorem pull_lst {n : Net} {t : Tru} (G : Fair n t) {x : Nat} (hx : x < n.ancs.length) : upto (gb (rd n t (zeros6.set x true) n.ancs.length)) 6 = lst n (lfp n t (one6 x)) := by
  have la := (netB G.v).la
  rw [drags_lst G (b := zeros6.set x true) (by simp [zeros6]) (fun i hi => by rw [gb_one (by omega)]; simp [one6]; omega)]
  have : gb (zeros6.set x true) = one6 x := funext fun i => gb_one (by omega)
  rw [this]

theorem s87 {n : Net} {g a w : AV} (H : NetOk n g a w) {t : Tru} {v : AV} (V : TruOk t v) (G : Fair n t) {x : Nat} (hx : x < n.ancs.length) (st : Bool) : Iso E 87 [.agg [I n.wind.lo, I n.wind.hi, I n.cur.lo, I n.cur.hi, g, a, w, I t.wind, I t.cur, v], I x] st = some (.agg ((rd n t (zeros6.set x true) n.ancs.length).map Bo)) := by
  have la := (netB G.v).la
  have hset := setB (b := zeros6) (i := x) (x := true) (by simp [zeros6]; omega)
  have hl : (zeros6.set x true).length = 6 := by simp [zeros6]
  have q := fun st => s84 H V G hl st
  have hr : (rd n t (zeros6.set x true) n.ancs.length).length = 6 := by rw [rd_len, hl]
  obtain ⟨D, hD⟩ : ∃ D, D = rd n t (zeros6.set x true) n.ancs.length := ⟨_, rfl⟩
  obtain ⟨b0, hb0⟩ : ∃ b0, b0 = zeros6.set x true := ⟨_, rfl⟩
  simp only [← hD] at q
  rw [← hD] at hr ⊢
  rw [← hb0] at hl hset
  simp only [← hb0] at q
  simp only [zeros6, List.map_cons, List.map_nil, dropS] at hset
  have h0 : (0 : Int) ≤ x := by omega
  have h6 : (x : Int) < 6 := by omega
  have h7 : x + 1 ≤ 6 := by omega
  refine Iso_of (es _ _ _ _) e87 ?_
  simp only [f87]
  simp (disch := first | assumption | omega | (simp only [az]; done)) only [ru, eq_self, if_true, if_false, BEq.rfl, binI, AO.row?, splice, fillL, mmAll, loadV, storeV, zeros, Am.rowAt, Am.part, addOff, Nat.reduceAdd, Nat.reduceMul, Nat.reduceLeDiff, Nat.reduceSub, Nat.reduceLT, Int.reduceEq, Int.reduceLT, Int.reduceLE, Int.reduceGT, Int.reduceGE, Int.reduceAdd, Int.reduceSub, Int.reduceMul, Int.reduceNeg, Int.reduceToNat, reduceCtorEq, reduceIte, lenV_sl H.g, lenV_sl H.a, lenV_sl H.w, elem_sl Spn.el H.g, elem_sl Anc.el H.a, elem_sl Wal.el H.w, view_sl H.g, view_sl H.a, view_sl H.w, scalar_sl H.g, scalar_sl H.a, scalar_sl H.w, cells_sl H.g, cells_sl H.a, cells_sl H.w, pure_sl H.g, pure_sl H.a, pure_sl H.w, Spn.e, Anc.e, Wal.e, Spn.eta, Anc.eta, Wal.eta, Int.toNat_natCast, lenV_sl V.s, elem_sl intE V.s, view_sl V.s, scalar_sl V.s, cells_sl V.s, pure_sl V.s, h0, h6, h7, Int.toNat_natCast, Nat.mul_one, hset, takeB hl, lenB hl, q, view_bv, takeB hr, lenB hr, scalB, finC, getRes, Option.some.injEq, exists_eq_left']

theorem s31 {n : Net} {g a w : AV} (H : NetOk n g a w) {t : Tru} {v : AV} (V : TruOk t v) (x : Int) : Iso E 31 [netV n g a w, .agg [I t.wind, I t.cur, v], I x] false = some (ansP n t x) := by
  have sa := H.sa
  refine Iso_of (es _ _ _ _) e31 ?_
  simp only [f31, netV]
  cases ht : truthOk n t
  · have h0 : ¬ givenE n t = 0 := by simp only [givenE, ht]; split <;> simp
    have e : (if n.valid then (1 : Int) else 20) = givenE n t := by simp only [givenE, ht]; rfl
    simp (disch := first | assumption | omega | (simp only [az]; done)) only [ru, eq_self, if_true, if_false, BEq.rfl, binI, AO.row?, splice, fillL, mmAll, loadV, storeV, zeros, Am.rowAt, Am.part, addOff, Nat.reduceAdd, Nat.reduceMul, Nat.reduceLeDiff, Nat.reduceSub, Nat.reduceLT, Int.reduceEq, Int.reduceLT, Int.reduceLE, Int.reduceGT, Int.reduceGE, Int.reduceAdd, Int.reduceSub, Int.reduceMul, Int.reduceNeg, Int.reduceToNat, reduceCtorEq, reduceIte, s79 H V, s68 H, lenV_sl H.g, lenV_sl H.a, lenV_sl H.w, elem_sl Spn.el H.g, elem_sl Anc.el H.a, elem_sl Wal.el H.w, view_sl H.g, view_sl H.a, view_sl H.w, scalar_sl H.g, scalar_sl H.a, scalar_sl H.w, cells_sl H.g, cells_sl H.a, cells_sl H.w, pure_sl H.g, pure_sl H.a, pure_sl H.w, Spn.e, Anc.e, Wal.e, Spn.eta, Anc.eta, Wal.eta, Int.toNat_natCast, lenV_sl V.s, elem_sl intE V.s, view_sl V.s, scalar_sl V.s, cells_sl V.s, pure_sl V.s, ht, e, h0]
    simp only [ansP, pulledE, errL, h0, if_false, resL_nil]
  · cases hv : n.valid
    · have h0 : ¬ givenE n t = 0 := by simp [givenE, hv]
      have e : (20 : Int) = givenE n t := by simp [givenE, hv]
      simp (disch := first | assumption | omega | (simp only [az]; done)) only [ru, eq_self, if_true, if_false, BEq.rfl, binI, AO.row?, splice, fillL, mmAll, loadV, storeV, zeros, Am.rowAt, Am.part, addOff, Nat.reduceAdd, Nat.reduceMul, Nat.reduceLeDiff, Nat.reduceSub, Nat.reduceLT, Int.reduceEq, Int.reduceLT, Int.reduceLE, Int.reduceGT, Int.reduceGE, Int.reduceAdd, Int.reduceSub, Int.reduceMul, Int.reduceNeg, Int.reduceToNat, reduceCtorEq, reduceIte, s79 H V, s86 H, s68 H, lenV_sl H.g, lenV_sl H.a, lenV_sl H.w, elem_sl Spn.el H.g, elem_sl Anc.el H.a, elem_sl Wal.el H.w, view_sl H.g, view_sl H.a, view_sl H.w, scalar_sl H.g, scalar_sl H.a, scalar_sl H.w, cells_sl H.g, cells_sl H.a, cells_sl H.w, pure_sl H.g, pure_sl H.a, pure_sl H.w, Spn.e, Anc.e, Wal.e, Spn.eta, Anc.eta, Wal.eta, Int.toNat_natCast, lenV_sl V.s, elem_sl intE V.s, view_sl V.s, scalar_sl V.s, cells_sl V.s, pure_sl V.s, ht, hv]
      simp only [ansP, pulledE, errL, h0, if_false, resL_nil]
      all_goals (try rw [← e])
    · have G : Good n t := good_of hv ht
      have h0 : givenE n t = 0 := by simp [givenE, hv, ht]
      cases hx : inR x 0 (n.ancs.length - 1)
      · simp (disch := first | assumption | omega | (simp only [az]; done)) only [ru, eq_self, if_true, if_false, BEq.rfl, binI, AO.row?, splice, fillL, mmAll, loadV, storeV, zeros, Am.rowAt, Am.part, addOff, Nat.reduceAdd, Nat.reduceMul, Nat.reduceLeDiff, Nat.reduceSub, Nat.reduceLT, Int.reduceEq, Int.reduceLT, Int.reduceLE, Int.reduceGT, Int.reduceGE, Int.reduceAdd, Int.reduceSub, Int.reduceMul, Int.reduceNeg, Int.reduceToNat, reduceCtorEq, reduceIte, s79 H V, s86 H, s68 H, lenV_sl H.g, lenV_sl H.a, lenV_sl H.w, elem_sl Spn.el H.g, elem_sl Anc.el H.a, elem_sl Wal.el H.w, view_sl H.g, view_sl H.a, view_sl H.w, scalar_sl H.g, scalar_sl H.a, scalar_sl H.w, cells_sl H.g, cells_sl H.a, cells_sl H.w, pure_sl H.g, pure_sl H.a, pure_sl H.w, Spn.e, Anc.e, Wal.e, Spn.eta, Anc.eta, Wal.eta, Int.toNat_natCast, lenV_sl V.s, elem_sl intE V.s, view_sl V.s, scalar_sl V.s, cells_sl V.s, pure_sl V.s, ht, hv, hx]
        simp only [ansP, pulledE, errL, h0, hx, if_true, if_false, Bool.false_eq_true]
        all_goals rfl
      · have hx' := inR_iff.1 hx
        obtain ⟨k, rfl⟩ : ∃ k : Nat, x = k := ⟨x.toNat, by omega⟩
        have hk : k < n.ancs.length := by omega
        have q := fun st => s81 (b := rd n t (zeros6.set k true) n.ancs.length) (by rw [rd_len]; simp [zeros6]) st
        rw [pull_lst G.toFair hk] at q
        have q2 := fun st => s87 H V G hk st
        obtain ⟨D, hD⟩ : ∃ D, D = rd n t (zeros6.set k true) n.ancs.length := ⟨_, rfl⟩
        rw [← hD] at q
        simp only [← hD] at q2
        simp (disch := first | assumption | omega | (simp only [az]; done)) only [ru, eq_self, if_true, if_false, BEq.rfl, binI, AO.row?, splice, fillL, mmAll, loadV, storeV, zeros, Am.rowAt, Am.part, addOff, Nat.reduceAdd, Nat.reduceMul, Nat.reduceLeDiff, Nat.reduceSub, Nat.reduceLT, Int.reduceEq, Int.reduceLT, Int.reduceLE, Int.reduceGT, Int.reduceGE, Int.reduceAdd, Int.reduceSub, Int.reduceMul, Int.reduceNeg, Int.reduceToNat, reduceCtorEq, reduceIte, s79 H V, s86 H, s68 H, lenV_sl H.g, lenV_sl H.a, lenV_sl H.w, elem_sl Spn.el H.g, elem_sl Anc.el H.a, elem_sl Wal.el H.w, view_sl H.g, view_sl H.a, view_sl H.w, scalar_sl H.g, scalar_sl H.a, scalar_sl H.w, cells_sl H.g, cells_sl H.a, cells_sl H.w, pure_sl H.g, pure_sl H.a, pure_sl H.w, Spn.e, Anc.e, Wal.e, Spn.eta, Anc.eta, Wal.eta, Int.toNat_natCast, lenV_sl V.s, elem_sl intE V.s, view_sl V.s, scalar_sl V.s, cells_sl V.s, pure_sl V.s, ht, hv, hx, q2, q, view_bv, view_sl (resL_is (lst n (lfp n t (one6 k))))]
        simp only [ansP, pulledE, errL, h0, hx, if_true, Int.toNat_natCast]
end Go.Proofs.Ytpflneddfhifkaa.S
