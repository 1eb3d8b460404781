/-
The specification's Repack.
-/
import Derived.Test.YtfagcnokdnanpaaGreatHc
namespace Go.Proofs.YtfagcnokdnanpaaGreat.S
open Go Go.Am Go.Proofs.YtfagcnokdnanpaaGreat.T
set_option maxRecDepth 100000
set_option linter.unusedSimpArgs false
set_option linter.unusedVariables false
theorem mem_pkL {ok : List Int → Bool} {n : Nat} : ∀ {d : Nat} {F x : List Int}, x ∈ pkL ok n d F ↔ ok x = true ∧ ∃ y, x = F ++ y ∧ y.length = d ∧ ∀ c ∈ y, 0 ≤ c ∧ c < n
  | 0, F, x => by
    simp only [pkL]
    constructor
    · intro h
      split at h
      · rename_i ho
        rw [List.mem_singleton] at h; subst h
        exact ⟨ho, [], by simp, rfl, by simp⟩
      · cases h
    · rintro ⟨ho, y, rfl, hy, _⟩
      rw [List.eq_nil_of_length_eq_zero hy, List.append_nil] at ho ⊢
      rw [if_pos ho]; simp
  | d + 1, F, x => by
    simp only [pkL, List.mem_flatMap, List.mem_range]
    constructor
    · rintro ⟨b, hb, h⟩
      obtain ⟨ho, y, rfl, hy, hc⟩ := mem_pkL.1 h
      refine ⟨ho, (b : Int) :: y, by simp, by simp [hy], fun c hc' => ?_⟩
      rcases List.mem_cons.1 hc' with rfl | hc'
      · omega
      · exact hc c hc'
    · rintro ⟨ho, y, rfl, hy, hc⟩
      match y, hy with
      | c :: y, hy =>
        have h0 := hc c (by simp)
        refine ⟨c.toNat, by omega, ?_⟩
        rw [show ((c.toNat : Nat) : Int) = c by omega]
        exact mem_pkL.2 ⟨ho, y, by simp, by simpa using hy, fun z hz => hc z (by simp [hz])⟩
section
variable {f : Fs} {k p b pv bv : AV} {w : Nat → AV}
def Fs.pks (f : Fs) : List (List Int) := pkL f.h.isP f.h.bs.length f.h.ps.length []
theorem mem_pks {x : List Int} : x ∈ f.pks ↔ f.h.isP x = true ∧ x.length = f.h.ps.length ∧ ∀ c ∈ x, 0 ≤ c ∧ c < f.h.bs.length := by
  unfold Fs.pks
  rw [mem_pkL]
  constructor
  · rintro ⟨h, y, rfl, h1, h2⟩; exact ⟨h, by simpa using h1, by simpa using h2⟩
  · rintro ⟨h, h1, h2⟩; exact ⟨h, x, by simp, h1, h2⟩
theorem pks_len (G : FG f) : f.pks.length ≤ 4096 := Nat.le_trans pkL_len (pow46_le (by have := G.h.nb; omega) (by have := G.h.np; omega))
theorem pk_mem (G : FG f) : f.pk ∈ f.pks := by
  have P := isP_len G.pk
  exact mem_pks.2 ⟨G.pk, P.1, P.2⟩
def Fs.with (f : Fs) (x : List Int) : Int := tops f.bids (rdF f.h x f.d)
def Fs.bst (f : Fs) : List Int := f.pks.getD (fsB (fun i => f.with (f.pks.getD i [])) f.pks.length).1.toNat []
set_option maxHeartbeats 1000000 in
theorem t32 (H : FsOk f k p b pv bv w) {x : List Int} {v : AV} (V : IsSl 1 intL x v) (hl : x.length ≤ 1000) : Iso E 32 [frV f k p b pv bv, v] false = some (.agg [hsK f, I f.h.fl, hsP f, hsB f, slV 1 intL x, I f.d, I f.n, resB f.bids]) := by
  have a := t33 H
  obtain ⟨w', cin⟩ := cpF_in f
  simp only [cpF, frV] at a
  obtain ⟨B, hB⟩ : ∃ B, B = resB f.bids := ⟨_, rfl⟩
  have B1 : B.scalar = true := by rw [hB]; exact cin.bi.sc
  have B2 : B.cells = [B] := by rw [hB]; exact cin.bi.ce
  have B3 : ∀ (g : List AO) (n : Nat), view false g n B = some B := fun g n => by rw [hB]; exact cin.bi.vw g _
  have B4 : B.pureV = true := by rw [hB]; exact cin.bi.pu
  rw [← hB] at a ⊢
  have sk : IsSl 2 Kd.e f.h.ks (slV 2 Kd.e f.h.ks) := slV_is
  have sp : IsSl 2 Pr.e f.h.ps (slV 2 Pr.e f.h.ps) := slV_is
  have sb : IsSl 1 intL f.h.bs (slV 1 intL f.h.bs) := slV_is
  have sq : IsSl 1 intL f.pk (slV 1 intL f.pk) := slV_is
  obtain ⟨o, h', A, fr, lo, hc⟩ := cpyO (eb := 8) (lim := 0) (h := [.cells [k, I f.h.fl, p, b, pv, I f.d, I f.n, bv] false, .cells [.nils, I 0, .nils, .nils, .nils, I 0, I 0, .nils] false, .cells [hsK f, I f.h.fl, hsP f, hsB f, slV 1 intL f.pk, I f.d, I f.n, B] false]) V intE intSc (by omega) (by omega) (Nat.zero_le _)
  simp only [List.length_cons, List.length_nil, Nat.zero_add, Nat.reduceAdd, List.cons_append, List.nil_append] at A lo
  have ol := (List.getElem?_eq_some_iff.1 hc).1
  have d1 : h'[1]? = some (.cells [.nils, I 0, .nils, .nils, .nils, I 0, I 0, .nils] false) := fr.at rfl
  have d2 : h'[2]? = some (.cells [hsK f, I f.h.fl, hsP f, hsB f, slV 1 intL f.pk, I f.d, I f.n, B] false) := fr.at rfl
  have key : ∃ r h2, R E (.fn 32) [frV f k p b pv bv, v] [] 0 = some (r, h2) ∧ (r = .agg [hsK f, I f.h.fl, hsP f, hsB f, .ms 1 o 0 x.length, I f.d, I f.n, B] ∧ h2[o]? = some (.cells (x.flatMap intL) false)) := by
    refine R_of (fun r h2 => r = .agg [hsK f, I f.h.fl, hsP f, hsB f, .ms 1 o 0 x.length, I f.d, I f.n, B] ∧ h2[o]? = some (.cells (x.flatMap intL) false)) (es _ _ _ _) e32 ?_
    simp only [f32, frV]
    have e2 : ∀ y : AO, (h'.set 2 y)[2]? = some y := fun y => List.getElem?_set_self (by omega)
    have e1 : ∀ y : AO, (h'.set 2 y)[1]? = some (.cells [.nils, I 0, .nils, .nils, .nils, I 0, I 0, .nils] false) := fun y => by rw [List.getElem?_set_ne (by omega)]; exact d1
    have e3 : ∀ y z : AO, ((h'.set 2 y).set 1 z)[1]? = some z := fun y z => List.getElem?_set_self (by simp; omega)
    simp (disch := first | assumption | omega | (simp only [az]; done)) only [ru, eq_self, if_true, if_false, BEq.rfl, binI, AO.row?, splice, fillL, mmAll, loadV, storeV, zeros, Am.rowAt, Am.part, addOff, Nat.reduceAdd, Nat.reduceMul, Nat.reduceLeDiff, Nat.reduceSub, Nat.reduceLT, Int.reduceEq, Int.reduceLT, Int.reduceLE, Int.reduceGT, Int.reduceGE, Int.reduceAdd, Int.reduceSub, Int.reduceMul, Int.reduceNeg, Int.reduceToNat, reduceCtorEq, reduceIte, H.fai, Int.toNat_natCast, lenV_sl V, view_sl V, scalar_sl V, cells_sl V, pure_sl V, lenV_sl sk, view_sl sk, scalar_sl sk, cells_sl sk, pure_sl sk, lenV_sl sp, view_sl sp, scalar_sl sp, cells_sl sp, pure_sl sp, lenV_sl sb, view_sl sb, scalar_sl sb, cells_sl sb, pure_sl sb, lenV_sl sq, view_sl sq, scalar_sl sq, cells_sl sq, pure_sl sq, B1, B2, B3, B4, a, exOp_buildSlice, exOp_append, List.map_nil, A, d1, d2, e1, e2, e3, Bool.and_self, finC, getRes, Option.some.injEq, exists_eq_left']
    rw [List.getElem?_set_ne (by omega), List.getElem?_set_ne (by omega)]; exact hc
  obtain ⟨r, h2, hr2, rfl, k1⟩ := key
  have v1 := viewB k1 (st := false) (n := 6)
  simp only [Iso, hr2]
  show ([hsK f, I f.h.fl, hsP f, hsB f, .ms 1 o 0 x.length, I f.d, I f.n, B].mapM (Am.view false h2 7)).map AV.agg = _
  simp only [slV] at v1
  simp only [List.mapM_cons, List.mapM_nil, view_int, slV, view_cs, v1, B3]; rfl
set_option maxHeartbeats 4000000 in
theorem t57 (H : FsOk f k p b pv bv w) : Iso E 57 [frV f k p b pv bv] false = some (.tup [if f.valid then resL f.bst else .nils, I (fE f.valid)]) := by
  have a39 := fun st => t39 H st
  simp only [frV] at a39
  refine Iso_of (es _ _ _ _) e57 ?_
  simp only [f57, frV]
  cases hv : f.valid
  · rw [hv] at a39
    simp only [fE_f] at a39
    simp (disch := first | assumption | omega | (simp only [az]; done)) only [ru, eq_self, if_true, if_false, BEq.rfl, binI, AO.row?, splice, fillL, mmAll, loadV, storeV, zeros, Am.rowAt, Am.part, addOff, Nat.reduceAdd, Nat.reduceMul, Nat.reduceLeDiff, Nat.reduceSub, Nat.reduceLT, Int.reduceEq, Int.reduceLT, Int.reduceLE, Int.reduceGT, Int.reduceGE, Int.reduceAdd, Int.reduceSub, Int.reduceMul, Int.reduceNeg, Int.reduceToNat, reduceCtorEq, reduceIte, H.fai, Int.toNat_natCast, a39, fin2]
    try rfl
  rw [hv] at a39
  simp only [fE_t] at a39
  have G := fvalid_iff hv
  have a95 := fun st => t95 H G st
  simp only [frV] at a95
  have eb : f.bst = f.pks.getD (fsB (fun i => f.with (f.pks.getD i [])) f.pks.length).1.toNat [] := rfl
  have lln := pks_len G
  have pm := pk_mem G
  have ml : ∀ x ∈ f.pks, x.length ≤ 41 ∧ f.h.isP x = true := fun x hx => by
    have := mem_pks.1 hx; have := G.h.np; exact ⟨by omega, (mem_pks.1 hx).1⟩
  have hpks : pkL f.h.isP f.h.bs.length f.h.ps.length [] = f.pks := rfl
  rw [hpks] at a95
  rw [eb]
  obtain ⟨l, hl⟩ : ∃ l, l = f.pks := ⟨_, rfl⟩
  rw [← hl] at a95 lln pm ml ⊢
  have l0 : 0 < l.length := List.length_pos_of_mem pm
  obtain ⟨W, hW⟩ : ∃ W, W = resLL l := ⟨_, rfl⟩
  have WI : IsSl 1 resE l W := by rw [hW]; exact resLL_is2 l
  rw [← hW] at a95
  have ew : ∀ i : Int, 0 ≤ i → i < l.length → elemAt 1 W (I i) = some (.cptr [resL (l.getD i.toNat [])]) := fun i h0 hi => elem_sl rE WI i h0 hi
  have v1 := fun x => view_sl (resL_is x)
  have v2 := fun x => pure_sl (resL_is x)
  have v3 := fun x => scalar_sl (resL_is x)
  have v4 := fun x => cells_sl (resL_is x)
  have wb : ∀ x ∈ l, 0 ≤ f.with x ∧ f.with x ≤ 396 := fun x hx => tops_bd (FG.on G (ml x hx).2 G.d)
  obtain ⟨V, hV⟩ : ∃ V : Nat → Int, V = fun i => f.with (l.getD i []) := ⟨_, rfl⟩
  rw [← hV]
  have Vb : ∀ i, i < l.length → 0 ≤ V i ∧ V i ≤ 396 := fun i hi => by rw [hV]; exact wb _ (getD_memL2 hi)
  have fb : ∀ n : Nat, n ≤ l.length → 0 ≤ (fsB V n).1 ∧ (fsB V n).1 < l.length ∧ -1 ≤ (fsB V n).2 ∧ (fsB V n).2 ≤ 396 := by
    intro n
    induction n with
    | zero => intro _; exact ⟨Int.le_refl _, by show (0 : Int) < l.length; omega, Int.le_refl (-1), by show (-1 : Int) ≤ 396; decide⟩
    | succ n ih =>
      intro hn
      have := ih (by omega)
      have vb := Vb n (by omega)
      have e : fsB V (n + 1) = if (fsB V n).2 < V n then ((n : Int), V n) else fsB V n := rfl
      rw [e]; split
      · exact ⟨by omega, by show (n : Int) < _; omega, by show -1 ≤ V n; omega, by show V n ≤ 396; omega⟩
      · exact this
  obtain ⟨B, hB⟩ : ∃ B, B = resB f.bids := ⟨_, rfl⟩
  have rnd : ∀ x ∈ l, Iso E 32 [.agg [k, I f.h.fl, p, b, pv, I f.d, I f.n, bv], resL x] false = some (.agg [hsK f, I f.h.fl, hsP f, hsB f, slV 1 intL x, I f.d, I f.n, B]) ∧ Iso E 80 [.agg [hsK f, I f.h.fl, hsP f, hsB f, slV 1 intL x, I f.d, I f.n, B]] false = some (I (f.with x)) := fun x hx => by
    obtain ⟨w', K⟩ := cpF_ok (FsOk.on H (resL_is x) (ml x hx).1 f.d)
    rw [hB]
    exact ⟨t32 H (resL_is x) (by have := (ml x hx).1; omega), t80 K (FG.on G (ml x hx).2 G.d)⟩
  obtain ⟨wc, Hc⟩ := cpF_ok H
  have B1 : B.scalar = true := by rw [hB]; exact Hc.bi.sc
  have B2 : B.cells = [B] := by rw [hB]; exact Hc.bi.ce
  have B3 : ∀ (g : List AO) (n : Nat), view false g n B = some B := fun g n => by rw [hB]; exact Hc.bi.vw g _
  have B4 : B.pureV = true := by rw [hB]; exact Hc.bi.pu
  have sk : IsSl 2 Kd.e f.h.ks (slV 2 Kd.e f.h.ks) := slV_is
  have sp : IsSl 2 Pr.e f.h.ps (slV 2 Pr.e f.h.ps) := slV_is
  have sb : IsSl 1 intL f.h.bs (slV 1 intL f.h.bs) := slV_is
  simp (disch := first | assumption | omega | (simp only [az]; done)) only [ru, eq_self, if_true, if_false, BEq.rfl, binI, AO.row?, splice, fillL, mmAll, loadV, storeV, zeros, Am.rowAt, Am.part, addOff, Nat.reduceAdd, Nat.reduceMul, Nat.reduceLeDiff, Nat.reduceSub, Nat.reduceLT, Int.reduceEq, Int.reduceLT, Int.reduceLE, Int.reduceGT, Int.reduceGE, Int.reduceAdd, Int.reduceSub, Int.reduceMul, Int.reduceNeg, Int.reduceToNat, reduceCtorEq, reduceIte, H.fai, Int.toNat_natCast, lenV_sl WI, view_sl WI, scalar_sl WI, cells_sl WI, pure_sl WI, a39, a95]
  refine G_loop_ind (fun m ts hh mk => ∃ (i : Nat), i ≤ l.length ∧ m = l.length - i ∧ ts.length = 39 ∧ ts.getD 1 .undef = .ptr 0 0 ∧ ts.getD 5 .undef = W ∧ ts.getD 6 .undef = I (fsB V i).1 ∧ ts.getD 7 .undef = I (fsB V i).2 ∧ ts.getD 8 .undef = I i ∧ hh = [.cells [k, I f.h.fl, p, b, pv, I f.d, I f.n, bv] false] ∧ mk = []) ?_ l.length _ _ _
    ⟨0, Nat.zero_le _, rfl, rfl, rfl, rfl, rfl, rfl, rfl, rfl, rfl⟩
  rintro m ts hh mk ih ⟨i, hi', rfl, hl', q1, q5, q6, q7, q8, rfl, rfl⟩
  rw [lit_all hl']
  simp only [lit0, litS, Nat.reduceAdd, q1, q5, q6, q7, q8]
  simp (disch := first | assumption | omega | (simp only [az]; done)) only [ru, eq_self, if_true, if_false, BEq.rfl, binI, AO.row?, splice, fillL, mmAll, loadV, storeV, zeros, Am.rowAt, Am.part, addOff, Nat.reduceAdd, Nat.reduceMul, Nat.reduceLeDiff, Nat.reduceSub, Nat.reduceLT, Int.reduceEq, Int.reduceLT, Int.reduceLE, Int.reduceGT, Int.reduceGE, Int.reduceAdd, Int.reduceSub, Int.reduceMul, Int.reduceNeg, Int.reduceToNat, reduceCtorEq, reduceIte, lenV_sl WI, view_sl WI, scalar_sl WI, cells_sl WI, pure_sl WI]
  by_cases hlt : (i : Int) < l.length
  case neg =>
    obtain rfl : i = l.length := by omega
    have fbl := fb l.length (Nat.le_refl _)
    have el := ew _ fbl.1 fbl.2.1
    obtain ⟨X, hX⟩ : ∃ X, X = resL (l.getD (fsB V l.length).1.toNat []) := ⟨_, rfl⟩
    rw [← hX] at el ⊢
    have X1 : IsSl 1 intL (l.getD (fsB V l.length).1.toNat []) X := by rw [hX]; exact resL_is _
    simp (disch := first | assumption | omega | (simp only [az]; done)) only [ru, eq_self, if_true, if_false, BEq.rfl, binI, AO.row?, splice, fillL, mmAll, loadV, storeV, zeros, Am.rowAt, Am.part, addOff, Nat.reduceAdd, Nat.reduceMul, Nat.reduceLeDiff, Nat.reduceSub, Nat.reduceLT, Int.reduceEq, Int.reduceLT, Int.reduceLE, Int.reduceGT, Int.reduceGE, Int.reduceAdd, Int.reduceSub, Int.reduceMul, Int.reduceNeg, Int.reduceToNat, reduceCtorEq, reduceIte, hlt, lenV_sl WI, view_sl WI, scalar_sl WI, cells_sl WI, pure_sl WI, el, lenV_sl X1, view_sl X1, scalar_sl X1, cells_sl X1, pure_sl X1, fin2, view_tup, List.mapM_cons, List.mapM_nil, view_int]
    rfl
  have hi2 : i < l.length := by omega
  have ei := ew i (by omega) hlt
  rw [Int.toNat_natCast] at ei
  have hx := getD_memL2 (L := l) hi2
  obtain ⟨a32, a80⟩ := rnd _ hx
  have ev : V i = f.with (l.getD i []) := by rw [hV]
  have fbi := fb i hi'
  have vb := Vb i hi2
  have fe : fsB V (i + 1) = if (fsB V i).2 < V i then ((i : Int), V i) else fsB V i := rfl
  rw [← ev] at a80
  obtain ⟨x, ex⟩ : ∃ x, x = l.getD i [] := ⟨_, rfl⟩
  rw [← ex] at ei a32 a80
  have sx : IsSl 1 intL x (slV 1 intL x) := slV_is
  obtain ⟨Z, hZ⟩ : ∃ Z, Z = fsB V i := ⟨_, rfl⟩
  rw [← hZ] at fbi fe
  simp only [← hZ]
  obtain ⟨Y, hY⟩ : ∃ Y, Y = V i := ⟨_, rfl⟩
  rw [← hY] at a80 vb fe
  by_cases hc : Y > Z.2
  · rw [if_pos (show Z.2 < Y from hc)] at fe
    simp (disch := first | assumption | omega | (simp only [az]; done)) only [ru, eq_self, if_true, if_false, BEq.rfl, binI, AO.row?, splice, fillL, mmAll, loadV, storeV, zeros, Am.rowAt, Am.part, addOff, Nat.reduceAdd, Nat.reduceMul, Nat.reduceLeDiff, Nat.reduceSub, Nat.reduceLT, Int.reduceEq, Int.reduceLT, Int.reduceLE, Int.reduceGT, Int.reduceGE, Int.reduceAdd, Int.reduceSub, Int.reduceMul, Int.reduceNeg, Int.reduceToNat, reduceCtorEq, reduceIte, H.fai, Int.toNat_natCast, lenV_sl WI, view_sl WI, scalar_sl WI, cells_sl WI, pure_sl WI, hlt, ei, v1, v2, v3, v4, a32, a80, lenV_sl sk, view_sl sk, scalar_sl sk, cells_sl sk, pure_sl sk, lenV_sl sp, view_sl sp, scalar_sl sp, cells_sl sp, pure_sl sp, lenV_sl sb, view_sl sb, scalar_sl sb, cells_sl sb, pure_sl sb, lenV_sl sx, view_sl sx, scalar_sl sx, cells_sl sx, pure_sl sx, B1, B2, B3, B4, GO_mcall1, hide, hc, decide_true]
    refine ih (l.length - (i + 1)) _ _ _ (by omega) ⟨i + 1, by omega, rfl, rfl, rfl, rfl, ?_, ?_, rfl, rfl, rfl⟩
    · rw [fe]; rfl
    · rw [fe]; rfl
  · rw [if_neg (show ¬ Z.2 < Y from hc)] at fe
    simp (disch := first | assumption | omega | (simp only [az]; done)) only [ru, eq_self, if_true, if_false, BEq.rfl, binI, AO.row?, splice, fillL, mmAll, loadV, storeV, zeros, Am.rowAt, Am.part, addOff, Nat.reduceAdd, Nat.reduceMul, Nat.reduceLeDiff, Nat.reduceSub, Nat.reduceLT, Int.reduceEq, Int.reduceLT, Int.reduceLE, Int.reduceGT, Int.reduceGE, Int.reduceAdd, Int.reduceSub, Int.reduceMul, Int.reduceNeg, Int.reduceToNat, reduceCtorEq, reduceIte, H.fai, Int.toNat_natCast, lenV_sl WI, view_sl WI, scalar_sl WI, cells_sl WI, pure_sl WI, hlt, ei, v1, v2, v3, v4, a32, a80, lenV_sl sk, view_sl sk, scalar_sl sk, cells_sl sk, pure_sl sk, lenV_sl sp, view_sl sp, scalar_sl sp, cells_sl sp, pure_sl sp, lenV_sl sb, view_sl sb, scalar_sl sb, cells_sl sb, pure_sl sb, lenV_sl sx, view_sl sx, scalar_sl sx, cells_sl sx, pure_sl sx, B1, B2, B3, B4, GO_mcall1, hide, hc, decide_false]
    refine ih (l.length - (i + 1)) _ _ _ (by omega) ⟨i + 1, by omega, rfl, rfl, rfl, rfl, ?_, ?_, rfl, rfl, rfl⟩
    · rw [fe]; rfl
    · rw [fe]; rfl
end
end Go.Proofs.YtfagcnokdnanpaaGreat.S
