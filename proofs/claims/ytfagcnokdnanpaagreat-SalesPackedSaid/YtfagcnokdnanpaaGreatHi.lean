/-
SalesPacked.
-/
import Derived.Test.YtfagcnokdnanpaaGreatHh
import Derived.Test.YtfagcnokdnanpaaGreatGg
namespace Go.Proofs.YtfagcnokdnanpaaGreat.S
open Go Go.Am Go.Proofs.YtfagcnokdnanpaaGreat.T
set_option maxRecDepth 100000
set_option linter.unusedSimpArgs false
set_option linter.unusedVariables false
theorem ear_drop {l m : List Int} {i : Nat} (hi : i < l.length) (hj : i < m.length) : ear (l.drop i) (m.drop i) = if l.getD i 0 ≠ m.getD i 0 then decide (l.getD i 0 < m.getD i 0) else ear (l.drop (i + 1)) (m.drop (i + 1)) := by
  rw [List.drop_eq_getElem_cons hi, List.drop_eq_getElem_cons hj]
  simp only [ear, List.getD_eq_getElem?_getD, List.getElem?_eq_getElem hi, List.getElem?_eq_getElem hj, Option.getD_some]
theorem t20 {l m : List Int} {u v : AV} (U : IsSl 1 intL l u) (V : IsSl 1 intL m v) (hl : l.length ≤ 1000) (hm : m.length ≤ 1000) (st : Bool) : Iso E 20 [u, v] st = some (Bo (ear l m)) := by
  refine Iso_of (es _ _ _ _) e20 ?_
  simp only [f20]
  simp (disch := first | assumption | omega | (simp only [az]; done)) only [ru, eq_self, if_true, if_false, BEq.rfl, binI, AO.row?, splice, fillL, mmAll, loadV, storeV, zeros, Am.rowAt, Am.part, addOff, Nat.reduceAdd, Nat.reduceMul, Nat.reduceLeDiff, Nat.reduceSub, Nat.reduceLT, Int.reduceEq, Int.reduceLT, Int.reduceLE, Int.reduceGT, Int.reduceGE, Int.reduceAdd, Int.reduceSub, Int.reduceMul, Int.reduceNeg, Int.reduceToNat, reduceCtorEq, reduceIte]
  refine G_loop_ind (fun n ts h mk => ∃ i : Nat, i ≤ l.length ∧ i ≤ m.length ∧ n = l.length - i ∧ ear l m = ear (l.drop i) (m.drop i) ∧ ts.length = 36 ∧ ts.getD 0 .undef = u ∧ ts.getD 1 .undef = v ∧ ts.getD 5 .undef = I i ∧ h = [] ∧ mk = []) ?_ _ _ _ _ ⟨0, Nat.zero_le _, Nat.zero_le _, rfl, rfl, rfl, rfl, rfl, rfl, rfl, rfl⟩
  rintro n ts h mk ih ⟨i, hi, hi2, rfl, he, hl', q0, q1, q5, rfl, rfl⟩
  rw [lit_all hl']
  simp only [lit0, litS, Nat.reduceAdd, q0, q1, q5]
  by_cases h1 : i < l.length
  case neg =>
    have h1' : ¬ (i : Int) < l.length := by omega
    have ev : ear l m = false := by rw [he, List.drop_eq_nil_of_le (by omega)]; simp [ear]
    simp (disch := first | assumption | omega | (simp only [az]; done)) only [ru, eq_self, if_true, if_false, BEq.rfl, binI, AO.row?, splice, fillL, mmAll, loadV, storeV, zeros, Am.rowAt, Am.part, addOff, Nat.reduceAdd, Nat.reduceMul, Nat.reduceLeDiff, Nat.reduceSub, Nat.reduceLT, Int.reduceEq, Int.reduceLT, Int.reduceLE, Int.reduceGT, Int.reduceGE, Int.reduceAdd, Int.reduceSub, Int.reduceMul, Int.reduceNeg, Int.reduceToNat, reduceCtorEq, reduceIte, lenV_sl U, elem_in U, view_sl U, scalar_sl U, cells_sl U, pure_sl U, Int.toNat_natCast, lenV_sl V, elem_in V, view_sl V, scalar_sl V, cells_sl V, pure_sl V, Int.toNat_natCast, h1', gUn, ev, decide_false]
  by_cases h2 : i < m.length
  case neg =>
    have h1' : (i : Int) < l.length := by omega
    have h2' : ¬ (i : Int) < m.length := by omega
    have ev : ear l m = false := by
      rw [he, List.drop_eq_nil_of_le (show m.length ≤ i by omega)]
      cases l.drop i <;> simp [ear]
    simp (disch := first | assumption | omega | (simp only [az]; done)) only [ru, eq_self, if_true, if_false, BEq.rfl, binI, AO.row?, splice, fillL, mmAll, loadV, storeV, zeros, Am.rowAt, Am.part, addOff, Nat.reduceAdd, Nat.reduceMul, Nat.reduceLeDiff, Nat.reduceSub, Nat.reduceLT, Int.reduceEq, Int.reduceLT, Int.reduceLE, Int.reduceGT, Int.reduceGE, Int.reduceAdd, Int.reduceSub, Int.reduceMul, Int.reduceNeg, Int.reduceToNat, reduceCtorEq, reduceIte, lenV_sl U, elem_in U, view_sl U, scalar_sl U, cells_sl U, pure_sl U, Int.toNat_natCast, lenV_sl V, elem_in V, view_sl V, scalar_sl V, cells_sl V, pure_sl V, Int.toNat_natCast, h1', h2', gUn, ev, decide_false, decide_true]
  have h1' : (i : Int) < l.length := by omega
  have h2' : (i : Int) < m.length := by omega
  rw [ear_drop h1 h2] at he
  by_cases hc : l.getD i 0 = m.getD i 0
  · rw [if_neg (fun h => h hc)] at he
    simp (disch := first | assumption | omega | (simp only [az]; done)) only [ru, eq_self, if_true, if_false, BEq.rfl, binI, AO.row?, splice, fillL, mmAll, loadV, storeV, zeros, Am.rowAt, Am.part, addOff, Nat.reduceAdd, Nat.reduceMul, Nat.reduceLeDiff, Nat.reduceSub, Nat.reduceLT, Int.reduceEq, Int.reduceLT, Int.reduceLE, Int.reduceGT, Int.reduceGE, Int.reduceAdd, Int.reduceSub, Int.reduceMul, Int.reduceNeg, Int.reduceToNat, reduceCtorEq, reduceIte, lenV_sl U, elem_in U, view_sl U, scalar_sl U, cells_sl U, pure_sl U, Int.toNat_natCast, lenV_sl V, elem_in V, view_sl V, scalar_sl V, cells_sl V, pure_sl V, Int.toNat_natCast, h1', h2', hc, decide_true, Bool.not_true]
    exact ih (l.length - (i + 1)) _ _ _ (by omega) ⟨i + 1, by omega, by omega, rfl, he, rfl, rfl, rfl, rfl, rfl, rfl⟩
  · rw [if_pos hc] at he
    simp (disch := first | assumption | omega | (simp only [az]; done)) only [ru, eq_self, if_true, if_false, BEq.rfl, binI, AO.row?, splice, fillL, mmAll, loadV, storeV, zeros, Am.rowAt, Am.part, addOff, Nat.reduceAdd, Nat.reduceMul, Nat.reduceLeDiff, Nat.reduceSub, Nat.reduceLT, Int.reduceEq, Int.reduceLT, Int.reduceLE, Int.reduceGT, Int.reduceGE, Int.reduceAdd, Int.reduceSub, Int.reduceMul, Int.reduceNeg, Int.reduceToNat, reduceCtorEq, reduceIte, lenV_sl U, elem_in U, view_sl U, scalar_sl U, cells_sl U, pure_sl U, Int.toNat_natCast, lenV_sl V, elem_in V, view_sl V, scalar_sl V, cells_sl V, pure_sl V, Int.toNat_natCast, h1', h2', hc, decide_true, decide_false, Bool.not_false, he]
theorem pkL_pw {ok : List Int → Bool} {n : Nat} : ∀ (d : Nat) (F : List Int), (pkL ok n d F).Pairwise (fun s t => ear s t = true)
  | 0, F => by
    unfold pkL
    split
    · exact List.pairwise_singleton _ _
    · exact List.Pairwise.nil
  | d + 1, F => by
    unfold pkL
    refine pw_flatMap (fun c _ => pkL_pw d (F ++ [(c : Int)])) (List.pairwise_lt_range.imp fun {a b} hab s hs t ht => ?_)
    obtain ⟨_, y, rfl, _, _⟩ := mem_pkL.1 hs
    obtain ⟨_, z, rfl, _, _⟩ := mem_pkL.1 ht
    rw [List.append_assoc, List.append_assoc, ear_app]
    simp only [List.singleton_append, ear]
    rw [if_pos (by omega)]
    simpa using hab
section
variable {f : Fs} {k p b pv bv : AV} {w : Nat → AV}
theorem bst_best (G : FG f) {x : List Int} (hx : x ∈ f.pks) : f.with x ≤ f.with f.bst ∧ (f.with x = f.with f.bst → ear x f.bst = false) := by
  have l0 : 0 < f.pks.length := List.length_pos_of_mem hx
  obtain ⟨n, hn⟩ : ∃ n, f.pks.length = n + 1 := ⟨f.pks.length - 1, by omega⟩
  obtain ⟨j, j1, j2, j3, j4, j5⟩ := fsB_spec (v := fun i => f.with (f.pks.getD i [])) (fun i => (tops_bd G).1) n
  have eb : f.bst = f.pks.getD j [] := by
    unfold Fs.bst; rw [hn, j1, Int.toNat_natCast]
  obtain ⟨i, hi, rfl⟩ := mem_getD (d := []) hx
  rw [eb]
  refine ⟨j4 i (by omega), fun e => ?_⟩
  rcases Nat.lt_trichotomy i j with h | h | h
  · have h' : f.with (f.pks.getD i []) < f.with (f.pks.getD j []) := j5 i h
    omega
  · subst h
    cases hc : ear (f.pks.getD i []) (f.pks.getD i [])
    · rfl
    · have := ear_asym hc; rw [hc] at this; cases this
  · have pw := pkL_pw (ok := f.h.isP) (n := f.h.bs.length) f.h.ps.length []
    have := List.pairwise_iff_getElem.1 pw j i (by show j < f.pks.length; omega) hi h
    refine ear_asym ?_
    rw [List.getD_eq_getElem?_getD, List.getD_eq_getElem?_getD, List.getElem?_eq_getElem (show j < f.pks.length by omega), List.getElem?_eq_getElem hi]
    exact this
theorem on_valid2 (hv : f.valid = true) {x : List Int} (hx : f.h.isP x = true) : (f.on x f.d).valid = true := by
  simp only [Fs.valid, Fs.on, Bool.and_eq_true] at hv ⊢
  exact ⟨⟨⟨⟨⟨hv.1.1.1.1.1, hx⟩, hv.1.1.1.2⟩, hv.1.1.2⟩, hv.1.2⟩, hv.2⟩
theorem t30 (H : FsOk f k p b pv bv w) (G : FG f) {s : List Int} {v : AV} (V : IsSl 1 intL s v) (st : Bool) : Iso E 30 [frV f k p b pv bv, v] st = some (Bo (decide (s.length ≤ 40) && f.h.isP s)) := by
  refine Iso_of (es _ _ _ _) e30 ?_
  simp only [f30, frV]
  by_cases hl : (s.length : Int) ≤ 40
  · have a := fun st => s47 H.ho G.h V (by omega) st
    simp only [hsV] at a
    rw [decide_eq_true (show s.length ≤ 40 by omega)]
    simp (disch := first | assumption | omega | (simp only [az]; done)) only [ru, eq_self, if_true, if_false, BEq.rfl, binI, AO.row?, splice, fillL, mmAll, loadV, storeV, zeros, Am.rowAt, Am.part, addOff, Nat.reduceAdd, Nat.reduceMul, Nat.reduceLeDiff, Nat.reduceSub, Nat.reduceLT, Int.reduceEq, Int.reduceLT, Int.reduceLE, Int.reduceGT, Int.reduceGE, Int.reduceAdd, Int.reduceSub, Int.reduceMul, Int.reduceNeg, Int.reduceToNat, reduceCtorEq, reduceIte, H.fai, Int.toNat_natCast, lenV_sl V, view_sl V, scalar_sl V, cells_sl V, pure_sl V, hl, a, gUn, decide_true, Bool.true_and]
  · rw [decide_eq_false (show ¬ s.length ≤ 40 by omega)]
    simp (disch := first | assumption | omega | (simp only [az]; done)) only [ru, eq_self, if_true, if_false, BEq.rfl, binI, AO.row?, splice, fillL, mmAll, loadV, storeV, zeros, Am.rowAt, Am.part, addOff, Nat.reduceAdd, Nat.reduceMul, Nat.reduceLeDiff, Nat.reduceSub, Nat.reduceLT, Int.reduceEq, Int.reduceLT, Int.reduceLE, Int.reduceGT, Int.reduceGE, Int.reduceAdd, Int.reduceSub, Int.reduceMul, Int.reduceNeg, Int.reduceToNat, reduceCtorEq, reduceIte, H.fai, Int.toNat_natCast, lenV_sl V, view_sl V, scalar_sl V, cells_sl V, pure_sl V, hl, gUn, decide_false, Bool.false_and]
set_option maxHeartbeats 4000000 in
theorem l6 (H0 : FsIn f k p b pv bv w) {s : List Int} {v : AV} (V : IsSl 1 intL s v) : Iso E 6 [frV f k p b pv bv, v] false = some (Bo true) := by
  have a29 := fun st => t29 H0 st
  have a13 := fun st => t13 H0 st
  simp only [frV] at a29 a13
  refine Iso_of (es _ _ _ _) e6 ?_
  simp only [f6]
  cases hh : f.far
  case true =>
    rw [hh] at a29
    simp (disch := first | assumption | omega | (simp only [az]; done)) only [ru, eq_self, if_true, if_false, BEq.rfl, binI, AO.row?, splice, fillL, mmAll, loadV, storeV, zeros, Am.rowAt, Am.part, addOff, Nat.reduceAdd, Nat.reduceMul, Nat.reduceLeDiff, Nat.reduceSub, Nat.reduceLT, Int.reduceEq, Int.reduceLT, Int.reduceLE, Int.reduceGT, Int.reduceGE, Int.reduceAdd, Int.reduceSub, Int.reduceMul, Int.reduceNeg, Int.reduceToNat, reduceCtorEq, reduceIte, H0.fai, Int.toNat_natCast, lenV_sl V, view_sl V, scalar_sl V, cells_sl V, pure_sl V, a29, t15, gUn]
  rw [hh] at a29
  cases hr : f.rdy
  · rw [hr] at a13
    simp (disch := first | assumption | omega | (simp only [az]; done)) only [ru, eq_self, if_true, if_false, BEq.rfl, binI, AO.row?, splice, fillL, mmAll, loadV, storeV, zeros, Am.rowAt, Am.part, addOff, Nat.reduceAdd, Nat.reduceMul, Nat.reduceLeDiff, Nat.reduceSub, Nat.reduceLT, Int.reduceEq, Int.reduceLT, Int.reduceLE, Int.reduceGT, Int.reduceGE, Int.reduceAdd, Int.reduceSub, Int.reduceMul, Int.reduceNeg, Int.reduceToNat, reduceCtorEq, reduceIte, H0.fai, Int.toNat_natCast, lenV_sl V, view_sl V, scalar_sl V, cells_sl V, pure_sl V, a29, a13, t15, gUn, Bool.not_false]
  rw [hr] at a13
  obtain ⟨K, G, hv⟩ := rdy_ok H0 hr
  have a30 := fun st => t30 K G V st
  simp only [frV] at a30
  cases hp : (decide (s.length ≤ 40) && f.h.isP s)
  · rw [hp] at a30
    simp (disch := first | assumption | omega | (simp only [az]; done)) only [ru, eq_self, if_true, if_false, BEq.rfl, binI, AO.row?, splice, fillL, mmAll, loadV, storeV, zeros, Am.rowAt, Am.part, addOff, Nat.reduceAdd, Nat.reduceMul, Nat.reduceLeDiff, Nat.reduceSub, Nat.reduceLT, Int.reduceEq, Int.reduceLT, Int.reduceLE, Int.reduceGT, Int.reduceGE, Int.reduceAdd, Int.reduceSub, Int.reduceMul, Int.reduceNeg, Int.reduceToNat, reduceCtorEq, reduceIte, H0.fai, Int.toNat_natCast, lenV_sl V, view_sl V, scalar_sl V, cells_sl V, pure_sl V, a29, a13, a30, t15, gUn, Bool.not_false, Bool.not_true]
  rw [hp] at a30
  rw [Bool.and_eq_true, decide_eq_true_eq] at hp
  have bm := bst_mem G
  have bp := mem_pks.1 bm
  have np := G.h.np
  have sm : s ∈ f.pks := by
    have := isP_len hp.2
    exact mem_pks.2 ⟨hp.2, this.1, this.2⟩
  obtain ⟨b1, b2⟩ := bst_best G sm
  have a31 := t31 K
  have W : IsSl 1 intL f.bst (slV 1 intL f.bst) := slV_is
  have c30 := fun st => t30 K G W st
  rw [decide_eq_true (show f.bst.length ≤ 40 by omega), bp.1, Bool.and_self] at c30
  have pk : ∀ x : List Int, x ∈ f.pks → ∀ st, Iso E 16 [.agg [hsK f, I f.h.fl, hsP f, hsB f, slV 1 intL x, I f.d, I f.n, resB f.bids]] st = some (I (f.with x)) := fun x hx st => by
    have hxp := mem_pks.1 hx
    obtain ⟨w', K'⟩ := cpF_ok (FsOk.on K (slV_is (esz := 1) (enc := intL) (l := x)) (by omega) f.d)
    exact t16 K' (on_valid2 hv hxp.1) st
  have d16 := pk _ bm
  have s16 := pk _ sm
  have d32 := t32 K W (by omega)
  have s32 := t32 K V (by omega)
  have a20 := fun st => t20 V W (by omega) (by omega) st
  rw [hv, if_pos rfl, fE_t] at a31
  simp only [frV] at a31 c30 d32 s32
  have wn := (tops_bd G (r := rdF f.h s f.d)).1
  have wn' : 0 ≤ f.with s := wn
  obtain ⟨X, hX⟩ : ∃ X, X = f.with s := ⟨_, rfl⟩
  obtain ⟨Y, hY⟩ : ∃ X, X = f.with f.bst := ⟨_, rfl⟩
  obtain ⟨wc, Hc⟩ := cpF_ok K
  obtain ⟨B, hB⟩ : ∃ B, B = resB f.bids := ⟨_, rfl⟩
  have B1 : B.scalar = true := by rw [hB]; exact Hc.bi.sc
  have B2 : B.cells = [B] := by rw [hB]; exact Hc.bi.ce
  have B3 : ∀ (g : List AO) (n : Nat), view false g n B = some B := fun g n => by rw [hB]; exact Hc.bi.vw g _
  have B4 : B.pureV = true := by rw [hB]; exact Hc.bi.pu
  rw [← hB] at d16 s16 d32 s32
  rw [← hY] at d16 b1 b2
  rw [← hX] at s16 b1 b2 wn'
  have sk : IsSl 2 Kd.e f.h.ks (slV 2 Kd.e f.h.ks) := slV_is
  have sp : IsSl 2 Pr.e f.h.ps (slV 2 Pr.e f.h.ps) := slV_is
  have sb : IsSl 1 intL f.h.bs (slV 1 intL f.h.bs) := slV_is
  have V2 : IsSl 1 intL s (slV 1 intL s) := slV_is
  have g1 : X ≥ 0 := wn'
  clear hX hY hB
  by_cases hc : X < Y
  · simp (disch := first | assumption | omega | (simp only [az]; done)) only [ru, eq_self, if_true, if_false, BEq.rfl, binI, AO.row?, splice, fillL, mmAll, loadV, storeV, zeros, Am.rowAt, Am.part, addOff, Nat.reduceAdd, Nat.reduceMul, Nat.reduceLeDiff, Nat.reduceSub, Nat.reduceLT, Int.reduceEq, Int.reduceLT, Int.reduceLE, Int.reduceGT, Int.reduceGE, Int.reduceAdd, Int.reduceSub, Int.reduceMul, Int.reduceNeg, Int.reduceToNat, reduceCtorEq, reduceIte, H0.fai, Int.toNat_natCast, lenV_sl V, view_sl V, scalar_sl V, cells_sl V, pure_sl V, lenV_sl V2, view_sl V2, scalar_sl V2, cells_sl V2, pure_sl V2, lenV_sl W, view_sl W, scalar_sl W, cells_sl W, pure_sl W, lenV_sl sk, view_sl sk, scalar_sl sk, cells_sl sk, pure_sl sk, lenV_sl sp, view_sl sp, scalar_sl sp, cells_sl sp, pure_sl sp, lenV_sl sb, view_sl sb, scalar_sl sb, cells_sl sb, pure_sl sb, B1, B2, B3, B4, a29, a13, a30, a31, c30, d32, s32, d16, s16, GO_mcall1, hide, g1, b1, hc, t15, gUn, Bool.not_true, decide_true]
    done
  · rw [b2 (by omega)] at a20
    simp (disch := first | assumption | omega | (simp only [az]; done)) only [ru, eq_self, if_true, if_false, BEq.rfl, binI, AO.row?, splice, fillL, mmAll, loadV, storeV, zeros, Am.rowAt, Am.part, addOff, Nat.reduceAdd, Nat.reduceMul, Nat.reduceLeDiff, Nat.reduceSub, Nat.reduceLT, Int.reduceEq, Int.reduceLT, Int.reduceLE, Int.reduceGT, Int.reduceGE, Int.reduceAdd, Int.reduceSub, Int.reduceMul, Int.reduceNeg, Int.reduceToNat, reduceCtorEq, reduceIte, H0.fai, Int.toNat_natCast, lenV_sl V, view_sl V, scalar_sl V, cells_sl V, pure_sl V, lenV_sl V2, view_sl V2, scalar_sl V2, cells_sl V2, pure_sl V2, lenV_sl W, view_sl W, scalar_sl W, cells_sl W, pure_sl W, lenV_sl sk, view_sl sk, scalar_sl sk, cells_sl sk, pure_sl sk, lenV_sl sp, view_sl sp, scalar_sl sp, cells_sl sp, pure_sl sp, lenV_sl sb, view_sl sb, scalar_sl sb, cells_sl sb, pure_sl sb, B1, B2, B3, B4, a29, a13, a30, a31, c30, d32, s32, d16, s16, GO_mcall1, hide, g1, b1, hc, a20, t15, gUn, Bool.not_true, Bool.not_false, decide_true, decide_false]
    done
end
end Go.Proofs.YtfagcnokdnanpaaGreat.S
