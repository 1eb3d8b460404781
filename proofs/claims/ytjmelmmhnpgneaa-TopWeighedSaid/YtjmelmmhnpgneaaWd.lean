/-
The law of the catch that was counted.
-/
import Derived.Test.YtjmelmmhnpgneaaWc
namespace Go.Proofs.Ytjmelmmhnpgneaa.S
open Go Go.Am Go.Proofs.Ytjmelmmhnpgneaa.T
set_option maxRecDepth 100000
set_option linter.unusedSimpArgs false
set_option linter.unusedVariables false

theorem s46 {t : Trap} {o w : AV} (H0 : TrIn t o w) : ∃ b, (∀ st, Iso E 4 [trV t o w] st = some (Bo b)) ∧ (b = false → t.huge = false) := by
  have ho := H0.o
  have hw := H0.w
  have c53 := fun st => s53 H0 st
  simp only [trV] at c53 ⊢
  cases hg : t.huge
  case true =>
    rw [hg] at c53
    refine ⟨true, fun st => ?_, fun h => (by cases h)⟩
    refine Iso_of (es _ _ _ _) e4 ?_
    simp only [f4]
    simp (disch := first | assumption | omega | (simp only [az]; done)) only [ru, eq_self, if_true, if_false, BEq.rfl, binI, AO.row?, splice, fillL, mmAll, loadV, storeV, zeros, Am.rowAt, Am.part, addOff, Nat.reduceAdd, Nat.reduceMul, Nat.reduceLeDiff, Nat.reduceSub, Nat.reduceLT, Int.reduceEq, Int.reduceLT, Int.reduceLE, Int.reduceGT, Int.reduceGE, Int.reduceAdd, Int.reduceSub, Int.reduceMul, Int.reduceNeg, Int.reduceToNat, reduceCtorEq, reduceIte, lenV_sl ho, elem_sl Ls.el ho, view_sl ho, scalar_sl ho, cells_sl ho, pure_sl ho, lenV_sl hw, elem_sl Wd.el hw, view_sl hw, scalar_sl hw, cells_sl hw, pure_sl hw, c53, gUn]
  rw [hg] at c53
  have H := H0.ok hg
  have c55 := fun st => s55 H st
  simp only [trV] at c55
  obtain ⟨ce, hce⟩ : ∃ ce, ce = chkE t := ⟨_, rfl⟩
  rw [← hce] at c55
  by_cases g1 : t.ch > 3
  · refine ⟨ce == 0, fun st => ?_, fun _ => rfl⟩
    refine Iso_of (es _ _ _ _) e4 ?_
    simp only [f4]
    simp (disch := first | assumption | omega | (simp only [az]; done)) only [ru, eq_self, if_true, if_false, BEq.rfl, binI, AO.row?, splice, fillL, mmAll, loadV, storeV, zeros, Am.rowAt, Am.part, addOff, Nat.reduceAdd, Nat.reduceMul, Nat.reduceLeDiff, Nat.reduceSub, Nat.reduceLT, Int.reduceEq, Int.reduceLT, Int.reduceLE, Int.reduceGT, Int.reduceGE, Int.reduceAdd, Int.reduceSub, Int.reduceMul, Int.reduceNeg, Int.reduceToNat, reduceCtorEq, reduceIte, lenV_sl ho, elem_sl Ls.el ho, view_sl ho, scalar_sl ho, cells_sl ho, pure_sl ho, lenV_sl hw, elem_sl Wd.el hw, view_sl hw, scalar_sl hw, cells_sl hw, pure_sl hw, c53, c55, g1, gUn]
  · by_cases g2 : t.tm > 3
    · refine ⟨ce == 0, fun st => ?_, fun _ => rfl⟩
      refine Iso_of (es _ _ _ _) e4 ?_
      simp only [f4]
      simp (disch := first | assumption | omega | (simp only [az]; done)) only [ru, eq_self, if_true, if_false, BEq.rfl, binI, AO.row?, splice, fillL, mmAll, loadV, storeV, zeros, Am.rowAt, Am.part, addOff, Nat.reduceAdd, Nat.reduceMul, Nat.reduceLeDiff, Nat.reduceSub, Nat.reduceLT, Int.reduceEq, Int.reduceLT, Int.reduceLE, Int.reduceGT, Int.reduceGE, Int.reduceAdd, Int.reduceSub, Int.reduceMul, Int.reduceNeg, Int.reduceToNat, reduceCtorEq, reduceIte, lenV_sl ho, elem_sl Ls.el ho, view_sl ho, scalar_sl ho, cells_sl ho, pure_sl ho, lenV_sl hw, elem_sl Wd.el hw, view_sl hw, scalar_sl hw, cells_sl hw, pure_sl hw, c53, c55, g1, g2, gUn]
    · refine ⟨false, fun st => ?_, fun _ => rfl⟩
      refine Iso_of (es _ _ _ _) e4 ?_
      simp only [f4]
      simp (disch := first | assumption | omega | (simp only [az]; done)) only [ru, eq_self, if_true, if_false, BEq.rfl, binI, AO.row?, splice, fillL, mmAll, loadV, storeV, zeros, Am.rowAt, Am.part, addOff, Nat.reduceAdd, Nat.reduceMul, Nat.reduceLeDiff, Nat.reduceSub, Nat.reduceLT, Int.reduceEq, Int.reduceLT, Int.reduceLE, Int.reduceGT, Int.reduceGE, Int.reduceAdd, Int.reduceSub, Int.reduceMul, Int.reduceNeg, Int.reduceToNat, reduceCtorEq, reduceIte, lenV_sl ho, elem_sl Ls.el ho, view_sl ho, scalar_sl ho, cells_sl ho, pure_sl ho, lenV_sl hw, elem_sl Wd.el hw, view_sl hw, scalar_sl hw, cells_sl hw, pure_sl hw, c53, c55, g1, g2, gUn]

theorem trN_cp {t : Trap} {L : List Ls} : TruN t.cp L ↔ TruN t L := by
  have e4 : ∀ i c, PasK t.cp L i c ↔ PasK t L i c := fun i c => by
    have : ((t.cp.op).getD i default).list = (t.op.getD i default).list := cp_row (L := t.op) (i := i)
    unfold PasK; rw [this]
  constructor
  · intro h
    exact ⟨h.l, h.r, fun i hi c hc => (e4 i c).1 (h.p i hi c hc), h.w⟩
  · intro h
    exact ⟨h.l, h.r, fun i hi c hc => (e4 i c).2 (h.p i hi c hc), h.w⟩

theorem finC2 {lim i j s : Nat} {a : Bool} {P : AV → List AO → Prop} {ts : List AV} {h : List AO} : Done lim [.cell a s i, .tmp j] P .ret ⟨ts, h, []⟩ = ∃ v, getRes ts h (.cell a s i) = some v ∧ P (.tup [v, ts.getD j .undef]) h := by
  simp only [Done, finish, takeMarks, List.all_nil, if_true, List.mapM_cons, List.mapM_nil, Option.bind_eq_bind, Option.pure_def]
  cases getRes ts h (.cell a s i) <;> simp [getRes]
theorem sLast {t : Trap} {o w : AV} (H : TrOk t o w) (hv : t.valid = true) (sv : Solv t.C t.T t) : ∃ lo hi, (∀ st, Iso E 11 [trV t o w] st = some (.tup [.agg [I lo, I hi], Bo true])) ∧ 0 ≤ lo ∧ lo ≤ hi ∧ hi ≤ 40 ∧ Xt t (fun x => gap t.C x (t.T - 1) (t.C - 1)) lo hi := by
  have ho := H.o; have hw := H.w
  have V := valid_trb hv
  have v1 := V.c0; have v2 := V.c1; have v3 := V.t0; have v4 := V.t1
  have eC := trC V; have eT := trT V
  obtain ⟨lo, hi, e, h, A⟩ := s32 H (t.tm - 1) (t.ch - 1)
  obtain ⟨rfl, X⟩ := A.val hv (by simp only [placeB, Bool.and_eq_true, decide_eq_true_eq]; omega) sv
  have n1 : (t.tm - 1).toNat = t.T - 1 := by omega
  have n2 : (t.ch - 1).toNat = t.C - 1 := by omega
  rw [n1, n2] at X
  obtain ⟨b1, b2, b3⟩ := xt_bd (by omega) (by omega) X
  refine ⟨lo, hi, fun st => ?_, b1, b2, b3, X⟩
  simp only [trV] at h
  have b1' : lo ≥ 0 := b1
  have h21 : ((2 : Nat) != 1) = true := rfl
  refine Iso_of (es _ _ _ _) e11 ?_
  simp only [f11, trV]
  simp (disch := first | assumption | omega | (simp only [az]; done)) only [ru, eq_self, if_true, if_false, BEq.rfl, binI, AO.row?, splice, fillL, mmAll, loadV, storeV, zeros, Am.rowAt, Am.part, addOff, Nat.reduceAdd, Nat.reduceMul, Nat.reduceLeDiff, Nat.reduceSub, Nat.reduceLT, Int.reduceEq, Int.reduceLT, Int.reduceLE, Int.reduceGT, Int.reduceGE, Int.reduceAdd, Int.reduceSub, Int.reduceMul, Int.reduceNeg, Int.reduceToNat, reduceCtorEq, reduceIte, lenV_sl ho, elem_sl Ls.el ho, view_sl ho, scalar_sl ho, cells_sl ho, pure_sl ho, lenV_sl hw, elem_sl Wd.el hw, view_sl hw, scalar_sl hw, cells_sl hw, pure_sl hw, h, exOp_loadR, exOp_storeR, objIs, objNot, b1', b2, b3, h21, atE, setE, gUn, decide_true, Bool.and_true, finC2, getRes, Option.some.injEq, exists_eq_left', view_agg, view_int]

set_option maxHeartbeats 8000000 in
theorem sTop {t : Trap} {o w : AV} (H0 : TrIn t o w) {s : A.Sea} {p b : AV} (N0 : A.SeaIn s p b) {L : List Ls} {nv : AV} (hN : IsSl 1 Ls.e L nv) (x : Int) {l : List Int} {u : AV} (U : IsSl 1 A.intL l u) (y : Wd) :
    Iso E 3 [trV t o w, A.seaV s p b, .agg [nv, I x, u, I y.time, I y.ch, I y.lo, I y.hi]] false = some (Bo true) := by
  have ho := H0.o; have hw := H0.w
  have np := N0.p; have nb := N0.b
  have d11 := sWeighed
  obtain ⟨far, c4, hf⟩ := s46 H0
  simp only [trV] at c4
  cases far
  case true =>
    refine Iso_of (es _ _ _ _) e3 ?_
    simp only [f3, trV, A.seaV]
    simp (disch := first | assumption | omega | (simp only [az]; done)) only [ru, eq_self, if_true, if_false, BEq.rfl, binI, AO.row?, splice, fillL, mmAll, loadV, storeV, zeros, Am.rowAt, Am.part, addOff, Nat.reduceAdd, Nat.reduceMul, Nat.reduceLeDiff, Nat.reduceSub, Nat.reduceLT, Int.reduceEq, Int.reduceLT, Int.reduceLE, Int.reduceGT, Int.reduceGE, Int.reduceAdd, Int.reduceSub, Int.reduceMul, Int.reduceNeg, Int.reduceToNat, reduceCtorEq, reduceIte, lenV_sl ho, elem_sl Ls.el ho, view_sl ho, scalar_sl ho, cells_sl ho, pure_sl ho, lenV_sl hw, elem_sl Wd.el hw, view_sl hw, scalar_sl hw, cells_sl hw, pure_sl hw, lenV_sl hN, elem_sl Ls.el hN, view_sl hN, scalar_sl hN, cells_sl hN, pure_sl hN, lenV_sl np, view_sl np, scalar_sl np, cells_sl np, pure_sl np, lenV_sl nb, view_sl nb, scalar_sl nb, cells_sl nb, pure_sl nb, lenV_sl U, view_sl U, scalar_sl U, cells_sl U, pure_sl U, c4, d11, gUn]
  have H := H0.ok (hf rfl)
  have c5 := fun st => s55 H st
  simp only [trV, chkE] at c5
  cases hv : t.valid
  · simp only [hv, Bool.false_eq_true, if_false] at c5
    refine Iso_of (es _ _ _ _) e3 ?_
    simp only [f3, trV, A.seaV]
    simp (disch := first | assumption | omega | (simp only [az]; done)) only [ru, eq_self, if_true, if_false, BEq.rfl, binI, AO.row?, splice, fillL, mmAll, loadV, storeV, zeros, Am.rowAt, Am.part, addOff, Nat.reduceAdd, Nat.reduceMul, Nat.reduceLeDiff, Nat.reduceSub, Nat.reduceLT, Int.reduceEq, Int.reduceLT, Int.reduceLE, Int.reduceGT, Int.reduceGE, Int.reduceAdd, Int.reduceSub, Int.reduceMul, Int.reduceNeg, Int.reduceToNat, reduceCtorEq, reduceIte, lenV_sl ho, elem_sl Ls.el ho, view_sl ho, scalar_sl ho, cells_sl ho, pure_sl ho, lenV_sl hw, elem_sl Wd.el hw, view_sl hw, scalar_sl hw, cells_sl hw, pure_sl hw, lenV_sl hN, elem_sl Ls.el hN, view_sl hN, scalar_sl hN, cells_sl hN, pure_sl hN, lenV_sl np, view_sl np, scalar_sl np, cells_sl np, pure_sl np, lenV_sl nb, view_sl nb, scalar_sl nb, cells_sl nb, pure_sl nb, lenV_sl U, view_sl U, scalar_sl U, cells_sl U, pure_sl U, c4, c5, d11, gUn]
  simp only [hv, if_true] at c5
  have c6 := fun st => A.s50 N0 st
  simp only [A.seaV] at c6
  cases hfa : A.far s
  case true =>
    rw [hfa] at c6
    refine Iso_of (es _ _ _ _) e3 ?_
    simp only [f3, trV, A.seaV]
    simp (disch := first | assumption | omega | (simp only [az]; done)) only [ru, eq_self, if_true, if_false, BEq.rfl, binI, AO.row?, splice, fillL, mmAll, loadV, storeV, zeros, Am.rowAt, Am.part, addOff, Nat.reduceAdd, Nat.reduceMul, Nat.reduceLeDiff, Nat.reduceSub, Nat.reduceLT, Int.reduceEq, Int.reduceLT, Int.reduceLE, Int.reduceGT, Int.reduceGE, Int.reduceAdd, Int.reduceSub, Int.reduceMul, Int.reduceNeg, Int.reduceToNat, reduceCtorEq, reduceIte, lenV_sl ho, elem_sl Ls.el ho, view_sl ho, scalar_sl ho, cells_sl ho, pure_sl ho, lenV_sl hw, elem_sl Wd.el hw, view_sl hw, scalar_sl hw, cells_sl hw, pure_sl hw, lenV_sl hN, elem_sl Ls.el hN, view_sl hN, scalar_sl hN, cells_sl hN, pure_sl hN, lenV_sl np, view_sl np, scalar_sl np, cells_sl np, pure_sl np, lenV_sl nb, view_sl nb, scalar_sl nb, cells_sl nb, pure_sl nb, lenV_sl U, view_sl U, scalar_sl U, cells_sl U, pure_sl U, c4, c5, c6, d11, gUn]
  rw [hfa] at c6
  have HS := A.far_no N0 hfa
  have c7 := fun st => A.s53 HS st
  simp only [A.seaV] at c7
  cases hvs : s.valid
  · have ev : A.vE s.valid = 50 := by rw [hvs]; rfl
    rw [ev] at c7
    refine Iso_of (es _ _ _ _) e3 ?_
    simp only [f3, trV, A.seaV]
    simp (disch := first | assumption | omega | (simp only [az]; done)) only [ru, eq_self, if_true, if_false, BEq.rfl, binI, AO.row?, splice, fillL, mmAll, loadV, storeV, zeros, Am.rowAt, Am.part, addOff, Nat.reduceAdd, Nat.reduceMul, Nat.reduceLeDiff, Nat.reduceSub, Nat.reduceLT, Int.reduceEq, Int.reduceLT, Int.reduceLE, Int.reduceGT, Int.reduceGE, Int.reduceAdd, Int.reduceSub, Int.reduceMul, Int.reduceNeg, Int.reduceToNat, reduceCtorEq, reduceIte, lenV_sl ho, elem_sl Ls.el ho, view_sl ho, scalar_sl ho, cells_sl ho, pure_sl ho, lenV_sl hw, elem_sl Wd.el hw, view_sl hw, scalar_sl hw, cells_sl hw, pure_sl hw, lenV_sl hN, elem_sl Ls.el hN, view_sl hN, scalar_sl hN, cells_sl hN, pure_sl hN, lenV_sl np, view_sl np, scalar_sl np, cells_sl np, pure_sl np, lenV_sl nb, view_sl nb, scalar_sl nb, cells_sl nb, pure_sl nb, lenV_sl U, view_sl U, scalar_sl U, cells_sl U, pure_sl U, c4, c5, c6, c7, d11, gUn]
  have ev : A.vE s.valid = 0 := by rw [hvs]; rfl
  rw [ev] at c7
  by_cases hlen : (L.length : Int) > 40
  · refine Iso_of (es _ _ _ _) e3 ?_
    simp only [f3, trV, A.seaV]
    simp (disch := first | assumption | omega | (simp only [az]; done)) only [ru, eq_self, if_true, if_false, BEq.rfl, binI, AO.row?, splice, fillL, mmAll, loadV, storeV, zeros, Am.rowAt, Am.part, addOff, Nat.reduceAdd, Nat.reduceMul, Nat.reduceLeDiff, Nat.reduceSub, Nat.reduceLT, Int.reduceEq, Int.reduceLT, Int.reduceLE, Int.reduceGT, Int.reduceGE, Int.reduceAdd, Int.reduceSub, Int.reduceMul, Int.reduceNeg, Int.reduceToNat, reduceCtorEq, reduceIte, lenV_sl ho, elem_sl Ls.el ho, view_sl ho, scalar_sl ho, cells_sl ho, pure_sl ho, lenV_sl hw, elem_sl Wd.el hw, view_sl hw, scalar_sl hw, cells_sl hw, pure_sl hw, lenV_sl hN, elem_sl Ls.el hN, view_sl hN, scalar_sl hN, cells_sl hN, pure_sl hN, lenV_sl np, view_sl np, scalar_sl np, cells_sl np, pure_sl np, lenV_sl nb, view_sl nb, scalar_sl nb, cells_sl nb, pure_sl nb, lenV_sl U, view_sl U, scalar_sl U, cells_sl U, pure_sl U, c4, c5, c6, c7, hlen, d11, gUn]
  by_cases hlen2 : (l.length : Int) > 40
  · refine Iso_of (es _ _ _ _) e3 ?_
    simp only [f3, trV, A.seaV]
    simp (disch := first | assumption | omega | (simp only [az]; done)) only [ru, eq_self, if_true, if_false, BEq.rfl, binI, AO.row?, splice, fillL, mmAll, loadV, storeV, zeros, Am.rowAt, Am.part, addOff, Nat.reduceAdd, Nat.reduceMul, Nat.reduceLeDiff, Nat.reduceSub, Nat.reduceLT, Int.reduceEq, Int.reduceLT, Int.reduceLE, Int.reduceGT, Int.reduceGE, Int.reduceAdd, Int.reduceSub, Int.reduceMul, Int.reduceNeg, Int.reduceToNat, reduceCtorEq, reduceIte, lenV_sl ho, elem_sl Ls.el ho, view_sl ho, scalar_sl ho, cells_sl ho, pure_sl ho, lenV_sl hw, elem_sl Wd.el hw, view_sl hw, scalar_sl hw, cells_sl hw, pure_sl hw, lenV_sl hN, elem_sl Ls.el hN, view_sl hN, scalar_sl hN, cells_sl hN, pure_sl hN, lenV_sl np, view_sl np, scalar_sl np, cells_sl np, pure_sl np, lenV_sl nb, view_sl nb, scalar_sl nb, cells_sl nb, pure_sl nb, lenV_sl U, view_sl U, scalar_sl U, cells_sl U, pure_sl U, c4, c5, c6, c7, hlen, hlen2, d11, gUn]
  have c8 := fun st => A.s17 x 0 50 st
  cases hx : A.inR x 0 50
  · rw [hx] at c8
    refine Iso_of (es _ _ _ _) e3 ?_
    simp only [f3, trV, A.seaV]
    simp (disch := first | assumption | omega | (simp only [az]; done)) only [ru, eq_self, if_true, if_false, BEq.rfl, binI, AO.row?, splice, fillL, mmAll, loadV, storeV, zeros, Am.rowAt, Am.part, addOff, Nat.reduceAdd, Nat.reduceMul, Nat.reduceLeDiff, Nat.reduceSub, Nat.reduceLT, Int.reduceEq, Int.reduceLT, Int.reduceLE, Int.reduceGT, Int.reduceGE, Int.reduceAdd, Int.reduceSub, Int.reduceMul, Int.reduceNeg, Int.reduceToNat, reduceCtorEq, reduceIte, lenV_sl ho, elem_sl Ls.el ho, view_sl ho, scalar_sl ho, cells_sl ho, pure_sl ho, lenV_sl hw, elem_sl Wd.el hw, view_sl hw, scalar_sl hw, cells_sl hw, pure_sl hw, lenV_sl hN, elem_sl Ls.el hN, view_sl hN, scalar_sl hN, cells_sl hN, pure_sl hN, lenV_sl np, view_sl np, scalar_sl np, cells_sl np, pure_sl np, lenV_sl nb, view_sl nb, scalar_sl nb, cells_sl nb, pure_sl nb, lenV_sl U, view_sl U, scalar_sl U, cells_sl U, pure_sl U, c4, c5, c6, c7, hlen, hlen2, c8, d11, gUn]
  rw [hx] at c8
  obtain ⟨b10, c10, hb10⟩ := s18 H hv hN (by omega)
  simp only [trV] at c10
  cases b10
  · refine Iso_of (es _ _ _ _) e3 ?_
    simp only [f3, trV, A.seaV]
    simp (disch := first | assumption | omega | (simp only [az]; done)) only [ru, eq_self, if_true, if_false, BEq.rfl, binI, AO.row?, splice, fillL, mmAll, loadV, storeV, zeros, Am.rowAt, Am.part, addOff, Nat.reduceAdd, Nat.reduceMul, Nat.reduceLeDiff, Nat.reduceSub, Nat.reduceLT, Int.reduceEq, Int.reduceLT, Int.reduceLE, Int.reduceGT, Int.reduceGE, Int.reduceAdd, Int.reduceSub, Int.reduceMul, Int.reduceNeg, Int.reduceToNat, reduceCtorEq, reduceIte, lenV_sl ho, elem_sl Ls.el ho, view_sl ho, scalar_sl ho, cells_sl ho, pure_sl ho, lenV_sl hw, elem_sl Wd.el hw, view_sl hw, scalar_sl hw, cells_sl hw, pure_sl hw, lenV_sl hN, elem_sl Ls.el hN, view_sl hN, scalar_sl hN, cells_sl hN, pure_sl hN, lenV_sl np, view_sl np, scalar_sl np, cells_sl np, pure_sl np, lenV_sl nb, view_sl nb, scalar_sl nb, cells_sl nb, pure_sl nb, lenV_sl U, view_sl U, scalar_sl U, cells_sl U, pure_sl U, c4, c5, c6, c7, hlen, hlen2, c8, c10, d11, gUn]
  have TN := hb10.1 rfl
  have V := valid_trb hv
  have h8 := valid_w8 hv
  have v1 := V.c0; have v2 := V.c1; have v3 := V.t0; have v4 := V.t1
  have eC := trC V; have eT := trT V
  have LT := TN.l
  obtain ⟨xt, tx, gx, _⟩ := num_tr V TN
  have sv : Solv t.C t.T t := ⟨xt, tx⟩
  obtain ⟨lo, hi, c12, l0, lh, h40, X⟩ := sLast H hv sv
  obtain ⟨z, hz⟩ : ∃ z, z = L.getD (t.T - 1) default := ⟨_, rfl⟩
  have rk := TN.r (t.T - 1) (by omega)
  have rz : rowN L (t.T - 1) = z.list := by rw [hz]; rfl
  have lz : z.list.length = t.C := by rw [← rz]; exact rk.1
  obtain ⟨n, hn⟩ : ∃ n, n = z.list.getD (t.C - 1) default := ⟨_, rfl⟩
  have zn : n = gap t.C xt (t.T - 1) (t.C - 1) := by rw [hn, ← rz]; exact gx (t.T - 1) (t.C - 1) (by omega) (by omega)
  have nin := (xt_tr X).1 xt tx
  simp only [← zn] at nin
  have j1 : t.tm - 1 < (L.length : Nat) := by omega
  have j2 : (0 : Int) ≤ t.tm - 1 := by omega
  have j3 : (t.tm - 1).toNat = t.T - 1 := by omega
  have j4 : t.ch - 1 < (z.list.length : Nat) := by omega
  have j5 : (0 : Int) ≤ t.ch - 1 := by omega
  have j6 : (t.ch - 1).toNat = t.C - 1 := by omega
  have n1 : ¬ n < lo := by omega
  have n2 : ¬ n > hi := by omega
  have hx2 := A.inR_iff.1 hx
  -- the seas with a catch
  obtain ⟨KS, hcs⟩ := A.valid_good hvs
  have mul : ∀ k : Int, 0 ≤ k → k ≤ 40 → 0 ≤ k * x ∧ k * x ≤ 2000 := fun k k0 k1 => by
    have a1 := Int.mul_nonneg k0 hx2.1
    have a2 := Int.mul_le_mul k1 hx2.2 hx2.1 (by omega)
    omega
  have mon : ∀ j k : Int, j ≤ k → j * x ≤ k * x := fun j k h => Int.mul_le_mul_of_nonneg_right h hx2.1
  have val : ∀ a c : Int, 0 ≤ a → a ≤ c → c ≤ 40 → (⟨⟨a * x, c * x⟩, s.pl, s.bo⟩ : A.Sea).valid = true := fun a c h1 h2 h3 =>
    A.good_valid ⟨KS.sp, (mul a h1 (by omega)).1, mon a c h2, (mul c (by omega) h3).2, KS.nb, KS.b⟩ hcs
  have okS : ∀ v : A.Spn, A.SeaOk ⟨v, s.pl, s.bo⟩ (A.slV 2 A.Spn.e s.pl) (A.slV 2 A.Bt.e s.bo) := fun v => ⟨⟨A.slV_is, A.slV_is⟩, HS.sp, HS.sb⟩
  have wit : ∀ a c : Int, 0 ≤ a → a ≤ c → c ≤ 40 → Iso E 12 [A.seaV s p b, .agg [I a, I c], I x] false = some (.agg [I (a * x), I (c * x), A.slV 2 A.Spn.e s.pl, A.slV 2 A.Bt.e s.bo]) := fun a c h1 h2 h3 =>
    A.sWith HS (mul a h1 (by omega)).1 (mul a h1 (by omega)).2 (mul c (by omega) h3).1 (mul c (by omega) h3).2
  have sur : ∀ a c a' c' : Int, 0 ≤ a → a ≤ a' → a' ≤ c' → c' ≤ c → c ≤ 40 → Iso E 13 [.agg [I (a' * x), I (c' * x), A.slV 2 A.Spn.e s.pl, A.slV 2 A.Bt.e s.bo], .agg [I (a * x), I (c * x), A.slV 2 A.Spn.e s.pl, A.slV 2 A.Bt.e s.bo], u] false = some (Bo true) := fun a c a' c' h1 h2 h3 h4 h5 =>
    A.sSurer (s := s) (v := ⟨a' * x, c' * x⟩) (u := ⟨a * x, c * x⟩) (okS _) (okS _) (val a' c' (by omega) h3 (by omega)) (val a c h1 (by omega) h5) (mon a a' h2) (mon c' c h4) U (by omega)
  have P1 : IsSl 2 A.Spn.e s.pl (A.slV 2 A.Spn.e s.pl) := A.slV_is
  have B1 : IsSl 2 A.Bt.e s.bo (A.slV 2 A.Bt.e s.bo) := A.slV_is
  obtain ⟨P, hP⟩ : ∃ P, P = A.slV 2 A.Spn.e s.pl := ⟨_, rfl⟩
  obtain ⟨B, hB⟩ : ∃ B, B = A.slV 2 A.Bt.e s.bo := ⟨_, rfl⟩
  rw [← hP] at P1
  rw [← hB] at B1
  simp only [← hP, ← hB, A.seaV] at wit sur
  have k1 := wit lo hi l0 lh h40
  have k2 := wit n n (by omega) (Int.le_refl _) (by omega)
  have k3 := sur lo hi n n l0 nin.1 (Int.le_refl _) nin.2 h40
  have c15 := fun st => s28 H y st
  simp only [trV, Wd.e] at c12 c15
  obtain ⟨wl, hwl⟩ : ∃ w, w = lo * x := ⟨_, rfl⟩
  obtain ⟨wh, hwh⟩ : ∃ w, w = hi * x := ⟨_, rfl⟩
  obtain ⟨wn, hwn⟩ : ∃ w, w = n * x := ⟨_, rfl⟩
  simp only [← hwl, ← hwh, ← hwn] at k1 k2 k3
  cases hW : isW t y
  · rw [hW] at c15
    refine Iso_of (es _ _ _ _) e3 ?_
    simp only [f3, trV, A.seaV]
    simp (disch := first | assumption | omega | (simp only [az]; done)) only [ru, eq_self, if_true, if_false, BEq.rfl, binI, AO.row?, splice, fillL, mmAll, loadV, storeV, zeros, Am.rowAt, Am.part, addOff, Nat.reduceAdd, Nat.reduceMul, Nat.reduceLeDiff, Nat.reduceSub, Nat.reduceLT, Int.reduceEq, Int.reduceLT, Int.reduceLE, Int.reduceGT, Int.reduceGE, Int.reduceAdd, Int.reduceSub, Int.reduceMul, Int.reduceNeg, Int.reduceToNat, reduceCtorEq, reduceIte, lenV_sl ho, elem_sl Ls.el ho, view_sl ho, scalar_sl ho, cells_sl ho, pure_sl ho, lenV_sl hw, elem_sl Wd.el hw, view_sl hw, scalar_sl hw, cells_sl hw, pure_sl hw, lenV_sl hN, elem_sl Ls.el hN, view_sl hN, scalar_sl hN, cells_sl hN, pure_sl hN, lenV_sl np, view_sl np, scalar_sl np, cells_sl np, pure_sl np, lenV_sl nb, view_sl nb, scalar_sl nb, cells_sl nb, pure_sl nb, lenV_sl U, view_sl U, scalar_sl U, cells_sl U, pure_sl U, c4, c5, c6, c7, hlen, hlen2, c8, c10, gUn]
    simp (disch := first | assumption | omega | (simp only [az]; done)) only [ru, eq_self, if_true, if_false, BEq.rfl, binI, AO.row?, splice, fillL, mmAll, loadV, storeV, zeros, Am.rowAt, Am.part, addOff, Nat.reduceAdd, Nat.reduceMul, Nat.reduceLeDiff, Nat.reduceSub, Nat.reduceLT, Int.reduceEq, Int.reduceLT, Int.reduceLE, Int.reduceGT, Int.reduceGE, Int.reduceAdd, Int.reduceSub, Int.reduceMul, Int.reduceNeg, Int.reduceToNat, reduceCtorEq, reduceIte, lenV_sl ho, elem_sl Ls.el ho, view_sl ho, scalar_sl ho, cells_sl ho, pure_sl ho, lenV_sl hw, elem_sl Wd.el hw, view_sl hw, scalar_sl hw, cells_sl hw, pure_sl hw, lenV_sl hN, elem_sl Ls.el hN, view_sl hN, scalar_sl hN, cells_sl hN, pure_sl hN, lenV_sl np, view_sl np, scalar_sl np, cells_sl np, pure_sl np, lenV_sl nb, view_sl nb, scalar_sl nb, cells_sl nb, pure_sl nb, lenV_sl U, view_sl U, scalar_sl U, cells_sl U, pure_sl U, lenV_sl z.is, elem_sl intE z.is, view_sl z.is, scalar_sl z.is, cells_sl z.is, pure_sl z.is, lenV_sl P1, view_sl P1, scalar_sl P1, cells_sl P1, pure_sl P1, lenV_sl B1, view_sl B1, scalar_sl B1, cells_sl B1, pure_sl B1, j1, j2, j3, j4, j5, j6, ← hz, ← hn, Ls.e, c12, n1, n2, k1, k2, k3, c15, d11, gUn]
    done
  rw [hW] at c15
  have c16 := fun st => s35 H (by omega) y st
  have HA := add_ok H (by omega) y
  have c5n := fun st => s55 HA st
  have hq := HA.o
  have hq' := HA.w
  obtain ⟨o', eo⟩ : ∃ o', o' = cpO (t.add y).op := ⟨_, rfl⟩
  obtain ⟨w', ew⟩ : ∃ w', w' = slV 4 Wd.e (t.add y).ws := ⟨_, rfl⟩
  rw [← eo, ← ew] at HA
  rw [← eo] at hq
  rw [← ew] at hq'
  have c16' : ∀ st, Iso E 15 [.agg [I t.ch, I t.tm, o, w], .agg [I y.time, I y.ch, I y.lo, I y.hi]] st = some (.agg [I t.ch, I t.tm, o', w']) := by rw [eo, ew]; exact c16
  have c5n' : ∀ st, Iso E 5 [.agg [I t.ch, I t.tm, o', w']] st = some (I (chkE (t.add y).cp)) := by rw [eo, ew]; exact c5n
  clear c16 c5n
  cases hvn : (t.add y).cp.valid
  · have e10 : chkE (t.add y).cp = 10 := by unfold chkE; rw [hvn]; rfl
    rw [e10] at c5n'
    refine Iso_of (es _ _ _ _) e3 ?_
    simp only [f3, trV, A.seaV]
    simp (disch := first | assumption | omega | (simp only [az]; done)) only [ru, eq_self, if_true, if_false, BEq.rfl, binI, AO.row?, splice, fillL, mmAll, loadV, storeV, zeros, Am.rowAt, Am.part, addOff, Nat.reduceAdd, Nat.reduceMul, Nat.reduceLeDiff, Nat.reduceSub, Nat.reduceLT, Int.reduceEq, Int.reduceLT, Int.reduceLE, Int.reduceGT, Int.reduceGE, Int.reduceAdd, Int.reduceSub, Int.reduceMul, Int.reduceNeg, Int.reduceToNat, reduceCtorEq, reduceIte, lenV_sl ho, elem_sl Ls.el ho, view_sl ho, scalar_sl ho, cells_sl ho, pure_sl ho, lenV_sl hw, elem_sl Wd.el hw, view_sl hw, scalar_sl hw, cells_sl hw, pure_sl hw, lenV_sl hN, elem_sl Ls.el hN, view_sl hN, scalar_sl hN, cells_sl hN, pure_sl hN, lenV_sl np, view_sl np, scalar_sl np, cells_sl np, pure_sl np, lenV_sl nb, view_sl nb, scalar_sl nb, cells_sl nb, pure_sl nb, lenV_sl U, view_sl U, scalar_sl U, cells_sl U, pure_sl U, c4, c5, c6, c7, hlen, hlen2, c8, c10, gUn]
    simp (disch := first | assumption | omega | (simp only [az]; done)) only [ru, eq_self, if_true, if_false, BEq.rfl, binI, AO.row?, splice, fillL, mmAll, loadV, storeV, zeros, Am.rowAt, Am.part, addOff, Nat.reduceAdd, Nat.reduceMul, Nat.reduceLeDiff, Nat.reduceSub, Nat.reduceLT, Int.reduceEq, Int.reduceLT, Int.reduceLE, Int.reduceGT, Int.reduceGE, Int.reduceAdd, Int.reduceSub, Int.reduceMul, Int.reduceNeg, Int.reduceToNat, reduceCtorEq, reduceIte, lenV_sl ho, elem_sl Ls.el ho, view_sl ho, scalar_sl ho, cells_sl ho, pure_sl ho, lenV_sl hw, elem_sl Wd.el hw, view_sl hw, scalar_sl hw, cells_sl hw, pure_sl hw, lenV_sl hN, elem_sl Ls.el hN, view_sl hN, scalar_sl hN, cells_sl hN, pure_sl hN, lenV_sl np, view_sl np, scalar_sl np, cells_sl np, pure_sl np, lenV_sl nb, view_sl nb, scalar_sl nb, cells_sl nb, pure_sl nb, lenV_sl U, view_sl U, scalar_sl U, cells_sl U, pure_sl U, lenV_sl z.is, elem_sl intE z.is, view_sl z.is, scalar_sl z.is, cells_sl z.is, pure_sl z.is, lenV_sl P1, view_sl P1, scalar_sl P1, cells_sl P1, pure_sl P1, lenV_sl B1, view_sl B1, scalar_sl B1, cells_sl B1, pure_sl B1, j1, j2, j3, j4, j5, j6, ← hz, ← hn, Ls.e, c12, n1, n2, k1, k2, k3, c15, gUn]
    simp (disch := first | assumption | omega | (simp only [az]; done)) only [ru, eq_self, if_true, if_false, BEq.rfl, binI, AO.row?, splice, fillL, mmAll, loadV, storeV, zeros, Am.rowAt, Am.part, addOff, Nat.reduceAdd, Nat.reduceMul, Nat.reduceLeDiff, Nat.reduceSub, Nat.reduceLT, Int.reduceEq, Int.reduceLT, Int.reduceLE, Int.reduceGT, Int.reduceGE, Int.reduceAdd, Int.reduceSub, Int.reduceMul, Int.reduceNeg, Int.reduceToNat, reduceCtorEq, reduceIte, lenV_sl ho, elem_sl Ls.el ho, view_sl ho, scalar_sl ho, cells_sl ho, pure_sl ho, lenV_sl hw, elem_sl Wd.el hw, view_sl hw, scalar_sl hw, cells_sl hw, pure_sl hw, lenV_sl hq, elem_sl Ls.el hq, view_sl hq, scalar_sl hq, cells_sl hq, pure_sl hq, lenV_sl hq', elem_sl Wd.el hq', view_sl hq', scalar_sl hq', cells_sl hq', pure_sl hq', lenV_sl hN, elem_sl Ls.el hN, view_sl hN, scalar_sl hN, cells_sl hN, pure_sl hN, lenV_sl np, view_sl np, scalar_sl np, cells_sl np, pure_sl np, lenV_sl nb, view_sl nb, scalar_sl nb, cells_sl nb, pure_sl nb, lenV_sl U, view_sl U, scalar_sl U, cells_sl U, pure_sl U, lenV_sl P1, view_sl P1, scalar_sl P1, cells_sl P1, pure_sl P1, lenV_sl B1, view_sl B1, scalar_sl B1, cells_sl B1, pure_sl B1, c16', c5n', d11, gUn]
    done
  have e10 : chkE (t.add y).cp = 0 := by unfold chkE; rw [hvn]; rfl
  rw [e10] at c5n'
  obtain ⟨b11, c11, hb11⟩ := s18 HA hvn hN (by omega)
  have c11' : ∀ st, Iso E 9 [.agg [I t.ch, I t.tm, o', w'], nv] st = some (Bo b11) := c11
  cases b11
  · refine Iso_of (es _ _ _ _) e3 ?_
    simp only [f3, trV, A.seaV]
    simp (disch := first | assumption | omega | (simp only [az]; done)) only [ru, eq_self, if_true, if_false, BEq.rfl, binI, AO.row?, splice, fillL, mmAll, loadV, storeV, zeros, Am.rowAt, Am.part, addOff, Nat.reduceAdd, Nat.reduceMul, Nat.reduceLeDiff, Nat.reduceSub, Nat.reduceLT, Int.reduceEq, Int.reduceLT, Int.reduceLE, Int.reduceGT, Int.reduceGE, Int.reduceAdd, Int.reduceSub, Int.reduceMul, Int.reduceNeg, Int.reduceToNat, reduceCtorEq, reduceIte, lenV_sl ho, elem_sl Ls.el ho, view_sl ho, scalar_sl ho, cells_sl ho, pure_sl ho, lenV_sl hw, elem_sl Wd.el hw, view_sl hw, scalar_sl hw, cells_sl hw, pure_sl hw, lenV_sl hN, elem_sl Ls.el hN, view_sl hN, scalar_sl hN, cells_sl hN, pure_sl hN, lenV_sl np, view_sl np, scalar_sl np, cells_sl np, pure_sl np, lenV_sl nb, view_sl nb, scalar_sl nb, cells_sl nb, pure_sl nb, lenV_sl U, view_sl U, scalar_sl U, cells_sl U, pure_sl U, c4, c5, c6, c7, hlen, hlen2, c8, c10, gUn]
    simp (disch := first | assumption | omega | (simp only [az]; done)) only [ru, eq_self, if_true, if_false, BEq.rfl, binI, AO.row?, splice, fillL, mmAll, loadV, storeV, zeros, Am.rowAt, Am.part, addOff, Nat.reduceAdd, Nat.reduceMul, Nat.reduceLeDiff, Nat.reduceSub, Nat.reduceLT, Int.reduceEq, Int.reduceLT, Int.reduceLE, Int.reduceGT, Int.reduceGE, Int.reduceAdd, Int.reduceSub, Int.reduceMul, Int.reduceNeg, Int.reduceToNat, reduceCtorEq, reduceIte, lenV_sl ho, elem_sl Ls.el ho, view_sl ho, scalar_sl ho, cells_sl ho, pure_sl ho, lenV_sl hw, elem_sl Wd.el hw, view_sl hw, scalar_sl hw, cells_sl hw, pure_sl hw, lenV_sl hN, elem_sl Ls.el hN, view_sl hN, scalar_sl hN, cells_sl hN, pure_sl hN, lenV_sl np, view_sl np, scalar_sl np, cells_sl np, pure_sl np, lenV_sl nb, view_sl nb, scalar_sl nb, cells_sl nb, pure_sl nb, lenV_sl U, view_sl U, scalar_sl U, cells_sl U, pure_sl U, lenV_sl z.is, elem_sl intE z.is, view_sl z.is, scalar_sl z.is, cells_sl z.is, pure_sl z.is, lenV_sl P1, view_sl P1, scalar_sl P1, cells_sl P1, pure_sl P1, lenV_sl B1, view_sl B1, scalar_sl B1, cells_sl B1, pure_sl B1, j1, j2, j3, j4, j5, j6, ← hz, ← hn, Ls.e, c12, n1, n2, k1, k2, k3, c15, gUn]
    simp (disch := first | assumption | omega | (simp only [az]; done)) only [ru, eq_self, if_true, if_false, BEq.rfl, binI, AO.row?, splice, fillL, mmAll, loadV, storeV, zeros, Am.rowAt, Am.part, addOff, Nat.reduceAdd, Nat.reduceMul, Nat.reduceLeDiff, Nat.reduceSub, Nat.reduceLT, Int.reduceEq, Int.reduceLT, Int.reduceLE, Int.reduceGT, Int.reduceGE, Int.reduceAdd, Int.reduceSub, Int.reduceMul, Int.reduceNeg, Int.reduceToNat, reduceCtorEq, reduceIte, lenV_sl ho, elem_sl Ls.el ho, view_sl ho, scalar_sl ho, cells_sl ho, pure_sl ho, lenV_sl hw, elem_sl Wd.el hw, view_sl hw, scalar_sl hw, cells_sl hw, pure_sl hw, lenV_sl hq, elem_sl Ls.el hq, view_sl hq, scalar_sl hq, cells_sl hq, pure_sl hq, lenV_sl hq', elem_sl Wd.el hq', view_sl hq', scalar_sl hq', cells_sl hq', pure_sl hq', lenV_sl hN, elem_sl Ls.el hN, view_sl hN, scalar_sl hN, cells_sl hN, pure_sl hN, lenV_sl np, view_sl np, scalar_sl np, cells_sl np, pure_sl np, lenV_sl nb, view_sl nb, scalar_sl nb, cells_sl nb, pure_sl nb, lenV_sl U, view_sl U, scalar_sl U, cells_sl U, pure_sl U, lenV_sl P1, view_sl P1, scalar_sl P1, cells_sl P1, pure_sl P1, lenV_sl B1, view_sl B1, scalar_sl B1, cells_sl B1, pure_sl B1, c16', c5n', c11', d11, gUn]
    done
  have TN2 : TruN (t.add y) L := trN_cp.1 (hb11.1 rfl)
  have vA : (t.add y).valid = true := cp_valid.symm.trans hvn
  obtain ⟨xs, txs, gxs, _⟩ := num_tr (valid_trb vA) TN2
  have svA : Solv (t.add y).cp.C (t.add y).cp.T (t.add y).cp := solv_tr.2 ⟨xs, tr_cp.2 txs⟩
  obtain ⟨lo2, hi2, c17, l2, lh2, h402, X2⟩ := sLast HA hvn svA
  have c17' : ∀ st, Iso E 11 [.agg [I t.ch, I t.tm, o', w']] st = some (.tup [.agg [I lo2, I hi2], Bo true]) := c17
  have sub : ∀ x, Tr (t.add y).cp x → Tr t x := fun x hx => (tr_add.1 (tr_cp.1 hx)).1
  have X2' : Xt (t.add y).cp (fun x => gap t.C x (t.T - 1) (t.C - 1)) lo2 hi2 := X2
  have zs : n = gap t.C xs (t.T - 1) (t.C - 1) := by
    have := gxs (t.T - 1) (t.C - 1) (show t.T - 1 < t.T by omega) (show t.C - 1 < t.C by omega)
    rw [hn, ← rz]; exact this
  obtain ⟨Y0, ⟨p1, p1t, p1e⟩, q1, q1t, q1e⟩ := xt_tr X2'
  have nin2 := Y0 xs (tr_cp.2 txs)
  have r1 := (xt_tr X).1 p1 (sub p1 p1t)
  have r2 := (xt_tr X).1 q1 (sub q1 q1t)
  simp only [← zs] at nin2
  try simp only at r1
  try simp only at r2
  try simp only at p1e
  try simp only at q1e
  have m1 : lo ≤ lo2 := by omega
  have m2 : hi2 ≤ hi := by omega
  have k4 := wit lo2 hi2 l2 lh2 h402
  have k5 := sur lo hi lo2 hi2 l0 m1 lh2 m2 h40
  have k6 := sur lo2 hi2 n n l2 nin2.1 (Int.le_refl _) nin2.2 h402
  obtain ⟨wl2, hwl2⟩ : ∃ w, w = lo2 * x := ⟨_, rfl⟩
  obtain ⟨wh2, hwh2⟩ : ∃ w, w = hi2 * x := ⟨_, rfl⟩
  simp only [← hwl2, ← hwh2, ← hwl, ← hwh, ← hwn] at k4 k5 k6
  refine Iso_of (es _ _ _ _) e3 ?_
  simp only [f3, trV, A.seaV]
  simp (disch := first | assumption | omega | (simp only [az]; done)) only [ru, eq_self, if_true, if_false, BEq.rfl, binI, AO.row?, splice, fillL, mmAll, loadV, storeV, zeros, Am.rowAt, Am.part, addOff, Nat.reduceAdd, Nat.reduceMul, Nat.reduceLeDiff, Nat.reduceSub, Nat.reduceLT, Int.reduceEq, Int.reduceLT, Int.reduceLE, Int.reduceGT, Int.reduceGE, Int.reduceAdd, Int.reduceSub, Int.reduceMul, Int.reduceNeg, Int.reduceToNat, reduceCtorEq, reduceIte, lenV_sl ho, elem_sl Ls.el ho, view_sl ho, scalar_sl ho, cells_sl ho, pure_sl ho, lenV_sl hw, elem_sl Wd.el hw, view_sl hw, scalar_sl hw, cells_sl hw, pure_sl hw, lenV_sl hN, elem_sl Ls.el hN, view_sl hN, scalar_sl hN, cells_sl hN, pure_sl hN, lenV_sl np, view_sl np, scalar_sl np, cells_sl np, pure_sl np, lenV_sl nb, view_sl nb, scalar_sl nb, cells_sl nb, pure_sl nb, lenV_sl U, view_sl U, scalar_sl U, cells_sl U, pure_sl U, c4, c5, c6, c7, hlen, hlen2, c8, c10, gUn]
  simp (disch := first | assumption | omega | (simp only [az]; done)) only [ru, eq_self, if_true, if_false, BEq.rfl, binI, AO.row?, splice, fillL, mmAll, loadV, storeV, zeros, Am.rowAt, Am.part, addOff, Nat.reduceAdd, Nat.reduceMul, Nat.reduceLeDiff, Nat.reduceSub, Nat.reduceLT, Int.reduceEq, Int.reduceLT, Int.reduceLE, Int.reduceGT, Int.reduceGE, Int.reduceAdd, Int.reduceSub, Int.reduceMul, Int.reduceNeg, Int.reduceToNat, reduceCtorEq, reduceIte, lenV_sl ho, elem_sl Ls.el ho, view_sl ho, scalar_sl ho, cells_sl ho, pure_sl ho, lenV_sl hw, elem_sl Wd.el hw, view_sl hw, scalar_sl hw, cells_sl hw, pure_sl hw, lenV_sl hN, elem_sl Ls.el hN, view_sl hN, scalar_sl hN, cells_sl hN, pure_sl hN, lenV_sl np, view_sl np, scalar_sl np, cells_sl np, pure_sl np, lenV_sl nb, view_sl nb, scalar_sl nb, cells_sl nb, pure_sl nb, lenV_sl U, view_sl U, scalar_sl U, cells_sl U, pure_sl U, lenV_sl z.is, elem_sl intE z.is, view_sl z.is, scalar_sl z.is, cells_sl z.is, pure_sl z.is, lenV_sl P1, view_sl P1, scalar_sl P1, cells_sl P1, pure_sl P1, lenV_sl B1, view_sl B1, scalar_sl B1, cells_sl B1, pure_sl B1, j1, j2, j3, j4, j5, j6, ← hz, ← hn, Ls.e, c12, n1, n2, k1, k2, k3, c15, gUn]
  simp (disch := first | assumption | omega | (simp only [az]; done)) only [ru, eq_self, if_true, if_false, BEq.rfl, binI, AO.row?, splice, fillL, mmAll, loadV, storeV, zeros, Am.rowAt, Am.part, addOff, Nat.reduceAdd, Nat.reduceMul, Nat.reduceLeDiff, Nat.reduceSub, Nat.reduceLT, Int.reduceEq, Int.reduceLT, Int.reduceLE, Int.reduceGT, Int.reduceGE, Int.reduceAdd, Int.reduceSub, Int.reduceMul, Int.reduceNeg, Int.reduceToNat, reduceCtorEq, reduceIte, lenV_sl ho, elem_sl Ls.el ho, view_sl ho, scalar_sl ho, cells_sl ho, pure_sl ho, lenV_sl hw, elem_sl Wd.el hw, view_sl hw, scalar_sl hw, cells_sl hw, pure_sl hw, lenV_sl hq, elem_sl Ls.el hq, view_sl hq, scalar_sl hq, cells_sl hq, pure_sl hq, lenV_sl hq', elem_sl Wd.el hq', view_sl hq', scalar_sl hq', cells_sl hq', pure_sl hq', lenV_sl hN, elem_sl Ls.el hN, view_sl hN, scalar_sl hN, cells_sl hN, pure_sl hN, lenV_sl np, view_sl np, scalar_sl np, cells_sl np, pure_sl np, lenV_sl nb, view_sl nb, scalar_sl nb, cells_sl nb, pure_sl nb, lenV_sl U, view_sl U, scalar_sl U, cells_sl U, pure_sl U, lenV_sl P1, view_sl P1, scalar_sl P1, cells_sl P1, pure_sl P1, lenV_sl B1, view_sl B1, scalar_sl B1, cells_sl B1, pure_sl B1, c16', c5n', c11', gUn]
  simp (disch := first | assumption | omega | (simp only [az]; done)) only [ru, eq_self, if_true, if_false, BEq.rfl, binI, AO.row?, splice, fillL, mmAll, loadV, storeV, zeros, Am.rowAt, Am.part, addOff, Nat.reduceAdd, Nat.reduceMul, Nat.reduceLeDiff, Nat.reduceSub, Nat.reduceLT, Int.reduceEq, Int.reduceLT, Int.reduceLE, Int.reduceGT, Int.reduceGE, Int.reduceAdd, Int.reduceSub, Int.reduceMul, Int.reduceNeg, Int.reduceToNat, reduceCtorEq, reduceIte, lenV_sl ho, elem_sl Ls.el ho, view_sl ho, scalar_sl ho, cells_sl ho, pure_sl ho, lenV_sl hw, elem_sl Wd.el hw, view_sl hw, scalar_sl hw, cells_sl hw, pure_sl hw, lenV_sl hq, elem_sl Ls.el hq, view_sl hq, scalar_sl hq, cells_sl hq, pure_sl hq, lenV_sl hq', elem_sl Wd.el hq', view_sl hq', scalar_sl hq', cells_sl hq', pure_sl hq', lenV_sl hN, elem_sl Ls.el hN, view_sl hN, scalar_sl hN, cells_sl hN, pure_sl hN, lenV_sl np, view_sl np, scalar_sl np, cells_sl np, pure_sl np, lenV_sl nb, view_sl nb, scalar_sl nb, cells_sl nb, pure_sl nb, lenV_sl U, view_sl U, scalar_sl U, cells_sl U, pure_sl U, lenV_sl P1, view_sl P1, scalar_sl P1, cells_sl P1, pure_sl P1, lenV_sl B1, view_sl B1, scalar_sl B1, cells_sl B1, pure_sl B1, c17', k4, k5, k6, d11, gUn]
  done
end Go.Proofs.Ytjmelmmhnpgneaa.S
