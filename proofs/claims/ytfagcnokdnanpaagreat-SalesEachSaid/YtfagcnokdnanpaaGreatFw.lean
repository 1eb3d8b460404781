/-
SalesEach.
-/
import Derived.Test.YtfagcnokdnanpaaGreatFv
namespace Go.Proofs.YtfagcnokdnanpaaGreat.S
open Go Go.Am Go.Proofs.YtfagcnokdnanpaaGreat.T
set_option maxRecDepth 100000
set_option linter.unusedSimpArgs false
set_option linter.unusedVariables false

theorem ear_drop {l m : List Int} {i : Nat} (hi : i < l.length) (hj : i < m.length) : ear (l.drop i) (m.drop i) = if l.getD i 0 ≠ m.getD i 0 then decide (l.getD i 0 < m.getD i 0) else ear (l.drop (i + 1)) (m.drop (i + 1)) := by
  rw [List.drop_eq_getElem_cons hi, List.drop_eq_getElem_cons hj]
  simp only [ear, List.getD_eq_getElem?_getD, List.getElem?_eq_getElem hi, List.getElem?_eq_getElem hj, Option.getD_some]
theorem t20 {l m : List Int} {u v : AV} (U : IsSl 1 intL l u) (V : IsSl 1 intL m v) (hl : l.length ≤ 1000) (hm : m.length ≤ 1000) (st : Bool) : Iso E 20 [u, v] st = some (Bo (ear l m)) := by
  refine Iso_of (es _ _ _ _) e20 ?_
  simp only [f20]
  simp (disch := first | assumption | omega | (simp only [az]; done)) only [ru, eq_self, if_true, if_false, BEq.rfl, binI, AO.row?, splice, fillL, mmAll, loadV, storeV, zeros, Am.rowAt, Am.part, addOff, Nat.reduceAdd, Nat.reduceMul, Nat.reduceLeDiff, Nat.reduceSub, Nat.reduceLT, Int.reduceEq, Int.reduceLT, Int.reduceLE, Int.reduceGT, Int.reduceGE, Int.reduceAdd, Int.reduceSub, Int.reduceMul, Int.reduceNeg, Int.reduceToNat, reduceCtorEq, reduceIte]
  refine G_loop_ind (fun n ts h mk => ∃ i : Nat, i ≤ l.length ∧ i ≤ m.length ∧ n = l.length - i ∧ ear l m = ear (l.drop i) (m.drop i) ∧ ts.length = 36 ∧ ts.getD 0 .undef = u ∧ ts.getD 1 .undef = v ∧ ts.getD 5 .undef = I i ∧ h = [] ∧ mk = []) ?_ _ _ _ _ ⟨0, Nat.zero_le _, Nat.zero_le _, rfl, rfl, rfl, rfl, rfl, rfl, rfl, rfl⟩
  rintro n ts h mk ih ⟨i, hi, hi2, rfl, he, hl', q0, q1, q5, rfl, rfl⟩
  rw [lit_all hl']
  simp only [lit0, litS, Nat.reduceAdd, q0, q1, q5]
  by_cases h1 : i < l.length
  case neg =>
    have h1' : ¬ (i : Int) < l.length := by omega
    have ev : ear l m = false := by rw [he, List.drop_eq_nil_of_le (by omega)]; simp [ear]
    simp (disch := first | assumption | omega | (simp only [az]; done)) only [ru, eq_self, if_true, if_false, BEq.rfl, binI, AO.row?, splice, fillL, mmAll, loadV, storeV, zeros, Am.rowAt, Am.part, addOff, Nat.reduceAdd, Nat.reduceMul, Nat.reduceLeDiff, Nat.reduceSub, Nat.reduceLT, Int.reduceEq, Int.reduceLT, Int.reduceLE, Int.reduceGT, Int.reduceGE, Int.reduceAdd, Int.reduceSub, Int.reduceMul, Int.reduceNeg, Int.reduceToNat, reduceCtorEq, reduceIte, lenV_sl U, elem_in U, view_sl U, scalar_sl U, cells_sl U, pure_sl U, Int.toNat_natCast, lenV_sl V, elem_in V, view_sl V, scalar_sl V, cells_sl V, pure_sl V, Int.toNat_natCast, h1', gUn, ev, decide_false]
  by_cases h2 : i < m.length
  case neg =>
    have h1' : (i : Int) < l.length := by omega
    have h2' : ¬ (i : Int) < m.length := by omega
    have ev : ear l m = false := by
      rw [he, List.drop_eq_nil_of_le (show m.length ≤ i by omega)]
      cases l.drop i <;> simp [ear]
    simp (disch := first | assumption | omega | (simp only [az]; done)) only [ru, eq_self, if_true, if_false, BEq.rfl, binI, AO.row?, splice, fillL, mmAll, loadV, storeV, zeros, Am.rowAt, Am.part, addOff, Nat.reduceAdd, Nat.reduceMul, Nat.reduceLeDiff, Nat.reduceSub, Nat.reduceLT, Int.reduceEq, Int.reduceLT, Int.reduceLE, Int.reduceGT, Int.reduceGE, Int.reduceAdd, Int.reduceSub, Int.reduceMul, Int.reduceNeg, Int.reduceToNat, reduceCtorEq, reduceIte, lenV_sl U, elem_in U, view_sl U, scalar_sl U, cells_sl U, pure_sl U, Int.toNat_natCast, lenV_sl V, elem_in V, view_sl V, scalar_sl V, cells_sl V, pure_sl V, Int.toNat_natCast, h1', h2', gUn, ev, decide_false, decide_true]
  have h1' : (i : Int) < l.length := by omega
  have h2' : (i : Int) < m.length := by omega
  rw [ear_drop h1 h2] at he
  by_cases hc : l.getD i 0 = m.getD i 0
  · rw [if_neg (fun h => h hc)] at he
    simp (disch := first | assumption | omega | (simp only [az]; done)) only [ru, eq_self, if_true, if_false, BEq.rfl, binI, AO.row?, splice, fillL, mmAll, loadV, storeV, zeros, Am.rowAt, Am.part, addOff, Nat.reduceAdd, Nat.reduceMul, Nat.reduceLeDiff, Nat.reduceSub, Nat.reduceLT, Int.reduceEq, Int.reduceLT, Int.reduceLE, Int.reduceGT, Int.reduceGE, Int.reduceAdd, Int.reduceSub, Int.reduceMul, Int.reduceNeg, Int.reduceToNat, reduceCtorEq, reduceIte, lenV_sl U, elem_in U, view_sl U, scalar_sl U, cells_sl U, pure_sl U, Int.toNat_natCast, lenV_sl V, elem_in V, view_sl V, scalar_sl V, cells_sl V, pure_sl V, Int.toNat_natCast, h1', h2', hc, decide_true, Bool.not_true]
    exact ih (l.length - (i + 1)) _ _ _ (by omega) ⟨i + 1, by omega, by omega, rfl, he, rfl, rfl, rfl, rfl, rfl, rfl⟩
  · rw [if_pos hc] at he
    simp (disch := first | assumption | omega | (simp only [az]; done)) only [ru, eq_self, if_true, if_false, BEq.rfl, binI, AO.row?, splice, fillL, mmAll, loadV, storeV, zeros, Am.rowAt, Am.part, addOff, Nat.reduceAdd, Nat.reduceMul, Nat.reduceLeDiff, Nat.reduceSub, Nat.reduceLT, Int.reduceEq, Int.reduceLT, Int.reduceLE, Int.reduceGT, Int.reduceGE, Int.reduceAdd, Int.reduceSub, Int.reduceMul, Int.reduceNeg, Int.reduceToNat, reduceCtorEq, reduceIte, lenV_sl U, elem_in U, view_sl U, scalar_sl U, cells_sl U, pure_sl U, Int.toNat_natCast, lenV_sl V, elem_in V, view_sl V, scalar_sl V, cells_sl V, pure_sl V, Int.toNat_natCast, h1', h2', hc, decide_true, decide_false, Bool.not_false, he]


/-- the loop of the law and what is behind it -/
def sq : ACode → ACode
  | .seq _ b => b
  | c => c
def fq : ACode → ACode
  | .seq a _ => a
  | c => c
def tail3 : ACode := sq (sq (sq (sq (sq (sq (sq (sq (sq f3.body))))))))
theorem body3 : f3.body = .seq (fq f3.body) (.seq (fq (sq f3.body)) (.seq (fq (sq (sq f3.body))) (.seq (fq (sq (sq (sq f3.body)))) (.seq (fq (sq (sq (sq (sq f3.body))))) (.seq (fq (sq (sq (sq (sq (sq f3.body)))))) (.seq (fq (sq (sq (sq (sq (sq (sq f3.body))))))) (.seq (fq (sq (sq (sq (sq (sq (sq (sq f3.body)))))))) (.seq (fq (sq (sq (sq (sq (sq (sq (sq (sq f3.body))))))))) tail3)))))))) := rfl
theorem tmps3 : f3.ntmps = 161 := rfl
theorem res3 : f3.results = [.tmp 4] := rfl
section
variable {f : Fs} {k p b pv bv : AV} {w : Nat → AV}
set_option maxHeartbeats 4000000 in
theorem lp3 (H : FsIn f k p b pv bv w) {s Y : List Int} {v V1 : AV} (V : IsSl 1 intL s v) (i1' : IsSl 1 intL Y V1) (ls : s.length ≤ 41) (lY : Y.length ≤ 41) (nb : f.bids.length ≤ 41) {O T : Int} {oT : Bool} (hoT : (O == T) = oT)
    (fin : ∀ (i : Nat), (i : Int) < f.bids.length → ∃ kk : Int, (kk = 1 ∨ kk = 2 ∨ kk = 3) ∧ (∀ st, Iso E 21 [.agg [k, I f.h.fl, p, b, pv, I f.d, I f.n, bv], I i] st = some (.tup [I kk, I 0])) ∧ (kk = 1 → (i : Int) ∈ Y ∧ (oT = true → (i : Int) ∈ s)) ∧ (kk = 2 → ¬ (i : Int) ∈ Y ∧ (oT = true → ¬ (i : Int) ∈ s)))
    (ts : List AV) (hk : List AO) (c0' : hk[0]? = some (.cells [k, I f.h.fl, p, b, pv, I f.d, I f.n, bv] false)) (hlt' : ts.length = 161) (q1 : ts.getD 1 .undef = v) (q2 : ts.getD 2 .undef = .ptr 0 0) (q5 : ts.getD 5 .undef = I T) (q6 : ts.getD 6 .undef = V1) (q10 : ts.getD 10 .undef = I O) :
    Am.G ⟨E, 0, none, 3, Done 0 [ARes.tmp 4] fun r h' => Am.view false h' 8 r = some (Bo true)⟩ tail3 [] ts hk [] := by
  have a22 := fun (c : Int) st => s55 (l := Y) i1' (by omega) c st
  have a22s := fun (c : Int) st => s55 V (by omega) c st
  rw [lit_all hlt']
  simp only [lit0, litS, Nat.reduceAdd, q1, q2, q5, q6, q10]
  simp only [tail3, sq, f3]
  cases oT
  all_goals
    simp (disch := first | assumption | omega | (simp only [az]; done)) only [ru, eq_self, if_true, if_false, BEq.rfl, binI, AO.row?, splice, fillL, mmAll, loadV, storeV, zeros, Am.rowAt, Am.part, addOff, Nat.reduceAdd, Nat.reduceMul, Nat.reduceLeDiff, Nat.reduceSub, Nat.reduceLT, Int.reduceEq, Int.reduceLT, Int.reduceLE, Int.reduceGT, Int.reduceGE, Int.reduceAdd, Int.reduceSub, Int.reduceMul, Int.reduceNeg, Int.reduceToNat, reduceCtorEq, reduceIte, lenV_sl H.h.k, lenV_sl H.h.p, lenV_sl H.h.b, elem_kd H.h.k, elem_pr H.h.p, elem_in H.h.b, view_sl H.h.k, view_sl H.h.p, view_sl H.h.b, scalar_sl H.h.k, scalar_sl H.h.p, scalar_sl H.h.b, cells_sl H.h.k, cells_sl H.h.p, cells_sl H.h.b, pure_sl H.h.k, pure_sl H.h.p, pure_sl H.h.b, Int.toNat_natCast, lenV_sl H.pk, view_sl H.pk, scalar_sl H.pk, cells_sl H.pk, pure_sl H.pk, H.bi.len, H.bi.sc, H.bi.ce, H.bi.pu, H.bi.vw, lenV_sl V, view_sl V, scalar_sl V, cells_sl V, pure_sl V, lenV_sl i1', view_sl i1', scalar_sl i1', cells_sl i1', pure_sl i1', c0']
    refine G_loop_ind (fun y ts hk mk => ∃ (j : Nat), j ≤ f.bids.length ∧ y = f.bids.length - j ∧ hk[0]? = some (.cells [k, I f.h.fl, p, b, pv, I f.d, I f.n, bv] false) ∧
        ts.length = 161 ∧ ts.getD 1 .undef = v ∧ ts.getD 2 .undef = .ptr 0 0 ∧ ts.getD 5 .undef = I T ∧ ts.getD 6 .undef = V1 ∧ ts.getD 10 .undef = I O ∧ ts.getD 12 .undef = I j ∧ mk = []) ?_ f.bids.length _ _ _ ⟨0, by omega, rfl, c0', rfl, rfl, rfl, rfl, rfl, rfl, rfl, rfl⟩
    rintro y ts hk mk ih ⟨j, hj, rfl, c0, hlt', q1, q2, q5, q6, q10, q12, rfl⟩
    rw [lit_all hlt']
    simp only [lit0, litS, Nat.reduceAdd, q1, q2, q5, q6, q10, q12]
    simp (disch := first | assumption | omega | (simp only [az]; done)) only [ru, eq_self, if_true, if_false, BEq.rfl, binI, AO.row?, splice, fillL, mmAll, loadV, storeV, zeros, Am.rowAt, Am.part, addOff, Nat.reduceAdd, Nat.reduceMul, Nat.reduceLeDiff, Nat.reduceSub, Nat.reduceLT, Int.reduceEq, Int.reduceLT, Int.reduceLE, Int.reduceGT, Int.reduceGE, Int.reduceAdd, Int.reduceSub, Int.reduceMul, Int.reduceNeg, Int.reduceToNat, reduceCtorEq, reduceIte, lenV_sl H.h.k, lenV_sl H.h.p, lenV_sl H.h.b, elem_kd H.h.k, elem_pr H.h.p, elem_in H.h.b, view_sl H.h.k, view_sl H.h.p, view_sl H.h.b, scalar_sl H.h.k, scalar_sl H.h.p, scalar_sl H.h.b, cells_sl H.h.k, cells_sl H.h.p, cells_sl H.h.b, pure_sl H.h.k, pure_sl H.h.p, pure_sl H.h.b, Int.toNat_natCast, lenV_sl H.pk, view_sl H.pk, scalar_sl H.pk, cells_sl H.pk, pure_sl H.pk, H.bi.len, H.bi.sc, H.bi.ce, H.bi.pu, H.bi.vw, c0]
    by_cases hlt : (j : Int) < f.bids.length
    case neg => simp (disch := first | assumption | omega | (simp only [az]; done)) only [ru, eq_self, if_true, if_false, BEq.rfl, binI, AO.row?, splice, fillL, mmAll, loadV, storeV, zeros, Am.rowAt, Am.part, addOff, Nat.reduceAdd, Nat.reduceMul, Nat.reduceLeDiff, Nat.reduceSub, Nat.reduceLT, Int.reduceEq, Int.reduceLT, Int.reduceLE, Int.reduceGT, Int.reduceGE, Int.reduceAdd, Int.reduceSub, Int.reduceMul, Int.reduceNeg, Int.reduceToNat, reduceCtorEq, reduceIte, hlt, t15]
    obtain ⟨kk, hk3, ak, k1, k2⟩ := fin j hlt
    rcases hk3 with rfl | rfl | rfl
    · have m1 := (k1 rfl).1
      have m1' : decide ((j : Int) ∈ Y) = true := decide_eq_true m1
      have aj := fun st => a22 j st
      have ajs := fun st => a22s j st
      have r1 : inR 1 1 3 = true := rfl
      first
      | (simp (disch := first | assumption | omega | (simp only [az]; done)) only [ru, eq_self, if_true, if_false, BEq.rfl, binI, AO.row?, splice, fillL, mmAll, loadV, storeV, zeros, Am.rowAt, Am.part, addOff, Nat.reduceAdd, Nat.reduceMul, Nat.reduceLeDiff, Nat.reduceSub, Nat.reduceLT, Int.reduceEq, Int.reduceLT, Int.reduceLE, Int.reduceGT, Int.reduceGE, Int.reduceAdd, Int.reduceSub, Int.reduceMul, Int.reduceNeg, Int.reduceToNat, reduceCtorEq, reduceIte, lenV_sl H.h.k, lenV_sl H.h.p, lenV_sl H.h.b, elem_kd H.h.k, elem_pr H.h.p, elem_in H.h.b, view_sl H.h.k, view_sl H.h.p, view_sl H.h.b, scalar_sl H.h.k, scalar_sl H.h.p, scalar_sl H.h.b, cells_sl H.h.k, cells_sl H.h.p, cells_sl H.h.b, pure_sl H.h.k, pure_sl H.h.p, pure_sl H.h.b, Int.toNat_natCast, lenV_sl H.pk, view_sl H.pk, scalar_sl H.pk, cells_sl H.pk, pure_sl H.pk, H.bi.len, H.bi.sc, H.bi.ce, H.bi.pu, H.bi.vw, lenV_sl V, view_sl V, scalar_sl V, cells_sl V, pure_sl V, lenV_sl i1', view_sl i1', scalar_sl i1', cells_sl i1', pure_sl i1', c0, hlt, ak, aj, m1', s57, r1, hoT, gUn, Bool.not_true]
         exact ih (f.bids.length - (j + 1)) _ _ _ (by omega) ⟨j + 1, by omega, rfl, c0, rfl, rfl, rfl, rfl, rfl, rfl, rfl, rfl⟩)
      | (have m2' : decide ((j : Int) ∈ s) = true := decide_eq_true ((k1 rfl).2 rfl)
         simp (disch := first | assumption | omega | (simp only [az]; done)) only [ru, eq_self, if_true, if_false, BEq.rfl, binI, AO.row?, splice, fillL, mmAll, loadV, storeV, zeros, Am.rowAt, Am.part, addOff, Nat.reduceAdd, Nat.reduceMul, Nat.reduceLeDiff, Nat.reduceSub, Nat.reduceLT, Int.reduceEq, Int.reduceLT, Int.reduceLE, Int.reduceGT, Int.reduceGE, Int.reduceAdd, Int.reduceSub, Int.reduceMul, Int.reduceNeg, Int.reduceToNat, reduceCtorEq, reduceIte, lenV_sl H.h.k, lenV_sl H.h.p, lenV_sl H.h.b, elem_kd H.h.k, elem_pr H.h.p, elem_in H.h.b, view_sl H.h.k, view_sl H.h.p, view_sl H.h.b, scalar_sl H.h.k, scalar_sl H.h.p, scalar_sl H.h.b, cells_sl H.h.k, cells_sl H.h.p, cells_sl H.h.b, pure_sl H.h.k, pure_sl H.h.p, pure_sl H.h.b, Int.toNat_natCast, lenV_sl H.pk, view_sl H.pk, scalar_sl H.pk, cells_sl H.pk, pure_sl H.pk, H.bi.len, H.bi.sc, H.bi.ce, H.bi.pu, H.bi.vw, lenV_sl V, view_sl V, scalar_sl V, cells_sl V, pure_sl V, lenV_sl i1', view_sl i1', scalar_sl i1', cells_sl i1', pure_sl i1', c0, hlt, ak, aj, ajs, m1', m2', s57, r1, hoT, gUn, Bool.not_true]
         exact ih (f.bids.length - (j + 1)) _ _ _ (by omega) ⟨j + 1, by omega, rfl, c0, rfl, rfl, rfl, rfl, rfl, rfl, rfl, rfl⟩)
    · have m1 := (k2 rfl).1
      have m1' : decide ((j : Int) ∈ Y) = false := decide_eq_false m1
      have aj := fun st => a22 j st
      have ajs := fun st => a22s j st
      have r1 : inR 2 1 3 = true := rfl
      first
      | (simp (disch := first | assumption | omega | (simp only [az]; done)) only [ru, eq_self, if_true, if_false, BEq.rfl, binI, AO.row?, splice, fillL, mmAll, loadV, storeV, zeros, Am.rowAt, Am.part, addOff, Nat.reduceAdd, Nat.reduceMul, Nat.reduceLeDiff, Nat.reduceSub, Nat.reduceLT, Int.reduceEq, Int.reduceLT, Int.reduceLE, Int.reduceGT, Int.reduceGE, Int.reduceAdd, Int.reduceSub, Int.reduceMul, Int.reduceNeg, Int.reduceToNat, reduceCtorEq, reduceIte, lenV_sl H.h.k, lenV_sl H.h.p, lenV_sl H.h.b, elem_kd H.h.k, elem_pr H.h.p, elem_in H.h.b, view_sl H.h.k, view_sl H.h.p, view_sl H.h.b, scalar_sl H.h.k, scalar_sl H.h.p, scalar_sl H.h.b, cells_sl H.h.k, cells_sl H.h.p, cells_sl H.h.b, pure_sl H.h.k, pure_sl H.h.p, pure_sl H.h.b, Int.toNat_natCast, lenV_sl H.pk, view_sl H.pk, scalar_sl H.pk, cells_sl H.pk, pure_sl H.pk, H.bi.len, H.bi.sc, H.bi.ce, H.bi.pu, H.bi.vw, lenV_sl V, view_sl V, scalar_sl V, cells_sl V, pure_sl V, lenV_sl i1', view_sl i1', scalar_sl i1', cells_sl i1', pure_sl i1', c0, hlt, ak, aj, m1', s57, r1, hoT, gUn, Bool.not_true]
         exact ih (f.bids.length - (j + 1)) _ _ _ (by omega) ⟨j + 1, by omega, rfl, c0, rfl, rfl, rfl, rfl, rfl, rfl, rfl, rfl⟩)
      | (have m2' : decide ((j : Int) ∈ s) = false := decide_eq_false ((k2 rfl).2 rfl)
         simp (disch := first | assumption | omega | (simp only [az]; done)) only [ru, eq_self, if_true, if_false, BEq.rfl, binI, AO.row?, splice, fillL, mmAll, loadV, storeV, zeros, Am.rowAt, Am.part, addOff, Nat.reduceAdd, Nat.reduceMul, Nat.reduceLeDiff, Nat.reduceSub, Nat.reduceLT, Int.reduceEq, Int.reduceLT, Int.reduceLE, Int.reduceGT, Int.reduceGE, Int.reduceAdd, Int.reduceSub, Int.reduceMul, Int.reduceNeg, Int.reduceToNat, reduceCtorEq, reduceIte, lenV_sl H.h.k, lenV_sl H.h.p, lenV_sl H.h.b, elem_kd H.h.k, elem_pr H.h.p, elem_in H.h.b, view_sl H.h.k, view_sl H.h.p, view_sl H.h.b, scalar_sl H.h.k, scalar_sl H.h.p, scalar_sl H.h.b, cells_sl H.h.k, cells_sl H.h.p, cells_sl H.h.b, pure_sl H.h.k, pure_sl H.h.p, pure_sl H.h.b, Int.toNat_natCast, lenV_sl H.pk, view_sl H.pk, scalar_sl H.pk, cells_sl H.pk, pure_sl H.pk, H.bi.len, H.bi.sc, H.bi.ce, H.bi.pu, H.bi.vw, lenV_sl V, view_sl V, scalar_sl V, cells_sl V, pure_sl V, lenV_sl i1', view_sl i1', scalar_sl i1', cells_sl i1', pure_sl i1', c0, hlt, ak, aj, ajs, m1', m2', s57, r1, hoT, gUn, Bool.not_true]
         exact ih (f.bids.length - (j + 1)) _ _ _ (by omega) ⟨j + 1, by omega, rfl, c0, rfl, rfl, rfl, rfl, rfl, rfl, rfl, rfl⟩)
    · have aj := fun st => a22 j st
      have r1 : inR 3 1 3 = true := rfl
      simp (disch := first | assumption | omega | (simp only [az]; done)) only [ru, eq_self, if_true, if_false, BEq.rfl, binI, AO.row?, splice, fillL, mmAll, loadV, storeV, zeros, Am.rowAt, Am.part, addOff, Nat.reduceAdd, Nat.reduceMul, Nat.reduceLeDiff, Nat.reduceSub, Nat.reduceLT, Int.reduceEq, Int.reduceLT, Int.reduceLE, Int.reduceGT, Int.reduceGE, Int.reduceAdd, Int.reduceSub, Int.reduceMul, Int.reduceNeg, Int.reduceToNat, reduceCtorEq, reduceIte, lenV_sl H.h.k, lenV_sl H.h.p, lenV_sl H.h.b, elem_kd H.h.k, elem_pr H.h.p, elem_in H.h.b, view_sl H.h.k, view_sl H.h.p, view_sl H.h.b, scalar_sl H.h.k, scalar_sl H.h.p, scalar_sl H.h.b, cells_sl H.h.k, cells_sl H.h.p, cells_sl H.h.b, pure_sl H.h.k, pure_sl H.h.p, pure_sl H.h.b, Int.toNat_natCast, lenV_sl H.pk, view_sl H.pk, scalar_sl H.pk, cells_sl H.pk, pure_sl H.pk, H.bi.len, H.bi.sc, H.bi.ce, H.bi.pu, H.bi.vw, lenV_sl V, view_sl V, scalar_sl V, cells_sl V, pure_sl V, lenV_sl i1', view_sl i1', scalar_sl i1', cells_sl i1', pure_sl i1', c0, hlt, ak, aj, s57, r1, hoT, gUn, Bool.not_true]
      exact ih (f.bids.length - (j + 1)) _ _ _ (by omega) ⟨j + 1, by omega, rfl, c0, rfl, rfl, rfl, rfl, rfl, rfl, rfl, rfl⟩
end
section
variable {f : Fs} {k p b pv bv : AV} {w : Nat → AV}
set_option maxHeartbeats 4000000 in
theorem l3 (H : FsIn f k p b pv bv w) {s : List Int} {v : AV} (V : IsSl 1 intL s v) : Iso E 3 [frV f k p b pv bv, v] false = some (Bo true) := by
  have a13 := fun st => t13 H st
  simp only [frV] at a13
  refine Iso_of (es _ _ _ _) e3 ?_
  rw [body3, tmps3, res3]
  cases hr : f.rdy
  · rw [hr] at a13
    simp (disch := first | assumption | omega | (simp only [az]; done)) only [ru, eq_self, if_true, if_false, BEq.rfl, binI, AO.row?, splice, fillL, mmAll, loadV, storeV, zeros, Am.rowAt, Am.part, addOff, Nat.reduceAdd, Nat.reduceMul, Nat.reduceLeDiff, Nat.reduceSub, Nat.reduceLT, Int.reduceEq, Int.reduceLT, Int.reduceLE, Int.reduceGT, Int.reduceGE, Int.reduceAdd, Int.reduceSub, Int.reduceMul, Int.reduceNeg, Int.reduceToNat, reduceCtorEq, reduceIte, fq, sq, f3, lenV_sl H.h.k, lenV_sl H.h.p, lenV_sl H.h.b, elem_kd H.h.k, elem_pr H.h.p, elem_in H.h.b, view_sl H.h.k, view_sl H.h.p, view_sl H.h.b, scalar_sl H.h.k, scalar_sl H.h.p, scalar_sl H.h.b, cells_sl H.h.k, cells_sl H.h.p, cells_sl H.h.b, pure_sl H.h.k, pure_sl H.h.p, pure_sl H.h.b, Int.toNat_natCast, lenV_sl H.pk, view_sl H.pk, scalar_sl H.pk, cells_sl H.pk, pure_sl H.pk, H.bi.len, H.bi.sc, H.bi.ce, H.bi.pu, H.bi.vw, lenV_sl V, view_sl V, scalar_sl V, cells_sl V, pure_sl V, a13, t15, gUn, Bool.not_false]
  rw [hr] at a13
  obtain ⟨K, G, hv⟩ := rdy_ok H hr
  by_cases hl : (s.length : Int) > 40
  · simp (disch := first | assumption | omega | (simp only [az]; done)) only [ru, eq_self, if_true, if_false, BEq.rfl, binI, AO.row?, splice, fillL, mmAll, loadV, storeV, zeros, Am.rowAt, Am.part, addOff, Nat.reduceAdd, Nat.reduceMul, Nat.reduceLeDiff, Nat.reduceSub, Nat.reduceLT, Int.reduceEq, Int.reduceLT, Int.reduceLE, Int.reduceGT, Int.reduceGE, Int.reduceAdd, Int.reduceSub, Int.reduceMul, Int.reduceNeg, Int.reduceToNat, reduceCtorEq, reduceIte, fq, sq, f3, lenV_sl H.h.k, lenV_sl H.h.p, lenV_sl H.h.b, elem_kd H.h.k, elem_pr H.h.p, elem_in H.h.b, view_sl H.h.k, view_sl H.h.p, view_sl H.h.b, scalar_sl H.h.k, scalar_sl H.h.p, scalar_sl H.h.b, cells_sl H.h.k, cells_sl H.h.p, cells_sl H.h.b, pure_sl H.h.k, pure_sl H.h.p, pure_sl H.h.b, Int.toNat_natCast, lenV_sl H.pk, view_sl H.pk, scalar_sl H.pk, cells_sl H.pk, pure_sl H.pk, H.bi.len, H.bi.sc, H.bi.ce, H.bi.pu, H.bi.vw, lenV_sl V, view_sl V, scalar_sl V, cells_sl V, pure_sl V, a13, t15, hl, gUn, Bool.not_true, decide_true]
  have hl' : s.length ≤ 41 := by omega
  have a14 := fun st => t14 K G V hl' st
  simp only [frV] at a14
  cases hs : isS f.r f.bids s
  · rw [hs] at a14
    simp (disch := first | assumption | omega | (simp only [az]; done)) only [ru, eq_self, if_true, if_false, BEq.rfl, binI, AO.row?, splice, fillL, mmAll, loadV, storeV, zeros, Am.rowAt, Am.part, addOff, Nat.reduceAdd, Nat.reduceMul, Nat.reduceLeDiff, Nat.reduceSub, Nat.reduceLT, Int.reduceEq, Int.reduceLT, Int.reduceLE, Int.reduceGT, Int.reduceGE, Int.reduceAdd, Int.reduceSub, Int.reduceMul, Int.reduceNeg, Int.reduceToNat, reduceCtorEq, reduceIte, fq, sq, f3, lenV_sl H.h.k, lenV_sl H.h.p, lenV_sl H.h.b, elem_kd H.h.k, elem_pr H.h.p, elem_in H.h.b, view_sl H.h.k, view_sl H.h.p, view_sl H.h.b, scalar_sl H.h.k, scalar_sl H.h.p, scalar_sl H.h.b, cells_sl H.h.k, cells_sl H.h.p, cells_sl H.h.b, pure_sl H.h.k, pure_sl H.h.p, pure_sl H.h.b, Int.toNat_natCast, lenV_sl H.pk, view_sl H.pk, scalar_sl H.pk, cells_sl H.pk, pure_sl H.pk, H.bi.len, H.bi.sc, H.bi.ce, H.bi.pu, H.bi.vw, lenV_sl V, view_sl V, scalar_sl V, cells_sl V, pure_sl V, a13, a14, t15, hl, gUn, Bool.not_true, Bool.not_false, decide_false]
  rw [hs] at a14
  have h0 : ∀ s ∈ allS f.r f.bids, 0 ≤ prc f.bids s := fun s hs => (sale_bd G.bg (mem_allS.1 hs)).1
  have i1 := bV_is (p := fun _ => true) h0
  have w1 := wins_is G.bg (r := f.r)
  have wl := isS_lenL w1.1
  have nb := K.nb
  have a16 := fun st => t16 K hv st
  have a17 := t17 K hv
  have a18 := fun st => t18 K (slV_is (esz := 1) (enc := intL) (l := s)) hl' st
  have a19 := fun st => t19 K G V hl' (isS_mem hs) st
  have a19w := fun st => t19 K G (s := wins f.bids f.r) i1 (by omega) (isS_mem w1.1) st
  have a20 := fun st => t20 V (m := wins f.bids f.r) i1 (by omega) (by omega) st
  have a21 := fun c st => t21 K c st
  have a22 := fun (c : Int) st => s55 (l := wins f.bids f.r) i1 (by omega) c st
  have a22s := fun (c : Int) st => s55 V (by omega) c st
  have tb := tops_bd G (r := f.r)
  have bd := sale_bd G.bg hs
  have tg := tops_ge G.bg hs
  have ord := w1.2.2 s hs
  have won := fun c => won_in G.bg (r := f.r) (c := c) w1.1 w1.2.1
  have wos := fun c => won_in G.bg (r := f.r) (c := c) hs
  simp only [frV, hv, hs, fE_t, if_true, Bool.and_self] at a16 a17 a18 a19 a19w a21
  rw [w1.2.1] at a19w
  obtain ⟨q, x0, x1, hq, A, hx⟩ := cpyQ (eb := 8) (lim := 0) (h := [.cells [k, I f.h.fl, p, b, pv, I f.d, I f.n, bv] false]) (J := []) V intE intSc (by omega) (by omega) (Nat.zero_le _)
  simp only [List.length_cons, List.length_nil, Nat.zero_add, Nat.reduceAdd, apC, apN] at A
  have hx2 : ([.cells [k, I f.h.fl, p, b, pv, I f.d, I f.n, bv] false, x0, x1] : List AO)[1 + q]? = some (.cells (s.flatMap intL) false) := by
    match q, hq with
    | 0, _ => simpa using hx
    | 1, _ => simpa using hx
  have vwS := viewB hx2 (st := false) (n := 7)
  obtain ⟨T, hT⟩ : ∃ T, T = tops f.bids f.r := ⟨_, rfl⟩
  obtain ⟨O, hO⟩ : ∃ O, O = prc f.bids s := ⟨_, rfl⟩
  rw [← hT] at tb a16 tg ord a19w wos
  rw [← hO] at bd tg ord a19 wos
  obtain ⟨Y, hY⟩ : ∃ Y, Y = wins f.bids f.r := ⟨_, rfl⟩
  obtain ⟨V1, hV⟩ : ∃ V1, V1 = bV (bsT f.bids (fun _ => true) (allS f.r f.bids)) := ⟨_, rfl⟩
  have i1' : IsSl 1 intL Y V1 := by rw [hY, hV]; exact i1
  rw [← hV] at a17 a19w a20 a22
  rw [← hY] at a20 a22 won ord
  have n1 : ¬ T < 0 := by omega
  have n2 : ¬ O > T := by omega
  have tT : (T != T) = false := by simp
  obtain ⟨b1, h1⟩ : ∃ b1, decide ((s.length : Int) < Y.length) = b1 := ⟨_, rfl⟩
  obtain ⟨b2, h2⟩ : ∃ b2, ((s.length : Int) == (Y.length : Int)) = b2 := ⟨_, rfl⟩
  obtain ⟨b3, h3⟩ : ∃ b3, ear s Y = b3 := ⟨_, rfl⟩
  obtain ⟨oT, hoT⟩ : ∃ oT, (O == T) = oT := ⟨_, rfl⟩
  have hB : oT = true → (b1 || (b2 && b3)) = false := fun e => by
    have eOT : O = T := by rw [← hoT] at e; simpa using e
    have nbf : ¬ bef s Y := fun h => by have := ord h; omega
    rw [← h1, ← h2, ← h3, Bool.or_eq_false_iff, decide_eq_false_iff_not]
    refine ⟨fun h => nbf (.inl (by omega)), ?_⟩
    cases hE : ear s Y
    · simp
    · rw [Bool.and_true, beq_eq_false_iff_ne]; exact fun h => nbf (.inr ⟨by omega, hE⟩)
  have wosT : oT = true → ∀ c, (wit f.bids f.r c > wot f.bids f.r c → c ∈ s) ∧ (wit f.bids f.r c < wot f.bids f.r c → ¬ c ∈ s) := fun e c => wos c (by rw [← hoT] at e; simpa using e)
  rw [h3] at a20
  have cs : b1 = true ∨ (b1 = false ∧ b2 = false) ∨ (b1 = false ∧ b2 = true) := by cases b1 <;> cases b2 <;> simp
  have fin : ∀ (i : Nat), (i : Int) < f.bids.length → ∃ kk : Int, (kk = 1 ∨ kk = 2 ∨ kk = 3) ∧ (∀ st, Iso E 21 [.agg [k, I f.h.fl, p, b, pv, I f.d, I f.n, bv], I i] st = some (.tup [I kk, I 0])) ∧ (kk = 1 → (i : Int) ∈ Y ∧ (oT = true → (i : Int) ∈ s)) ∧ (kk = 2 → ¬ (i : Int) ∈ Y ∧ (oT = true → ¬ (i : Int) ∈ s)) := fun i hi => by
    have hin : inR (i : Int) 0 (f.bids.length - 1) = true := inR_iff.2 ⟨by omega, by omega⟩
    have ai := fun st => a21 i st
    simp only [hin, askF, if_true] at ai
    refine ⟨wonF f.bids f.r i, ?_, ai, ?_, ?_⟩
    · unfold wonF; split
      · exact .inr (.inl rfl)
      · split
        · exact .inl rfl
        · exact .inr (.inr rfl)
    · intro e
      have hw : wit f.bids f.r i > wot f.bids f.r i := by
        unfold wonF at e; split at e
        · cases e
        · split at e
          · assumption
          · cases e
      exact ⟨(won i).1 hw, fun h => (wosT h i).1 hw⟩
    · intro e
      have hw : wit f.bids f.r i < wot f.bids f.r i := by
        unfold wonF at e; split at e
        · assumption
        · split at e <;> cases e
      exact ⟨(won i).2 hw, fun h => (wosT h i).2 hw⟩
  have lenY : lenV V1 = some (I Y.length) := lenV_sl i1'
  have cs2 : (b1 = true ∧ oT = false) ∨ (b1 = false ∧ b2 = false ∧ oT = false) ∨ (b1 = false ∧ b2 = false ∧ oT = true) ∨ (b1 = false ∧ b2 = true ∧ b3 = true ∧ oT = false) ∨ (b1 = false ∧ b2 = true ∧ b3 = false ∧ oT = false) ∨ (b1 = false ∧ b2 = true ∧ b3 = false ∧ oT = true) := by
    revert hB
    cases b1 <;> cases b2 <;> cases b3 <;> cases oT <;> simp
  have lp := lp3 H V i1' hl' (by rw [hY]; omega) (by omega) hoT fin
  clear cs hB wosT ord wos won h0 tg
  rcases cs2 with ⟨rfl, rfl⟩ | ⟨rfl, rfl, rfl⟩ | ⟨rfl, rfl, rfl⟩ | ⟨rfl, rfl, rfl, rfl⟩ | ⟨rfl, rfl, rfl, rfl⟩ | ⟨rfl, rfl, rfl, rfl⟩
  all_goals
    simp (disch := first | assumption | omega | (simp only [az]; done)) only [ru, eq_self, if_true, if_false, BEq.rfl, binI, AO.row?, splice, fillL, mmAll, loadV, storeV, zeros, Am.rowAt, Am.part, addOff, Nat.reduceAdd, Nat.reduceMul, Nat.reduceLeDiff, Nat.reduceSub, Nat.reduceLT, Int.reduceEq, Int.reduceLT, Int.reduceLE, Int.reduceGT, Int.reduceGE, Int.reduceAdd, Int.reduceSub, Int.reduceMul, Int.reduceNeg, Int.reduceToNat, reduceCtorEq, reduceIte, fq, sq, f3, lenV_sl H.h.k, lenV_sl H.h.p, lenV_sl H.h.b, elem_kd H.h.k, elem_pr H.h.p, elem_in H.h.b, view_sl H.h.k, view_sl H.h.p, view_sl H.h.b, scalar_sl H.h.k, scalar_sl H.h.p, scalar_sl H.h.b, cells_sl H.h.k, cells_sl H.h.p, cells_sl H.h.b, pure_sl H.h.k, pure_sl H.h.p, pure_sl H.h.b, Int.toNat_natCast, lenV_sl H.pk, view_sl H.pk, scalar_sl H.pk, cells_sl H.pk, pure_sl H.pk, H.bi.len, H.bi.sc, H.bi.ce, H.bi.pu, H.bi.vw, lenV_sl V, view_sl V, scalar_sl V, cells_sl V, pure_sl V, lenV_sl i1', view_sl i1', scalar_sl i1', cells_sl i1', pure_sl i1', a13, a14, hl, gUn, Bool.not_true, decide_false, a16, a17, GO_mapp, unhN, unhC, A, vwS, a18, a19, a19w, n1, n2, tT, h1, h2, hoT, a20]
    exact lp _ _ rfl rfl rfl rfl rfl rfl rfl
end
end Go.Proofs.YtfagcnokdnanpaaGreat.S

