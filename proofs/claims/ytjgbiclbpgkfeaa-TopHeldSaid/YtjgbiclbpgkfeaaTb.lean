/-
A net that is loaded with fish; what drags of it.
-/
import Derived.Test.YtjgbiclbpgkfeaaTa
import Derived.Test.YtjgbiclbpgkfeaaC2
namespace Go.Proofs.Ytjgbiclbpgkfeaa.A
open Go Go.Am Go.Proofs.Ytjgbiclbpgkfeaa.T
open Go.Proofs.Ytjgbiclbpgkfeaa.S (setT setT0 atT atT0 getT getT0)
set_option maxRecDepth 100000
set_option linter.unusedSimpArgs false
set_option linter.unusedVariables false

theorem TH.app {n : Net} {g a w : AV} {og oa ow p : Nat} {A : List Anc} {W : List Wal} {h : List AO} {x : AO} (T : TH n g a w og oa ow p A W h) : TH n g a w og oa ow p A W (h ++ [x]) := by
  obtain ⟨f0, f1, fp, fg, fa, fw, d1, d2, d6⟩ := T
  exact ⟨by rw [at_lt1 (at_len f0)]; exact f0, by rw [at_lt1 (at_len f1)]; exact f1, by rw [at_lt1 (at_len fp)]; exact fp, by rw [at_lt1 (at_len fg)]; exact fg, by rw [at_lt1 (at_len fa)]; exact fa, by rw [at_lt1 (at_len fw)]; exact fw, d1, d2, d6⟩
theorem flat_get {α : Type} [Inhabited α] {enc : α → List AV} {k : Nat} (he : ∀ a, (enc a).length = k) {l : List α} {i : Nat} (hi : i < l.length) : ((l.flatMap enc).drop (i * k)).take k = enc (l.getD i default) := by
  rw [flat_at he l i hi, List.getD_eq_getElem?_getD, List.getElem?_eq_getElem hi]; rfl

set_option maxHeartbeats 1000000 in
theorem ldd {n : Net} {g a w : AV} (H : NetOk n g a w) {F : List Int} {v : AV} (hF : IsSl 1 (fun n => [I n]) F v) (st : Bool) : Iso E 29 [netV n g a w, v] st = some (netC (n.ld F)) := by
  have sg := H.sg; have sa := H.sa; have sw := H.sw
  refine Iso_of (es _ _ _ _) e29 ?_
  simp only [f29, netV]
  obtain ⟨og, oa, ow, K, q, C, lg, la, lw⟩ := call17 H [.cells [I n.wind.lo, I n.wind.hi, I n.cur.lo, I n.cur.hi, g, a, w] false, .cells [I 0, I 0, I 0, I 0, .nils, .nils, .nils] false]
  simp (disch := first | assumption | omega | (simp only [az]; done)) only [ru, eq_self, if_true, if_false, BEq.rfl, binI, AO.row?, splice, fillL, mmAll, loadV, storeV, zeros, Am.rowAt, Am.part, addOff, Nat.reduceAdd, Nat.reduceMul, Nat.reduceLeDiff, Nat.reduceSub, Nat.reduceLT, Int.reduceEq, Int.reduceLT, Int.reduceLE, Int.reduceGT, Int.reduceGE, Int.reduceAdd, Int.reduceSub, Int.reduceMul, Int.reduceNeg, Int.reduceToNat, reduceCtorEq, reduceIte, lenV_sl H.g, lenV_sl H.a, lenV_sl H.w, elem_sl Spn.el H.g, elem_sl Anc.el H.a, elem_sl Wal.el H.w, view_sl H.g, view_sl H.a, view_sl H.w, scalar_sl H.g, scalar_sl H.a, scalar_sl H.w, cells_sl H.g, cells_sl H.a, cells_sl H.w, pure_sl H.g, pure_sl H.a, pure_sl H.w, Spn.e, Anc.e, Wal.e, Spn.eta, Anc.eta, Wal.eta, Int.toNat_natCast]
  rw [q rfl]
  obtain ⟨Hp, hHp⟩ : ∃ Hp, Hp = [.cells [I n.wind.lo, I n.wind.hi, I n.cur.lo, I n.cur.hi, g, a, w] false, .cells [I 0, I 0, I 0, I 0, .nils, .nils, .nils] false] ++ K := ⟨_, rfl⟩
  have f0 : Hp[0]? = some (.cells [I n.wind.lo, I n.wind.hi, I n.cur.lo, I n.cur.hi, g, a, w] false) := by rw [hHp]; rfl
  have f1 : Hp[1]? = some (.cells [I 0, I 0, I 0, I 0, .nils, .nils, .nils] false) := by rw [hHp]; rfl
  rw [← hHp] at C ⊢
  have n1 := at_len f1
  have ng := at_len C.g; have na := at_len C.a; have nw := at_len C.w
  simp only [len0, lenS] at lg la lw
  clear hHp q
  simp (disch := first | assumption | omega | (simp only [az]; done)) only [ru, eq_self, if_true, if_false, BEq.rfl, binI, AO.row?, splice, fillL, mmAll, loadV, storeV, zeros, Am.rowAt, Am.part, addOff, Nat.reduceAdd, Nat.reduceMul, Nat.reduceLeDiff, Nat.reduceSub, Nat.reduceLT, Int.reduceEq, Int.reduceLT, Int.reduceLE, Int.reduceGT, Int.reduceGE, Int.reduceAdd, Int.reduceSub, Int.reduceMul, Int.reduceNeg, Int.reduceToNat, reduceCtorEq, reduceIte]
  have T : TH n g a w og oa ow Hp.length n.ancs (ldW n.walls (F.take 0)) (Hp ++ [.cells [I n.wind.lo, I n.wind.hi, I n.cur.lo, I n.cur.hi, .ms 2 og 0 n.grips.length, .ms 2 oa 0 n.ancs.length, .ms 5 ow 0 n.walls.length] false]) := by
    have e0 : ldW n.walls (F.take 0) = n.walls := by rw [List.take_zero]; cases n.walls <;> rfl
    rw [e0]
    refine ⟨by rw [at_lt1 (by omega)]; exact f0, by rw [at_lt1 (by omega)]; exact f1, atE, by rw [at_lt1 (by omega)]; exact C.g, by rw [at_lt1 (by omega)]; exact C.a, by rw [at_lt1 (by omega)]; exact C.w, ?_, ?_, by omega⟩
    · have := C.ga; have := C.aw; omega
    · have := C.gw; have := C.aw; omega
  refine G_loop_ind (fun m ts h mk => ∃ (i : Nat), i ≤ n.walls.length ∧ i ≤ F.length ∧ m = n.walls.length - i ∧ TH n g a w og oa ow Hp.length n.ancs (ldW n.walls (F.take i)) h ∧ ts.length = 40 ∧ ts.getD 1 .undef = v ∧ ts.getD 2 .undef = .ptr 0 0 ∧ ts.getD 4 .undef = .ptr 1 0 ∧
    ts.getD 5 .undef = .ptr Hp.length 0 ∧ ts.getD 6 .undef = I i ∧ mk = []) ?_ _ _ _ _ ⟨0, Nat.zero_le _, Nat.zero_le _, rfl, T, rfl, rfl, rfl, rfl, rfl, rfl, rfl⟩
  clear T C
  rintro m ts h mk ih ⟨i, hi, hi2, rfl, T, hl, q1, q2, q4, q5, q6, rfl⟩
  rw [lit_all hl]
  simp only [lit0, litS, Nat.reduceAdd, q1, q2, q4, q5, q6]
  have t0 := T.f0; have tp := T.fp; have tw := T.w
  have fin : (n.walls.length ≤ i ∨ F.length ≤ i) → TH n g a w og oa ow Hp.length n.ancs (ldW n.walls F) h := fun hh => by
    have := T
    rw [ldW_all hh] at this
    exact this
  simp (disch := first | assumption | omega | (simp only [az]; done)) only [ru, eq_self, if_true, if_false, BEq.rfl, binI, AO.row?, splice, fillL, mmAll, loadV, storeV, zeros, Am.rowAt, Am.part, addOff, Nat.reduceAdd, Nat.reduceMul, Nat.reduceLeDiff, Nat.reduceSub, Nat.reduceLT, Int.reduceEq, Int.reduceLT, Int.reduceLE, Int.reduceGT, Int.reduceGE, Int.reduceAdd, Int.reduceSub, Int.reduceMul, Int.reduceNeg, Int.reduceToNat, reduceCtorEq, reduceIte, lenV_sl H.g, lenV_sl H.a, lenV_sl H.w, elem_sl Spn.el H.g, elem_sl Anc.el H.a, elem_sl Wal.el H.w, view_sl H.g, view_sl H.a, view_sl H.w, scalar_sl H.g, scalar_sl H.a, scalar_sl H.w, cells_sl H.g, cells_sl H.a, cells_sl H.w, pure_sl H.g, pure_sl H.a, pure_sl H.w, Spn.e, Anc.e, Wal.e, Spn.eta, Anc.eta, Wal.eta, Int.toNat_natCast, tp, lenV_sl hF, elem_sl intE hF, view_sl hF, scalar_sl hF, cells_sl hF, pure_sl hF, gUn]
  by_cases hlt : (i : Int) < n.walls.length
  case neg =>
    have T2 := fin (.inl (by omega))
    obtain ⟨u0, u1, up, ug, ua, uw, ⟨d1, d2, d3, d4, d5⟩, ⟨c1, c2, c3, c4, c5⟩, d6⟩ := T2
    have d2' := d2.symm; have c2' := c2.symm; have d6' := d6.symm
    have nh := at_len u1
    have tg := flat_take (l := n.grips) Spn.el
    have tw' := flat_take (l := ldW n.walls F) Wal.el
    have ta' := flat_take (l := n.ancs) Anc.el
    have ea := flat_len Anc.el n.ancs
    have ew := flat_len Wal.el (ldW n.walls F)
    rw [ldW_len] at tw' ew
    simp (disch := first | assumption | omega | (simp only [az]; done)) only [ru, eq_self, if_true, if_false, BEq.rfl, binI, AO.row?, splice, fillL, mmAll, loadV, storeV, zeros, Am.rowAt, Am.part, addOff, Nat.reduceAdd, Nat.reduceMul, Nat.reduceLeDiff, Nat.reduceSub, Nat.reduceLT, Int.reduceEq, Int.reduceLT, Int.reduceLE, Int.reduceGT, Int.reduceGE, Int.reduceAdd, Int.reduceSub, Int.reduceMul, Int.reduceNeg, Int.reduceToNat, reduceCtorEq, reduceIte, hlt, gUn, up, u1, ug, ua, uw, at_ne, at_set, ceMs, scMs, finC, getRes, Option.some.injEq, exists_eq_left', tg, tw', ta', ea, ew, flat_len Spn.el, flat_view Spn.iv, flat_view Anc.iv, flat_view Wal.iv]
    simp only [netC, Net.ld, slV, ldW_len]
  by_cases hlf : (i : Int) < F.length
  case neg =>
    have T2 := fin (.inr (by omega))
    obtain ⟨u0, u1, up, ug, ua, uw, ⟨d1, d2, d3, d4, d5⟩, ⟨c1, c2, c3, c4, c5⟩, d6⟩ := T2
    have d2' := d2.symm; have c2' := c2.symm; have d6' := d6.symm
    have nh := at_len u1
    have tg := flat_take (l := n.grips) Spn.el
    have tw' := flat_take (l := ldW n.walls F) Wal.el
    have ta' := flat_take (l := n.ancs) Anc.el
    have ea := flat_len Anc.el n.ancs
    have ew := flat_len Wal.el (ldW n.walls F)
    rw [ldW_len] at tw' ew
    simp (disch := first | assumption | omega | (simp only [az]; done)) only [ru, eq_self, if_true, if_false, BEq.rfl, binI, AO.row?, splice, fillL, mmAll, loadV, storeV, zeros, Am.rowAt, Am.part, addOff, Nat.reduceAdd, Nat.reduceMul, Nat.reduceLeDiff, Nat.reduceSub, Nat.reduceLT, Int.reduceEq, Int.reduceLT, Int.reduceLE, Int.reduceGT, Int.reduceGE, Int.reduceAdd, Int.reduceSub, Int.reduceMul, Int.reduceNeg, Int.reduceToNat, reduceCtorEq, reduceIte, hlt, hlf, lenV_sl hF, elem_sl intE hF, view_sl hF, scalar_sl hF, cells_sl hF, pure_sl hF, gUn, up, u1, ug, ua, uw, at_ne, at_set, ceMs, scMs, finC, getRes, Option.some.injEq, exists_eq_left', tg, tw', ta', ea, ew, flat_len Spn.el, flat_view Spn.iv, flat_view Anc.iv, flat_view Wal.iv]
    simp only [netC, Net.ld, slV, ldW_len]
  have hi' : i < n.walls.length := by omega
  have hf' : i < F.length := by omega
  have i0 : (0 : Int) ≤ i := by omega
  obtain ⟨x, hx⟩ : ∃ x, x = n.walls.getD i default := ⟨_, rfl⟩
  obtain ⟨f, hf⟩ : ∃ f, f = F.getD i default := ⟨_, rfl⟩
  obtain ⟨W, hW⟩ : ∃ W, W = ldW n.walls (F.take i) := ⟨_, rfl⟩
  have lW : W.length = n.walls.length := by rw [hW, ldW_len]
  have hlen : i * 5 + 5 ≤ (W.flatMap Wal.e).length := by rw [flat_len Wal.el, lW]; omega
  have wat : W.getD i default = x := by rw [hW, hx, ldW_out (by rw [List.length_take]; omega)]
  have hget : List.take 5 (List.drop (i * 5) (W.flatMap Wal.e)) = [I x.sail, I x.drag, I x.lean, I x.corks, I x.stones] := by rw [flat_get Wal.el (by omega), wat]; rfl
  have hput := flat_put Wal.el { x with sail := sailOf f } W i (by omega)
  have hset : W.set i { x with sail := sailOf f } = ldW n.walls (F.take (i + 1)) := by rw [hW, hx, hf]; exact ldW_take hi' hf'
  rw [hset] at hput
  simp only [Wal.e, sailOf] at hput
  rw [← hW] at tw T
  have twJ := (T.app (x := .cells [I (mmx false 9 f), I x.drag, I x.lean, I x.corks, I x.stones] false)).w
  have tpJ := (T.app (x := .cells [I (mmx false 9 f), I x.drag, I x.lean, I x.corks, I x.stones] false)).fp
  simp (disch := first | assumption | omega | (simp only [az]; done)) only [ru, eq_self, if_true, if_false, BEq.rfl, binI, AO.row?, splice, fillL, mmAll, loadV, storeV, zeros, Am.rowAt, Am.part, addOff, Nat.reduceAdd, Nat.reduceMul, Nat.reduceLeDiff, Nat.reduceSub, Nat.reduceLT, Int.reduceEq, Int.reduceLT, Int.reduceLE, Int.reduceGT, Int.reduceGE, Int.reduceAdd, Int.reduceSub, Int.reduceMul, Int.reduceNeg, Int.reduceToNat, reduceCtorEq, reduceIte, lenV_sl H.g, lenV_sl H.a, lenV_sl H.w, elem_sl Spn.el H.g, elem_sl Anc.el H.a, elem_sl Wal.el H.w, view_sl H.g, view_sl H.a, view_sl H.w, scalar_sl H.g, scalar_sl H.a, scalar_sl H.w, cells_sl H.g, cells_sl H.a, cells_sl H.w, pure_sl H.g, pure_sl H.a, pure_sl H.w, Spn.e, Anc.e, Wal.e, Spn.eta, Anc.eta, Wal.eta, Int.toNat_natCast, hlt, hlf, lenV_sl hF, elem_sl intE hF, view_sl hF, scalar_sl hF, cells_sl hF, pure_sl hF, gUn, tp, tw, i0, hlen, hget, ← hf, twJ, tpJ, hput, List.append_assoc, lenE, setT, setT0, atT, atT0, getT, getT0, Nat.add_assoc]
  exact ih (n.walls.length - (i + 1)) _ _ _ (by omega) ⟨i + 1, by omega, by omega, rfl, T.app.putW, rfl, rfl, rfl, rfl, rfl, rfl, rfl⟩
end Go.Proofs.Ytjgbiclbpgkfeaa.A
