/-
The mathematics and the functions, one after another (S2).
-/
import Derived.Test.YtfagcnokdnanpaaS1
import Derived.Test.YtfagcnokdnanpaaAmZ

/-
The inputs of the laws of stage 9, as the abstract machine has them.
-/
namespace Go.Proofs.Ytfagcnokdnanpaa.S
open Go Go.Am Go.Proofs.Ytfagcnokdnanpaa.T
set_option linter.unusedVariables false
set_option maxRecDepth 100000

theorem z3 : Try.prog.cellsOf 3 = 1 := by kernel_rfl
theorem z22 : Try.prog.cellsOf 22 = 1 := by kernel_rfl
theorem z23 : Try.prog.cellsOf 23 = 1 := by kernel_rfl
theorem z24 : Try.prog.cellsOf 24 = 1 := by kernel_rfl
theorem z26 : Try.prog.cellsOf 26 = 4 := by kernel_rfl
theorem z78 : Try.prog.cellsOf 78 = 2 := by kernel_rfl
theorem z76 : Try.prog.cellsOf 76 = 2 := by kernel_rfl
theorem wfIc {d : Nat} {c : List AV} (h : WfC Try.prog (d + 1) 3 c) : ∃ i, c = [I i] ∧ True := by
  obtain ⟨i, e, hw⟩ := wf_int Try.underlying3 h
  exact ⟨i, e, trivial⟩
theorem wfI {d : Nat} {a : AV} (h : WfC Try.prog (d + 1) 3 [a]) : ∃ i, a = I i ∧ True := by
  obtain ⟨i, e, _⟩ := wfIc h
  simp only [List.cons.injEq, and_true] at e
  exact ⟨i, e, trivial⟩
theorem wfKd {d : Nat} {c : List AV} (h : WfC Try.prog (d + 2) 76 c) : ∃ s : Kd, c = s.e ∧ True := by
  obtain ⟨hl, hf⟩ := wf_struct Try.underlying76 h
  rw [z76] at hl
  match c, hl with
  | [x, y], _ =>
    have h0 : WfC Try.prog (d + 1) 3 (([x, y].drop 0).take (Try.prog.cellsOf 3)) := hf 0 _ rfl
    have h1 : WfC Try.prog (d + 1) 3 (([x, y].drop 1).take (Try.prog.cellsOf 3)) := hf 1 _ rfl
    rw [z3] at h0 h1
    obtain ⟨i, rfl, _⟩ := wfI (show WfC Try.prog (d + 1) 3 [x] from h0)
    obtain ⟨j, rfl, _⟩ := wfI (show WfC Try.prog (d + 1) 3 [y] from h1)
    exact ⟨⟨i, j⟩, rfl, trivial⟩
theorem wfPr {d : Nat} {c : List AV} (h : WfC Try.prog (d + 2) 78 c) : ∃ s : Pr, c = s.e ∧ True := by
  obtain ⟨hl, hf⟩ := wf_struct Try.underlying78 h
  rw [z78] at hl
  match c, hl with
  | [x, y], _ =>
    have h0 : WfC Try.prog (d + 1) 3 (([x, y].drop 0).take (Try.prog.cellsOf 3)) := hf 0 _ rfl
    have h1 : WfC Try.prog (d + 1) 3 (([x, y].drop 1).take (Try.prog.cellsOf 3)) := hf 1 _ rfl
    rw [z3] at h0 h1
    obtain ⟨i, rfl, _⟩ := wfI (show WfC Try.prog (d + 1) 3 [x] from h0)
    obtain ⟨j, rfl, _⟩ := wfI (show WfC Try.prog (d + 1) 3 [y] from h1)
    exact ⟨⟨i, j⟩, rfl, trivial⟩
theorem wfNums {d : Nat} {c : List AV} (h : WfC Try.prog (d + 2) 24 c) : ∃ (l : List Int) (v : AV), c = [v] ∧ IsSl 1 intL l v := by
  obtain ⟨l, v, e, iv, _⟩ := wf_sl (d := d + 1) (enc := intL) (p := fun _ => True) Try.underlying24 z3 (fun c hc => wfIc hc) h
  exact ⟨l, v, e, iv⟩
theorem wfHouse {d : Nat} {c : List AV} (h : WfC Try.prog (d + 4) 26 c) : ∃ (s : Hs) (k p b : AV), AV.agg c = hsV s.fl k p b ∧ HsIn s k p b := by
  obtain ⟨hl, hf⟩ := wf_struct Try.underlying26 h
  rw [z26] at hl
  match c, hl with
  | [x, y, z, u], _ =>
    have h0 : WfC Try.prog (d + 3) 22 (([x, y, z, u].drop 0).take (Try.prog.cellsOf 22)) := hf 0 _ rfl
    have h1 : WfC Try.prog (d + 3) 3 (([x, y, z, u].drop 1).take (Try.prog.cellsOf 3)) := hf 1 _ rfl
    have h2 : WfC Try.prog (d + 3) 23 (([x, y, z, u].drop 2).take (Try.prog.cellsOf 23)) := hf 2 _ rfl
    have h3 : WfC Try.prog (d + 3) 24 (([x, y, z, u].drop 3).take (Try.prog.cellsOf 24)) := hf 3 _ rfl
    rw [z22] at h0
    rw [z3] at h1
    rw [z23] at h2
    rw [z24] at h3
    obtain ⟨lk, k, e0, ik, _⟩ := wf_sl (d := d + 2) (enc := Kd.e) (p := fun _ => True) Try.underlying22 z76 (fun c hc => wfKd hc) (show WfC Try.prog (d + 3) 22 [x] from h0)
    obtain ⟨i, rfl, _⟩ := wfI (show WfC Try.prog (d + 2 + 1) 3 [y] from h1)
    obtain ⟨lp, p, e2, ip, _⟩ := wf_sl (d := d + 2) (enc := Pr.e) (p := fun _ => True) Try.underlying23 z78 (fun c hc => wfPr hc) (show WfC Try.prog (d + 3) 23 [z] from h2)
    obtain ⟨lb, b, e3, ib⟩ := wfNums (d := d + 1) (show WfC Try.prog (d + 3) 24 [u] from h3)
    simp only [List.cons.injEq, and_true] at e0 e2 e3
    subst e0; subst e2; subst e3
    exact ⟨⟨lk, i, lp, lb⟩, x, z, u, rfl, ⟨ik, ip, ib⟩⟩
theorem zBD : Try.prog.cellsOf 31 = 3 := by kernel_rfl
theorem zFA : Try.prog.cellsOf 29 = 8 := by kernel_rfl
theorem zBS : Try.prog.cellsOf 27 = 1 := by kernel_rfl
theorem wfBid {d : Nat} {c : List AV} (h : WfC Try.prog (d + 3) 31 c) : ∃ s : Bd, c = s.e ∧ True := by
  obtain ⟨hl, hf⟩ := wf_struct Try.underlying31 h
  rw [zBD] at hl
  match c, hl with
  | [x, y, z], _ =>
    have h0 : WfC Try.prog (d + 2) 3 (([x, y, z].drop 0).take (Try.prog.cellsOf 3)) := hf 0 _ rfl
    have h1 : WfC Try.prog (d + 2) 24 (([x, y, z].drop 1).take (Try.prog.cellsOf 24)) := hf 1 _ rfl
    have h2 : WfC Try.prog (d + 2) 3 (([x, y, z].drop 2).take (Try.prog.cellsOf 3)) := hf 2 _ rfl
    rw [z3] at h0 h2
    rw [z24] at h1
    obtain ⟨i, rfl, _⟩ := wfI (show WfC Try.prog (d + 1 + 1) 3 [x] from h0)
    obtain ⟨l, v, e, iv⟩ := wfNums (show WfC Try.prog (d + 2) 24 [y] from h1)
    obtain ⟨j, rfl, _⟩ := wfI (show WfC Try.prog (d + 1 + 1) 3 [z] from h2)
    simp only [List.cons.injEq, and_true] at e
    subst e
    exact ⟨⟨⟨i, l, j⟩, y, iv⟩, rfl, trivial⟩
theorem wfFair {d : Nat} {c : List AV} (h : WfC Try.prog (d + 5) 29 c) : ∃ (s : Fs) (k p b pv bv : AV) (w : Nat → AV), AV.agg c = frV s k p b pv bv ∧ FsIn s k p b pv bv w := by
  obtain ⟨hl, hf⟩ := wf_struct Try.underlying29 h
  rw [zFA] at hl
  match c, hl with
  | [x0, x1, x2, x3, x4, x5, x6, x7], _ =>
    have h0 : WfC Try.prog (d + 4) 26 (([x0, x1, x2, x3, x4, x5, x6, x7].drop 0).take (Try.prog.cellsOf 26)) := hf 0 _ rfl
    have h1 : WfC Try.prog (d + 4) 24 (([x0, x1, x2, x3, x4, x5, x6, x7].drop 4).take (Try.prog.cellsOf 24)) := hf 1 _ rfl
    have h2 : WfC Try.prog (d + 4) 3 (([x0, x1, x2, x3, x4, x5, x6, x7].drop 5).take (Try.prog.cellsOf 3)) := hf 2 _ rfl
    have h3 : WfC Try.prog (d + 4) 3 (([x0, x1, x2, x3, x4, x5, x6, x7].drop 6).take (Try.prog.cellsOf 3)) := hf 3 _ rfl
    have h4 : WfC Try.prog (d + 4) 27 (([x0, x1, x2, x3, x4, x5, x6, x7].drop 7).take (Try.prog.cellsOf 27)) := hf 4 _ rfl
    rw [z26] at h0
    rw [z24] at h1
    rw [z3] at h2 h3
    rw [zBS] at h4
    obtain ⟨hs, k, p, b, e0, ih⟩ := wfHouse (d := d) (show WfC Try.prog (d + 4) 26 [x0, x1, x2, x3] from h0)
    obtain ⟨lp, pv, e1, ip⟩ := wfNums (d := d + 2) (show WfC Try.prog (d + 4) 24 [x4] from h1)
    obtain ⟨i, rfl, _⟩ := wfI (show WfC Try.prog (d + 3 + 1) 3 [x5] from h2)
    obtain ⟨j, rfl, _⟩ := wfI (show WfC Try.prog (d + 3 + 1) 3 [x6] from h3)
    obtain ⟨lb, bv, e4, ib, _⟩ := wf_sl (d := d + 3) (enc := Bd.e) (p := fun _ => True) Try.underlying27 zBD (fun c hc => wfBid hc) (show WfC Try.prog (d + 4) 27 [x7] from h4)
    simp only [List.cons.injEq, and_true, AV.agg.injEq] at e0 e1 e4
    obtain ⟨rfl, rfl, rfl, rfl⟩ := e0
    subst e1; subst e4
    exact ⟨⟨hs, lp, i, j, lb.map Bd.b⟩, x0, x2, x3, x4, x7, _, rfl, ⟨ih, ip, BsIn.of ib⟩⟩
theorem own : ownKnob Try.prog.godebug = none := by kernel_rfl
theorem laidOut : laidOutB Try.prog = true := by kernel_rfl
def fairW : Value := .agg #[.slice none 0 0, .int .i64 0, .slice none 0 0, .slice none 0 0, .slice none 0 0, .int .i64 0, .int .i64 0, .slice none 0 0]
def bidW : Value := .agg #[.int .i64 0, .slice none 0 0, .int .i64 0]
end Go.Proofs.Ytfagcnokdnanpaa.S

/-
The chapter's examples.
-/
namespace Go.Proofs.Ytfagcnokdnanpaa.S
open Go Go.Am Go.Proofs.Ytfagcnokdnanpaa.T
set_option maxRecDepth 100000
set_option linter.unusedSimpArgs false
set_option linter.unusedVariables false

def exF : Fs := ⟨⟨[⟨3, 10⟩, ⟨5, 4⟩], 2, [⟨0, 10⟩, ⟨0, 15⟩, ⟨1, 8⟩], [40, 20]⟩, [0, 0, 1], 10, 3, [⟨0, [0], 30⟩, ⟨1, [0, 1], 45⟩, ⟨2, [1], 12⟩, ⟨0, [1], 20⟩]⟩
def exG : Fs := exF.on exF.pk 5
theorem exF_ok : ∃ w, FsOk exF (hsK exF) (hsP exF) (hsB exF) (slV 1 intL exF.pk) (resB exF.bids) w := by
  obtain ⟨w, h⟩ := cpF_in exF
  refine ⟨w, h, ⟨h.h, by decide, by decide, by decide⟩, by decide, by decide, ?_⟩
  intro i hi
  have : ∀ i : Fin 4, (exF.bids.getD i default).bs.length ≤ 41 := by decide
  exact this ⟨i, hi⟩
theorem exG_ok : ∃ w, FsOk exG (hsK exG) (hsP exG) (hsB exG) (slV 1 intL exG.pk) (resB exG.bids) w := by
  obtain ⟨w, h⟩ := exF_ok
  exact ⟨w, h.on slV_is h.np 5⟩
theorem xv : exF.valid = true ∧ exG.valid = true := by decide +kernel
theorem x40 : idx (fun i => exG.r i) 4 = [1] := by decide +kernel
theorem x44 : tops exF.bids exF.r = 45 := by decide +kernel
theorem x46 : bV (bsT exF.bids (fun _ => true) (allS exF.r exF.bids)) = slV 1 intL [1] := by
  have : bsT exF.bids (fun _ => true) (allS exF.r exF.bids) = ([1], 45) := by decide +kernel
  rw [this]; rfl
theorem x25 : payF exF.bids exF.r 1 = 42 := by decide +kernel
theorem x49 : needE exF.bids exF.r 0 = false ∧ needF exF.bids exF.r 0 = 33 := by decide +kernel
theorem x55 : (fsB (fun d => tops exF.bids (rdF exF.h exF.pk d)) 21).1 = 10 := by decide +kernel
abbrev exV (d : Int) : AV := .agg [.cs 2 2 [I 3, I 10, I 5, I 4], I 2, .cs 2 3 [I 0, I 10, I 0, I 15, I 1, I 8], .cs 1 2 [I 40, I 20], .cs 1 3 [I 0, I 0, I 1], I d, I 3, .cs 3 4 [I 0, .cs 1 1 [I 0], I 30, I 1, .cs 1 2 [I 0, I 1], I 45, I 2, .cs 1 1 [I 1], I 12, I 0, .cs 1 1 [I 1], I 20]]
set_option maxHeartbeats 1000000 in
theorem t60 : Iso E 24 [] false = some (.tup [exV 10, exV 5]) := by
  obtain ⟨w, H⟩ := exF_ok
  have a : Iso E 17 [exV 10, I 5] false = some (exV 5) := t93 H 5
  refine Iso_of (es _ _ _ _) e24 ?_
  simp only [f24]
  simp only [exV] at a ⊢
  simp (disch := first | assumption | omega | (simp only [az]; done)) only [ru, eq_self, if_true, if_false, BEq.rfl, binI, AO.row?, splice, fillL, mmAll, loadV, storeV, zeros, Am.rowAt, Am.part, addOff, Nat.reduceAdd, Nat.reduceMul, Nat.reduceLeDiff, Nat.reduceSub, Nat.reduceLT, Int.reduceEq, Int.reduceLT, Int.reduceLE, Int.reduceGT, Int.reduceGE, Int.reduceAdd, Int.reduceSub, Int.reduceMul, Int.reduceNeg, Int.reduceToNat, reduceCtorEq, reduceIte, exOp_litS, AV.pureV.go, AV.pureV, Bool.and_true, List.append_assoc, List.cons_append, List.nil_append, a, Bool.and_self]
  refine finG (vs := [exV 10, exV 5]) ?_ |>.mpr ?_
  · rfl
  · simp only [view_tup, List.mapM_cons, List.mapM_nil]; rfl
set_option maxHeartbeats 1000000 in
theorem t15 (st : Bool) : Iso E 7 [] st = some (Bo true) := by
  obtain ⟨w, H⟩ := exF_ok
  obtain ⟨w', H'⟩ := exG_ok
  have a0 := t60
  have a1 := fun st => t40 H' st
  have a2 := fun st => t44 H st
  have a3 := t46 H
  have a4 := fun st => t25 H 1 st
  have a5 := fun st => t49 H 0 st
  have a6 := fun st => t55 H st
  have k1 : inR 1 0 (exF.n - 1) = true := by decide
  have k2 : inR 0 0 (exF.bids.length - 1) = true := by decide
  simp only [xv.1, xv.2, x40, x44, x46, x25, x49.1, x49.2, x55, fE_t, if_true, askF, k1, k2, and_self, Bool.false_eq_true, if_false] at a1 a2 a3 a4 a5 a6
  have r1 : resL [1] = .cs 1 1 [I 1] := rfl
  have r2 : slV 1 intL [1] = .cs 1 1 [I 1] := rfl
  rw [r1] at a1
  rw [r2] at a3
  have b1 : ∀ st, Iso E 18 [exV 5] st = some (.tup [.cs 1 1 [I 1], I 0]) := a1
  have b2 : ∀ st, Iso E 25 [exV 10] st = some (.tup [I 45, I 0]) := a2
  have b3 : Iso E 26 [exV 10] false = some (.tup [.cs 1 1 [I 1], I 0]) := a3
  have b4 : ∀ st, Iso E 27 [exV 10, I 1] st = some (.tup [I 42, I 0]) := a4
  have b5 : ∀ st, Iso E 14 [exV 10, I 0] st = some (.tup [I 33, I 0]) := a5
  have b6 : ∀ st, Iso E 20 [exV 10] st = some (.tup [I 10, I 0]) := a6
  have b7 : ∀ st, Iso E 28 [.cs 1 1 [I 1], .cs 1 1 [I 1]] st = some (Bo true) := fun st => s28 (l := [1]) (.inl rfl) (.inl rfl) (by decide) st
  simp only [exV] at a0 b1 b2 b3 b4 b5 b6
  refine Iso_of (es _ _ _ _) e7 ?_
  simp only [f7]
  simp (disch := first | assumption | omega | (simp only [az]; done)) only [ru, eq_self, if_true, if_false, BEq.rfl, binI, AO.row?, splice, fillL, mmAll, loadV, storeV, zeros, Am.rowAt, Am.part, addOff, Nat.reduceAdd, Nat.reduceMul, Nat.reduceLeDiff, Nat.reduceSub, Nat.reduceLT, Int.reduceEq, Int.reduceLT, Int.reduceLE, Int.reduceGT, Int.reduceGE, Int.reduceAdd, Int.reduceSub, Int.reduceMul, Int.reduceNeg, Int.reduceToNat, reduceCtorEq, reduceIte, a0, b1, b2, b3, b4, b5, b6, b7, exOp_litS, AV.pureV.go, AV.pureV, Bool.and_true, gUn, Bool.and_self]
  done
end Go.Proofs.Ytfagcnokdnanpaa.S

/-
Sales as lists with conditions on pairs; their order; what the best come to.
-/
namespace Go.Proofs.Ytfagcnokdnanpaa.S
set_option linter.unusedVariables false
set_option linter.unusedSimpArgs false

def prS (L : List Bi) (a b : Int) : Prop := a < b ∧ (bAt L a).u ≠ (bAt L b).u ∧ shr (bAt L a) (bAt L b) = false
theorem isS_iff {r : Int → Bool} {L : List Bi} {s : List Int} : isS r L s = true ↔ (∀ x ∈ s, 0 ≤ x ∧ x < L.length ∧ (bAt L x).bs.all r = true) ∧ s.Pairwise (prS L) := by
  constructor
  · intro h
    refine ⟨fun x hx => ?_, pair_of (d := 0) fun i j hij hj => isS_pair h hij hj⟩
    obtain ⟨j, hj, rfl⟩ := mem_getD (d := 0) hx
    exact isS_at h hj
  · rintro ⟨h1, h2⟩
    unfold isS
    simp only [List.all_eq_true, List.mem_range, Bool.and_eq_true, inR_iff, fitS]
    intro i hi
    have hm := h1 _ (getD_memI hi)
    have hb := hm.2.2
    rw [List.all_eq_true] at hb
    refine ⟨⟨hm.1, by omega⟩, fun x hx => ?_, hb⟩
    obtain ⟨j, hj, rfl⟩ := mem_getD (d := 0) hx
    rw [List.length_take] at hj
    have e : (s.take i).getD j 0 = s.getD j 0 := by simp only [List.getD_eq_getElem?_getD]; rw [List.getElem?_take_of_lt (by omega)]
    rw [e]
    have h3 : prS L (s.getD j 0) (s.getD i 0) := by
      have := (List.pairwise_iff_getElem.1 h2) j i (by omega) hi (by omega)
      simpa [List.getD_eq_getElem?_getD, List.getElem?_eq_getElem hi, List.getElem?_eq_getElem (show j < s.length by omega)] using this
    simp only [apB, Bool.and_eq_true, decide_eq_true_eq, Bool.not_eq_true']
    exact ⟨⟨h3.1, h3.2.1⟩, h3.2.2⟩
theorem bAt_set {L : List Bi} {c : Int} {b : Bi} (c0 : 0 ≤ c) (hc : c < L.length) {x : Int} (x0 : 0 ≤ x) : bAt (L.set c.toNat b) x = if x = c then b else bAt L x := by
  simp only [bAt, List.getD_eq_getElem?_getD, List.getElem?_set]
  by_cases h : x = c
  · subst h
    rw [if_pos rfl, if_pos (by omega), if_pos rfl]; rfl
  · rw [if_neg (by omega), if_neg h]
/-- other pence: the same sales -/
theorem isS_off {r : Int → Bool} {L : List Bi} {c z : Int} (c0 : 0 ≤ c) (hc : c < L.length) {s : List Int} : isS r (L.set c.toNat { bAt L c with c := z }) s = isS r L s := by
  have e : ∀ x : Int, 0 ≤ x → (bAt (L.set c.toNat { bAt L c with c := z }) x).u = (bAt L x).u ∧ (bAt (L.set c.toNat { bAt L c with c := z }) x).bs = (bAt L x).bs := fun x x0 => by
    rw [bAt_set c0 hc x0]
    by_cases h : x = c
    · subst h; rw [if_pos rfl]; exact ⟨rfl, rfl⟩
    · rw [if_neg h]; exact ⟨rfl, rfl⟩
  rw [Bool.eq_iff_iff, isS_iff, isS_iff, List.length_set]
  have hp : ∀ a b : Int, 0 ≤ a → 0 ≤ b → (prS (L.set c.toNat { bAt L c with c := z }) a b ↔ prS L a b) := fun a b ha hb => by
    simp only [prS, shr, (e a ha).1, (e b hb).1, (e a ha).2, (e b hb).2]
  constructor
  · rintro ⟨h1, h2⟩
    have h0 : ∀ x ∈ s, 0 ≤ x := fun x hx => (h1 x hx).1
    refine ⟨fun x hx => by have := h1 x hx; rw [(e x (h0 x hx)).2] at this; exact this, ?_⟩
    refine (List.Pairwise.imp_of_mem ?_ h2)
    intro a b ha hb h; exact (hp a b (h0 a ha) (h0 b hb)).1 h
  · rintro ⟨h1, h2⟩
    have h0 : ∀ x ∈ s, 0 ≤ x := fun x hx => (h1 x hx).1
    refine ⟨fun x hx => by have := h1 x hx; rw [(e x (h0 x hx)).2]; exact this, ?_⟩
    refine (List.Pairwise.imp_of_mem ?_ h2)
    intro a b ha hb h; exact (hp a b (h0 a ha) (h0 b hb)).2 h
theorem prc_off {L : List Bi} {c z : Int} (c0 : 0 ≤ c) (hc : c < L.length) : ∀ {s : List Int}, (∀ x ∈ s, 0 ≤ x) → s.Pairwise (fun a b => a < b) → prc (L.set c.toNat { bAt L c with c := z }) s = prc L s + (if c ∈ s then z - (bAt L c).c else 0)
  | [], _, _ => by simp [prc, sm]
  | x :: s, h, hp => by
    obtain ⟨p1, p2⟩ := List.pairwise_cons.1 hp
    have ih := prc_off c0 hc (z := z) (s := s) (fun y hy => h y (by simp [hy])) p2
    have e := bAt_set (b := { bAt L c with c := z }) c0 hc (h x (by simp))
    simp only [prc, List.map_cons, sm] at ih ⊢
    rw [ih, e]
    by_cases hx : x = c
    · subst hx
      have : ¬ x ∈ s := fun hm => by have := p1 x hm; omega
      rw [if_pos rfl, if_neg this, if_pos (by simp)]
      simp only; omega
    · rw [if_neg hx]
      by_cases hm : c ∈ s
      · rw [if_pos hm, if_pos (by simp [hm])]; omega
      · rw [if_neg hm, if_neg (by simp [hm, Ne.symm hx])]; omega
theorem asc_of {L : List Bi} {s : List Int} (h : s.Pairwise (prS L)) : s.Pairwise (fun a b => a < b) := h.imp fun h => h.1

/-! the order of the sales -/
def bef (s t : List Int) : Prop := s.length < t.length ∨ (s.length = t.length ∧ ear s t = true)
theorem bef_asym {s t : List Int} (h : bef s t) : ¬ bef t s := by
  rintro (h2 | ⟨h2, h3⟩) <;> rcases h with h | ⟨h, h1⟩
  · omega
  · omega
  · omega
  · rw [ear_asym h1] at h3; cases h3
theorem ens_len {ok : List Int → Bool} {cs : List Int} : ∀ {d : Nat} {F s : List Int}, s ∈ ens ok cs d F → s.length = F.length + d ∧ s.take F.length = F
  | 0, F, s, h => by
    unfold ens at h
    split at h
    · simp at h; subst h; simp
    · simp at h
  | d + 1, F, s, h => by
    unfold ens at h
    split at h
    · simp only [List.mem_flatMap] at h
      obtain ⟨c, _, h⟩ := h
      obtain ⟨h1, h2⟩ := ens_len h
      simp only [List.length_append, List.length_singleton] at h1 h2
      refine ⟨by omega, ?_⟩
      have := congrArg (List.take F.length) h2
      simpa [List.take_take] using this
    · simp at h
theorem pw_flatMap {α β : Type} {R : β → β → Prop} {f : α → List β} : ∀ {l : List α}, (∀ a ∈ l, (f a).Pairwise R) → l.Pairwise (fun a b => ∀ x ∈ f a, ∀ y ∈ f b, R x y) → (l.flatMap f).Pairwise R
  | [], _, _ => List.Pairwise.nil
  | a :: l, h1, h2 => by
    obtain ⟨p1, p2⟩ := List.pairwise_cons.1 h2
    rw [List.flatMap_cons, List.pairwise_append]
    refine ⟨h1 a (by simp), pw_flatMap (fun b hb => h1 b (by simp [hb])) p2, fun x hx y hy => ?_⟩
    obtain ⟨b, hb, hy⟩ := List.mem_flatMap.1 hy
    exact p1 b hb x hx y hy
theorem upto_pw (n : Nat) : (upto n).Pairwise (fun a b => a < b) := by
  unfold upto
  rw [List.pairwise_map]
  exact (List.pairwise_lt_range (n := n)).imp fun h => by omega
theorem ens_pw {ok : List Int → Bool} {n : Nat} : ∀ (d : Nat) (F : List Int), (ens ok (upto n) d F).Pairwise (fun s t => ear s t = true)
  | 0, F => by
    unfold ens
    split
    · exact List.pairwise_singleton _ _
    · exact List.Pairwise.nil
  | d + 1, F => by
    unfold ens
    split
    · refine pw_flatMap (fun c _ => ens_pw d (F ++ [c])) ((upto_pw n).imp fun {a b} hab s hs t ht => ?_)
      obtain ⟨_, h1⟩ := ens_len hs
      obtain ⟨_, h2⟩ := ens_len ht
      rw [← List.take_append_drop (F ++ [a]).length s, ← List.take_append_drop (F ++ [b]).length t, h1, h2, List.append_assoc, List.append_assoc, ear_app]
      simp only [List.singleton_append, ear]
      rw [if_pos (by omega)]
      simpa using hab
    · exact List.Pairwise.nil
theorem allS_pw {r : Int → Bool} {L : List Bi} : (allS r L).Pairwise bef := by
  unfold allS salT
  refine pw_flatMap (fun m _ => ?_) ?_
  · refine List.Pairwise.imp_of_mem ?_ (ens_pw m [])
    intro s t hs ht h
    have h1 := (ens_len hs).1
    have h2 := (ens_len ht).1
    exact .inr ⟨by omega, h⟩
  · refine (List.pairwise_lt_range (n := L.length + 1)).imp fun {a b} hab s hs t ht => ?_
    have h1 := (mem_sals.1 hs).2
    have h2 := (mem_sals.1 ht).2
    exact .inl (by omega)

/-! the best -/
section
variable {L : List Bi} {n : Int} {nb : Nat} {r : Int → Bool}
theorem best_ge (G : BG n nb L) {pm : List Int → Bool} {s : List Int} (hs : isS r L s = true) (hp : pm s = true) : prc L s ≤ (bsT L pm (allS r L)).2 :=
  (bsT_spec (L := L) (p := pm) (allS r L) fun s hs => (sale_bd G (mem_allS.1 hs)).1).1 s (mem_allS.2 hs) hp
theorem best_at (G : BG n nb L) {pm : List Int → Bool} : ((bsT L pm (allS r L)).2 = -1 ∧ (bsT L pm (allS r L)).1 = [] ∧ ∀ s, isS r L s = true → pm s = false) ∨ (isS r L (bsT L pm (allS r L)).1 = true ∧ pm (bsT L pm (allS r L)).1 = true ∧ (bsT L pm (allS r L)).2 = prc L (bsT L pm (allS r L)).1 ∧ ∀ s, isS r L s = true → pm s = true → bef s (bsT L pm (allS r L)).1 → prc L s < (bsT L pm (allS r L)).2) := by
  rcases (bsT_spec (L := L) (p := pm) (allS r L) fun s hs => (sale_bd G (mem_allS.1 hs)).1).2 with ⟨e1, e2, e3⟩ | ⟨a, b, e1, e2, e3, e4⟩
  · exact .inl ⟨e1, e2, fun s hs => e3 s (mem_allS.2 hs)⟩
  · refine .inr ⟨win_isS G, e2, e3, fun s hs hp hb => ?_⟩
    have hm := mem_allS.2 hs
    have pw := allS_pw (r := r) (L := L)
    generalize (bsT L pm (allS r L)) = z at *
    rw [e1] at hm pw
    rcases List.mem_append.1 hm with h | h
    · exact e4 s h hp
    · rcases List.mem_cons.1 h with rfl | h
      · exact absurd hb (bef_asym hb)
      · have := (List.pairwise_cons.1 (List.pairwise_append.1 pw).2.1).1 s h
        exact absurd hb (bef_asym this)
theorem tops_ge (G : BG n nb L) {s : List Int} (hs : isS r L s = true) : prc L s ≤ tops L r := best_ge G hs rfl
theorem wins_is (G : BG n nb L) : isS r L (wins L r) = true ∧ prc L (wins L r) = tops L r ∧ ∀ s, isS r L s = true → bef s (wins L r) → prc L s < tops L r := by
  rcases best_at G (r := r) (pm := fun _ => true) with ⟨_, _, h⟩ | ⟨h1, _, h3, h4⟩
  · have := h [] isS_nil; cases this
  · exact ⟨h1, h3.symm, fun s hs hb => h4 s hs rfl hb⟩
theorem wit_le (G : BG n nb L) {c : Int} : wit L r c ≤ tops L r ∧ wot L r c ≤ tops L r ∧ (wit L r c = tops L r ∨ wot L r c = tops L r) := by
  have w := wins_is G (r := r)
  have t0 : 0 ≤ tops L r := by have := tops_ge G (r := r) (s := []) isS_nil; simpa [prc, sm] using this
  refine ⟨?_, ?_, ?_⟩
  · rcases best_at G (r := r) (pm := fun s => decide (c ∈ s)) with ⟨h, _, _⟩ | ⟨h1, _, h3, _⟩
    · show (bsT _ _ _).2 ≤ _; omega
    · show (bsT _ _ _).2 ≤ _; rw [h3]; exact tops_ge G h1
  · rcases best_at G (r := r) (pm := fun s => !decide (c ∈ s)) with ⟨h, _, _⟩ | ⟨h1, _, h3, _⟩
    · show (bsT _ _ _).2 ≤ _; omega
    · show (bsT _ _ _).2 ≤ _; rw [h3]; exact tops_ge G h1
  · have hw1 : c ∈ wins L r → tops L r ≤ wit L r c := fun h => by rw [← w.2.1]; exact best_ge G w.1 (by simpa using h)
    have hw2 : ¬ c ∈ wins L r → tops L r ≤ wot L r c := fun h => by rw [← w.2.1]; exact best_ge G w.1 (by simpa using h)
    have l1 : wit L r c ≤ tops L r := by
      rcases best_at G (r := r) (pm := fun s => decide (c ∈ s)) with ⟨h, _, _⟩ | ⟨h1, _, h3, _⟩
      · show (bsT _ _ _).2 ≤ _; omega
      · show (bsT _ _ _).2 ≤ _; rw [h3]; exact tops_ge G h1
    have l2 : wot L r c ≤ tops L r := by
      rcases best_at G (r := r) (pm := fun s => !decide (c ∈ s)) with ⟨h, _, _⟩ | ⟨h1, _, h3, _⟩
      · show (bsT _ _ _).2 ≤ _; omega
      · show (bsT _ _ _).2 ≤ _; rw [h3]; exact tops_ge G h1
    by_cases h : c ∈ wins L r
    · left; have := hw1 h; omega
    · right; have := hw2 h; omega
end
end Go.Proofs.Ytfagcnokdnanpaa.S

/-
SalesHonest.
-/
namespace Go.Proofs.Ytfagcnokdnanpaa.S
open Go Go.Am Go.Proofs.Ytfagcnokdnanpaa.T
set_option maxRecDepth 100000
set_option linter.unusedSimpArgs false
set_option linter.unusedVariables false

section
variable {f : Fs} {k p b pv bv : AV} {w : Nat → AV}
theorem off_r {f : Fs} {c z : Int} : (f.off c z).r = f.r := rfl
theorem off_bg {n : Int} {nb : Nat} {L : List Bi} (G : BG n nb L) {c z : Int} (c0 : 0 ≤ c) (hc : c < L.length) (hz : 0 ≤ z ∧ z ≤ 99) : BG n nb (L.set c.toNat { bAt L c with c := z }) := by
  have e : ∀ i : Nat, (L.set c.toNat { bAt L c with c := z }).getD i default = if (i : Int) = c then { bAt L c with c := z } else L.getD i default := fun i => by
    have := bAt_set (b := { bAt L c with c := z }) c0 hc (x := (i : Int)) (by omega)
    simpa [bAt] using this
  have gc := G.at c0 hc
  have gb := G.b c.toNat (by omega)
  refine ⟨by rw [List.length_set]; exact G.l, G.nn, fun i hi => ?_, fun i hi => ?_, fun i hi => ?_⟩ <;> rw [List.length_set] at hi <;> rw [e] <;> split
  · exact ⟨gc.1, gc.2.1⟩
  · exact G.u i hi
  · exact hz
  · exact G.c i hi
  · exact gb
  · exact G.b i hi
theorem FG.off (G : FG f) {c z : Int} (c0 : 0 ≤ c) (hc : c < f.bids.length) (hz : 0 ≤ z ∧ z ≤ 99) : FG (f.off c z) := ⟨G.h, G.pk, G.d, off_bg G.bg c0 hc hz⟩
theorem FsOk.off (H : FsOk f k p b pv bv w) {c z : Int} (c0 : 0 ≤ c) (hc : c < f.bids.length) : ∃ w', FsOk (f.off c z) (hsK f) (hsP f) (hsB f) (slV 1 intL f.pk) (resB (f.off c z).bids) w' := by
  obtain ⟨w', h⟩ := cpF_in (f.off c z)
  have e : ∀ i : Nat, (f.off c z).bids.getD i default = if (i : Int) = c then { bAt f.bids c with c := z } else f.bids.getD i default := fun i => by
    have := bAt_set (L := f.bids) (b := { bAt f.bids c with c := z }) c0 hc (x := (i : Int)) (by omega)
    show (f.bids.set c.toNat { bAt f.bids c with c := z }).getD i default = _
    simpa [bAt] using this
  refine ⟨w', h, ⟨h.h, H.ho.nk, H.ho.np, H.ho.nb⟩, H.np, by show (f.bids.set _ _).length ≤ 41; rw [List.length_set]; exact H.nb, fun i hi => ?_⟩
  have hi' : i < f.bids.length := by have : (f.off c z).bids.length = f.bids.length := List.length_set; omega
  rw [e]
  split
  · exact (bAt_w H c0 hc).2
  · exact H.nw i hi'
theorem off_valid (hv : f.valid = true) {c z : Int} (c0 : 0 ≤ c) (hc : c < f.bids.length) (hz : 0 ≤ z ∧ z ≤ 99) : (f.off c z).valid = true := by
  have hv' := hv
  simp only [Fs.valid, Bool.and_eq_true, decide_eq_true_eq, List.all_eq_true, List.mem_range] at hv ⊢
  obtain ⟨⟨⟨⟨⟨h1, h2⟩, h3⟩, h4⟩, h5⟩, h6⟩ := hv
  have hl : (f.off c z).bids.length = f.bids.length := List.length_set
  refine ⟨⟨⟨⟨⟨h1, h2⟩, h3⟩, h4⟩, by rw [hl]; exact h5⟩, fun i hi => ?_⟩
  rw [hl] at hi
  have e := bAt_set (L := f.bids) (b := { bAt f.bids c with c := z }) c0 hc (x := (i : Int)) (by omega)
  show bidOk f.n f.h.bs.length (bAt (f.bids.set c.toNat { bAt f.bids c with c := z }) i) = true
  rw [e]
  split
  · have := h6 c.toNat (by omega)
    rw [show ((c.toNat : Nat) : Int) = c by omega] at this
    simp only [bidOk, Bool.and_eq_true] at this ⊢
    exact ⟨⟨⟨this.1.1.1, inR_iff.2 hz⟩, this.1.2⟩, this.2⟩
  · exact h6 i hi
/-- what more in a bid comes to -/
theorem off_best (G : FG f) {c z : Int} (c0 : 0 ≤ c) (hc : c < f.bids.length) (hz : 0 ≤ z ∧ z ≤ 99) :
    (wit f.bids f.r c ≥ 0 → wit (f.off c z).bids f.r c = wit f.bids f.r c + (z - (bAt f.bids c).c)) ∧ (wit f.bids f.r c < 0 → wit (f.off c z).bids f.r c = -1) ∧ wot (f.off c z).bids f.r c = wot f.bids f.r c := by
  have G' := (G.off c0 hc hz).bg
  have po : ∀ s, isS f.r f.bids s = true → prc (f.off c z).bids s = prc f.bids s + (if c ∈ s then z - (bAt f.bids c).c else 0) := fun s hs => prc_off c0 hc (fun x hx => (isS_mem hs x hx).1) (asc_of (isS_iff.1 hs).2)
  have io : ∀ s, isS f.r (f.off c z).bids s = isS f.r f.bids s := fun s => isS_off c0 hc
  have A := best_at G.bg (r := f.r) (pm := fun s => decide (c ∈ s))
  have B := best_at G' (r := f.r) (pm := fun s => decide (c ∈ s))
  have C := best_at G.bg (r := f.r) (pm := fun s => !decide (c ∈ s))
  have D := best_at G' (r := f.r) (pm := fun s => !decide (c ∈ s))
  refine ⟨fun h => ?_, fun h => ?_, ?_⟩
  · show (bsT _ _ _).2 = (bsT _ _ _).2 + _
    have h' : (bsT f.bids (fun s => decide (c ∈ s)) (allS f.r f.bids)).2 ≥ 0 := h
    rcases A with ⟨a1, _, _⟩ | ⟨a1, a2, a3, _⟩
    · omega
    · have g1 := best_ge G' (r := f.r) (pm := fun s => decide (c ∈ s)) (by rw [io]; exact a1) a2
      rw [po _ a1, if_pos (by simpa using a2)] at g1
      rcases B with ⟨_, _, b3⟩ | ⟨b1, b2, b3, _⟩
      · have := b3 _ (by rw [io]; exact a1)
        try simp only at a2 this
        rw [a2] at this; cases this
      · rw [io] at b1
        have g2 := best_ge G.bg (r := f.r) (pm := fun s => decide (c ∈ s)) b1 b2
        rw [po _ b1, if_pos (by simpa using b2)] at b3
        omega
  · have h' : (bsT f.bids (fun s => decide (c ∈ s)) (allS f.r f.bids)).2 < 0 := h
    show (bsT _ _ _).2 = -1
    rcases B with ⟨b1, _, _⟩ | ⟨b1, b2, b3, _⟩
    · exact b1
    · rw [io] at b1
      have g2 := best_ge G.bg (r := f.r) (pm := fun s => decide (c ∈ s)) b1 b2
      have := (sale_bd G.bg b1).1
      omega
  · show (bsT _ _ _).2 = (bsT _ _ _).2
    rcases C with ⟨a1, _, a3⟩ | ⟨a1, a2, a3, _⟩
    · rcases D with ⟨b1, _, _⟩ | ⟨b1, b2, _, _⟩
      · omega
      · rw [io] at b1
        have := a3 _ b1
        try simp only at b2 this
        rw [b2] at this; cases this
    · have g1 := best_ge G' (r := f.r) (pm := fun s => !decide (c ∈ s)) (by rw [io]; exact a1) a2
      rw [po _ a1, if_neg (by simpa using a2)] at g1
      rcases D with ⟨_, _, b3⟩ | ⟨b1, b2, b3, _⟩
      · have := b3 _ (by rw [io]; exact a1)
        try simp only at a2 this
        rw [a2] at this; cases this
      · rw [io] at b1
        have g2 := best_ge G.bg (r := f.r) (pm := fun s => !decide (c ∈ s)) b1 b2
        rw [po _ b1, if_neg (by simpa using b2)] at b3
        omega
theorem off_tops (G : FG f) {c z : Int} (c0 : 0 ≤ c) (hc : c < f.bids.length) (hz : 0 ≤ z ∧ z ≤ 99) : tops (f.off c z).bids f.r = mx (wit (f.off c z).bids f.r c) (wot (f.off c z).bids f.r c) ∧ tops f.bids f.r = mx (wit f.bids f.r c) (wot f.bids f.r c) := by
  have a := wit_le G.bg (r := f.r) (c := c)
  have b := wit_le (G.off c0 hc hz).bg (r := f.r) (c := c)
  constructor
  · unfold mx; split <;> omega
  · unfold mx; split <;> omega
end
end Go.Proofs.Ytfagcnokdnanpaa.S

