/-
The mathematics and the functions, one after another (S3).
-/
import Derived.Test.YtekoplcnlhanbaaS2
import Derived.Test.YtekoplcnlhanbaaS1
import Derived.Test.YtekoplcnlhanbaaAmZ
import Derived.Test.YtekoplcnlhanbaaTab
import Derived.Test.YtekoplcnlhanbaaAmY

/-
All orders, handed over to one who changes memory of his own; the hours of all orders; Regret and Calm.
-/
namespace Go.Proofs.Ytekoplcnlhanbaa.S
open Go Go.Am Go.Proofs.Ytekoplcnlhanbaa.T
set_option maxRecDepth 100000
set_option linter.unusedSimpArgs false
set_option linter.unusedVariables false

section
variable {Sf : List AO → Nat → Prop}
/-- what is safe stays as it is, and safe -/
structure Rl (Sf : List AO → Nat → Prop) (h h' : List AO) : Prop where
  l : h.length ≤ h'.length
  k : ∀ j, Sf h j → h'[j]? = h[j]? ∧ Sf h' j
theorem Rl.trans {a b c : List AO} (H : Rl Sf a b) (K : Rl Sf b c) : Rl Sf a c := ⟨Nat.le_trans H.l K.l, fun j hj => by
  have h1 := H.k j hj
  have h2 := K.k j h1.2
  exact ⟨h2.1.trans h1.1, h2.2⟩⟩
def RdQ (Sf : List AO → Nat → Prop) (h : List AO) (v : AV) (l : List Int) : Prop := RdS h v l ∧ ∀ o len, v = .ms 1 o 0 len → Sf h o
theorem RdQ.rl {h h' : List AO} {v : AV} {l : List Int} (H : RdQ Sf h v l) (F : Rl Sf h h') : RdQ Sf h' v l := by
  obtain ⟨h1 | ⟨hne, o, sh, e, hc⟩, h2⟩ := H
  · exact ⟨.inl h1, fun o len e => by rw [h1.2] at e; cases e⟩
  · have k := F.k o (h2 o _ e)
    refine ⟨.inr ⟨hne, o, sh, e, by rw [k.1]; exact hc⟩, fun o' len e' => ?_⟩
    rw [e] at e'; cases e'; exact k.2
theorem RdS.b0 {h : List AO} {v : AV} {l : List Int} (H : RdS h v l) : RdB 0 h v l := by
  rcases H with h1 | ⟨hne, o, sh, e, hc⟩
  · exact .inl h1
  · exact .inr ⟨hne, o, sh, Nat.zero_le _, e, hc⟩
end
section
variable {n : Net} {g p : AV} {l : List Int} {v : AV}
end
end Go.Proofs.Ytekoplcnlhanbaa.S

/-
Rule, Over and More by the program; More by the specification.
-/
namespace Go.Proofs.Ytekoplcnlhanbaa.S
open Go Go.Am Go.Proofs.Ytekoplcnlhanbaa.T
set_option maxRecDepth 100000
set_option linter.unusedSimpArgs false
set_option linter.unusedVariables false

section
variable {n : Net} {g p : AV}
/-! one mender more -/
def Net.more (n : Net) : Net := ⟨n.m + 1, n.hs, n.ps⟩
end
end Go.Proofs.Ytekoplcnlhanbaa.S

/-
One pair less (mathematics of Rope).
-/
namespace Go.Proofs.Ytekoplcnlhanbaa.S
open Go Go.Am Go.Proofs.Ytekoplcnlhanbaa.T
set_option maxRecDepth 100000
set_option linter.unusedSimpArgs false
set_option linter.unusedVariables false

section
variable {n : Net} {g p : AV} {l : List Int}
def Net.loo (n : Net) (i : Nat) : Net := ⟨n.m, n.hs, n.ps.eraseIdx i⟩
theorem loo_mem {i : Nat} : ∀ q ∈ (n.loo i).ps, q ∈ n.ps := fun q hq => (List.eraseIdx_sublist n.ps i).subset hq
theorem isO_sub {n n' : Net} (hh : n'.hs = n.hs) (hp : ∀ q ∈ n'.ps, q ∈ n.ps) (O : isO n l) : isO n' l := by
  refine ⟨by rw [hh]; exact O.1, ?_⟩
  rw [hh]
  refine okE_mono (fun F i h => ?_) O.2
  simp only [may, Bool.and_eq_true, List.all_eq_true] at h ⊢
  exact ⟨h.1, fun q hq => h.2 q (hp q hq)⟩
theorem loo_O {i : Nat} (O : isO n l) : isO (n.loo i) l := isO_sub (n := n) (n' := n.loo i) rfl loo_mem O
theorem loo_valid (hv : n.valid = true) {i : Nat} : (n.loo i).valid = true := by
  obtain ⟨_, _, _, l, O⟩ := valid_ok hv
  simp only [Net.valid, Bool.and_eq_true, decide_eq_true_eq, List.all_eq_true] at hv ⊢
  obtain ⟨⟨⟨⟨⟨h1, h2⟩, h3⟩, h4⟩, h5⟩, h6⟩ := hv
  refine ⟨⟨⟨⟨⟨h1, h2⟩, Nat.le_trans (List.eraseIdx_sublist n.ps i).length_le h3⟩, h4⟩, fun q hq => h5 q (loo_mem q hq)⟩, ?_⟩
  exact fun e => ords_ne (loo_O (i := i) O) (List.eq_nil_of_length_eq_zero e)
theorem loo_le (G : NetG n) (O : isO n l) {i : Nat} : lea (n.loo i) ≤ lea n := (less_same (n' := n.loo i) G (Int.le_refl _) rfl loo_mem O).1
/-- the first pair without which the least is lost, and what is lost -/
def ropU (n : Net) : Nat → Nat × Int
  | 0 => (0, lea (n.loo 0))
  | k + 1 => if lea (n.loo k) < (ropU n k).2 then (k, lea (n.loo k)) else ropU n k
abbrev rop (n : Net) : Nat := (ropU n n.ps.length).1
theorem rop_ok : ∀ {k : Nat}, (ropU n k).2 = lea (n.loo (ropU n k).1) ∧ (ropU n k).2 ≤ lea (n.loo 0) ∧ ((ropU n k).2 = lea (n.loo 0) → (ropU n k).1 = 0)
  | 0 => ⟨rfl, Int.le_refl _, fun _ => rfl⟩
  | k + 1 => by
    obtain ⟨h1, h2, h3⟩ := rop_ok (k := k)
    rw [ropU]
    by_cases c : lea (n.loo k) < (ropU n k).2
    · rw [if_pos c]; exact ⟨rfl, by show lea (n.loo k) ≤ _; omega, fun e => by have e' : lea (n.loo k) = lea (n.loo 0) := e; omega⟩
    · rw [if_neg c]; exact ⟨h1, h2, h3⟩
theorem rop_lt : ∀ {k : Nat}, 0 < n.ps.length → k ≤ n.ps.length → (ropU n k).1 < n.ps.length
  | 0, h, _ => h
  | k + 1, h, hk => by
    have := rop_lt (k := k) h (by omega)
    rw [ropU]
    split
    · show k < _; omega
    · exact this
theorem ropU_one : ropU n 1 = (0, lea (n.loo 0)) := by rw [ropU, ropU, if_neg (Int.lt_irrefl _)]
def ropR (n : Net) : AV := if n.valid then (if n.ps.length = 0 then .tup [I 0, I 3] else .tup [I (rop n), I 0]) else .tup [I 0, I 40]
/-- one pair more -/
def Net.adp (n : Net) (x : Pr) : Net := ⟨n.m, n.hs, n.ps ++ [x]⟩
theorem adp_mem {x : Pr} : ∀ q ∈ n.ps, q ∈ (n.adp x).ps := fun q hq => by show q ∈ n.ps ++ [x]; simp [hq]
theorem adp_O {x : Pr} (O : isO (n.adp x) l) : isO n l := isO_sub (n := n.adp x) (n' := n) rfl adp_mem O
theorem adp_le {x : Pr} (G : NetG (n.adp x)) (O : isO (n.adp x) l) : lea n ≤ lea (n.adp x) ∧ don n ≤ don (n.adp x) := less_same (n' := n) G (Int.le_refl _) rfl adp_mem O
end
end Go.Proofs.Ytekoplcnlhanbaa.S

/-
slices.Delete of pairs; a plan without a pair; Rope of both sides.
-/
namespace Go.Proofs.Ytekoplcnlhanbaa.S
open Go Go.Am Go.Proofs.Ytekoplcnlhanbaa.T
set_option maxRecDepth 100000
set_option linter.unusedSimpArgs false
set_option linter.unusedVariables false

theorem pex_sliceR {ρ : Opd → AV} {e : Nat} {x : Opd} {lo hi mx : Option Opd} : pex ρ (.sliceR e x lo hi mx) = sliceRV e (ρ x) (lo.map ρ) (hi.map ρ) (mx.map ρ) := id rfl
theorem pr_shift' (l : List Pr) (n : Nat) : (l.flatMap Pr.e).map (AV.shift n) = l.flatMap Pr.e := by
  induction l with
  | nil => rfl
  | cons a l ih => rw [List.flatMap_cons, List.map_append, ih]; rfl
theorem prl (l : List Pr) : (l.flatMap Pr.e).length = l.length * 2 := flat_len Pr.el l
theorem sR_all {o N i : Nat} (hi : i < N) : sliceRV 2 (.ms 2 o 0 N) (some (I (i : Int))) (some (I ((i : Int) + 1))) (some (I N)) = some (.mr 2 o (i * 2) 1 (N - i)) := by
  have h1 : (0 : Int) ≤ N ∧ (N : Int) ≤ N := by omega
  have h2 : (0 : Int) ≤ (i : Int) + 1 ∧ (i : Int) + 1 ≤ N := by omega
  have h3 : ((i : Int) + 1).toNat = i + 1 := by omega
  have h4 : (0 : Int) ≤ i ∧ (i : Int) ≤ ((i + 1 : Nat) : Int) := by omega
  have h5 : i + 1 ≤ N := hi
  have h6 : i + 1 - i = 1 := by omega
  simp only [sliceRV, AV.toR, sliceB, if_true, h1, and_self, Int.toNat_natCast, h2, h3, h4, h5, h6, Option.isSome_some, imp_self, and_true, true_and, hi, true_or, Nat.zero_add]
theorem sR_to {o N i : Nat} (hi : i ≤ N) : sliceRV 2 (.ms 2 o 0 N) none (some (I (i : Int))) none = some (.mr 2 o 0 i N) := by
  have h2 : (0 : Int) ≤ (i : Int) ∧ (i : Int) ≤ N := by omega
  simp [sliceRV, AV.toR, sliceB, h2, hi]
theorem sR_from {o N i : Nat} (hi : i < N) : sliceRV 2 (.ms 2 o 0 N) (some (I ((i : Int) + 1))) none none = some (if i + 1 < N then .mr 2 o ((i + 1) * 2) (N - (i + 1)) (N - (i + 1)) else .cs 2 0 []) := by
  have h2 : (0 : Int) ≤ (i : Int) + 1 ∧ (i : Int) + 1 ≤ N := by omega
  have h3 : ((i : Int) + 1).toNat = i + 1 := by omega
  by_cases c : i + 1 < N
  · simp [sliceRV, AV.toR, sliceB, h2, h3, c]
  · simp [sliceRV, AV.toR, sliceB, h2, h3, c]
theorem sR_end {o N : Nat} (hN : 0 < N) : sliceRV 2 (.mr 2 o 0 (N - 1) N) (some (I ((N - 1 : Nat) : Int))) (some (I N)) none = some (.mr 2 o ((N - 1) * 2) 1 1) := by
  have h2 : (0 : Int) ≤ N ∧ (N : Int) ≤ N := by omega
  have h4 : (0 : Int) ≤ ((N - 1 : Nat) : Int) ∧ ((N - 1 : Nat) : Int) ≤ N := by omega
  have h5 : N - 1 < N := by omega
  have h6 : N - (N - 1) = 1 := by omega
  simp only [sliceRV, AV.toR, sliceB, if_true, h2, and_self, Int.toNat_natCast, h4, h5, h6, Nat.le_refl, true_and, true_or, Option.isSome_none, Bool.false_eq_true, false_implies, Nat.zero_add]
theorem pr_sc (l : List Pr) : (l.flatMap Pr.e).all AV.scalar = true := scal_sl Pr.sc l
theorem del_app {a b : List Pr} {q : Pr} {o lim : Nat} {h : List AO} (hc : h[o]? = some (.cells ((a ++ q :: b).flatMap Pr.e) false)) (hl : lim ≤ o) :
    ∃ Z, Z.length = 2 ∧ (∃ h1, wApp lim h 2 (.mr 2 o 0 a.length (a.length + 1 + b.length)) (if a.length + 1 < a.length + 1 + b.length then .mr 2 o ((a.length + 1) * 2) (a.length + 1 + b.length - (a.length + 1)) (a.length + 1 + b.length - (a.length + 1)) else .cs 2 0 []) = some (.mr 2 o 0 (a.length + b.length) (a.length + 1 + b.length), h1) ∧
      h1[o]? = some (.cells ((a ++ b).flatMap Pr.e ++ Z) false) ∧ ∀ x, h1.set o x = h.set o x) := by
  have ol := (List.getElem?_eq_some_iff.1 hc).1
  have la := prl a
  have lb := prl b
  have eC : (a ++ q :: b).flatMap Pr.e = a.flatMap Pr.e ++ (q.e ++ b.flatMap Pr.e) := by rw [List.flatMap_append, List.flatMap_cons]
  have lq : q.e.length = 2 := Pr.el q
  by_cases hb : b.length = 0
  · have hb' : b = [] := List.eq_nil_of_length_eq_zero hb
    subst hb'
    refine ⟨q.e, lq, h, ?_, ?_, fun _ => rfl⟩
    · rw [if_neg (by simp)]
      simp only [wApp, List.length_nil, Nat.add_zero]
      have e1 : lenOf (.cs 2 0 []) = some 0 := rfl
      have e2 : Am.rowOf h (.cs 2 0 []) = some [] := rfl
      simp only [e1, e2, List.length_nil, Nat.zero_mul, Nat.add_zero, true_and, if_true]
      rw [if_pos (by omega)]
    · rw [hc, eC]; simp
  · rw [if_pos (by omega), show a.length + 1 + b.length - (a.length + 1) = b.length by omega]
    have ro : Am.rowOf h (.mr 2 o ((a.length + 1) * 2) b.length b.length) = some (b.flatMap Pr.e) := by
      rw [rowOf_mr]
      simp only [Am.rowAt, hc, Option.bind_some, AO.row?]
      have d : ((a ++ q :: b).flatMap Pr.e).drop ((a.length + 1) * 2) = b.flatMap Pr.e := by
        rw [eC, show (a.length + 1) * 2 = (a.flatMap Pr.e).length + 2 by rw [la]; omega, List.drop_length_add_append]
        rw [show (2 : Nat) = q.e.length from rfl, List.drop_left]
      rw [d, List.take_of_length_le (by rw [lb]; exact Nat.le_refl _)]
      rw [if_pos lb]
    have le : lenOf (.mr 2 o ((a.length + 1) * 2) b.length b.length) = some b.length := rfl
    have lC : ((a ++ q :: b).flatMap Pr.e).length = a.length * 2 + (2 + b.length * 2) := by rw [eC, List.length_append, List.length_append, la, lb, lq]
    obtain ⟨Z, hZ⟩ : ∃ Z, Z = ((a ++ q :: b).flatMap Pr.e).drop (a.length * 2 + b.length * 2) := ⟨_, rfl⟩
    have lZ : Z.length = 2 := by rw [hZ, List.length_drop, lC]; omega
    have sp : splice ((a ++ q :: b).flatMap Pr.e) (a.length * 2) (b.flatMap Pr.e) = (a ++ b).flatMap Pr.e ++ Z := by
      simp only [splice]
      rw [lb, ← hZ, eC, List.flatMap_append]
      congr 1
      rw [show a.length * 2 = (a.flatMap Pr.e).length by rw [la], List.take_left]
    refine ⟨Z, lZ, h.set o (.cells ((a ++ b).flatMap Pr.e ++ Z) false), ?_, by rw [List.getElem?_set_self ol], fun x => by rw [List.set_set]⟩
    have := wApp_ok (lim := lim) (e := 2) (o := o) (len := a.length) (room := a.length + 1 + b.length) hb le ro lb (by omega) hc (by rw [lb, lC]; omega) hl (pr_sc b)
    rw [sp] at this
    exact this
theorem del_clr {C Z : List AV} {o lim k : Nat} {h : List AO} (hc : h[o]? = some (.cells (C ++ Z) false)) (hC : C.length = k * 2) (hZ : Z.length = 2) (hl : lim ≤ o) : wClr lim h 2 [I 0, I 0] (.mr 2 o (k * 2) 1 1) = some (.undef, h.set o (.cells (C ++ [I 0, I 0]) false)) := by
  have z : zeros 1 [I 0, I 0] = [I 0, I 0] := rfl
  simp only [wClr]
  have e1 : lenOf (.mr 2 o (k * 2) 1 1) = some 1 := rfl
  have e2 : destOf (.mr 2 o (k * 2) 1 1) = some (2, o, k * 2, 1) := rfl
  simp only [e1, e2, Nat.one_ne_zero, if_false, if_true]
  rw [z, putR_ok hc (by simp [hC, hZ]) hl rfl]
  have sp : splice (C ++ Z) (k * 2) [I 0, I 0] = C ++ [I 0, I 0] := by
    simp only [splice]
    rw [← hC, List.take_left, List.length_cons, List.length_cons, List.length_nil, List.drop_of_length_le (by simp [hZ])]
    simp
  rw [sp]; rfl
set_option maxHeartbeats 1000000 in
theorem r102 {a b : List Pr} {q : Pr} {o lim : Nat} {h : List AO} (hc : h[o]? = some (.cells ((a ++ q :: b).flatMap Pr.e) false)) (hl : lim ≤ o) (hN : a.length + b.length ≤ 100) :
    R E (.fn 102) [.ms 2 o 0 (a.length + 1 + b.length), I a.length, I ((a.length : Int) + 1)] h lim = some (.mr 2 o 0 (a.length + b.length) (a.length + 1 + b.length), h.set o (.cells ((a ++ b).flatMap Pr.e ++ [I 0, I 0]) false)) := by
  obtain ⟨N, hN'⟩ : ∃ N, N = a.length + 1 + b.length := ⟨_, rfl⟩
  obtain ⟨Z, lZ, h1, W1, c1, s1⟩ := del_app (lim := lim) hc hl
  have S1 := sR_all (o := o) (N := N) (i := a.length) (by omega)
  have S2 := sR_to (o := o) (N := N) (i := a.length) (by omega)
  have S3 := sR_from (o := o) (N := N) (i := a.length) (by omega)
  have S4 := sR_end (o := o) (N := N) (by omega)
  have W2 := del_clr (lim := lim) (k := N - 1) c1 (by rw [prl, List.length_append]; omega) lZ hl
  rw [s1] at W2
  have eN : N - 1 = a.length + b.length := by omega
  rw [← hN'] at W1 ⊢
  rw [← eN] at W1 ⊢
  obtain ⟨X, hX⟩ : ∃ X : AV, X = if a.length + 1 < N then AV.mr 2 o ((a.length + 1) * 2) (N - (a.length + 1)) (N - (a.length + 1)) else .cs 2 0 [] := ⟨_, rfl⟩
  rw [← hX] at W1 S3
  obtain ⟨h2, hh2⟩ : ∃ h2, h2 = h.set o (.cells ((a ++ b).flatMap Pr.e ++ [I 0, I 0]) false) := ⟨_, rfl⟩
  rw [← hh2] at W2 ⊢
  have nl : ¬ (a.length : Int) = a.length + 1 := by omega
  refine (fun x => ?_ : (∃ r h', R E (.fn 102) [.ms 2 o 0 N, I a.length, I ((a.length : Int) + 1)] h lim = some (r, h') ∧ (r = .mr 2 o 0 (N - 1) N ∧ h' = h2)) → _) (R_of _ (es _ _ _ _) e102 ?_)
  · obtain ⟨r, h', hr, rfl, rfl⟩ := x; exact hr
  simp only [f102]
  simp (disch := first | assumption | omega | (simp only [az]; done)) only [ru, eq_self, if_true, if_false, BEq.rfl, binI, AO.row?, splice, fillL, mmAll, loadV, storeV, zeros, Am.rowAt, Am.part, addOff, Nat.reduceAdd, Nat.reduceMul, Nat.reduceLeDiff, Nat.reduceSub, Nat.reduceLT, Int.reduceEq, Int.reduceLT, Int.reduceLE, Int.reduceGT, Int.reduceGE, Int.reduceAdd, Int.reduceSub, Int.reduceMul, Int.reduceNeg, Int.reduceToNat, reduceCtorEq, reduceIte, rmr, pex_sliceR, S1, S2, S3, S4, W1, W2, nl, decide_false]
  done
end Go.Proofs.Ytekoplcnlhanbaa.S

/-
A plan without a pair, a net without a pair; Rope of both sides.
-/
namespace Go.Proofs.Ytekoplcnlhanbaa.S
open Go Go.Am Go.Proofs.Ytekoplcnlhanbaa.T
set_option maxRecDepth 100000
set_option linter.unusedSimpArgs false
set_option linter.unusedVariables false

section
variable {n : Net} {g p : AV}
theorem cut_ps {ps : List Pr} {i : Nat} (hi : i < ps.length) : ∃ a q b, ps = a ++ q :: b ∧ a.length = i ∧ ps.eraseIdx i = a ++ b ∧ ps.length = i + 1 + b.length := by
  refine ⟨ps.take i, ps[i], ps.drop (i + 1), ?_, ?_, ?_, ?_⟩
  · rw [← List.drop_eq_getElem_cons hi, List.take_append_drop]
  · rw [List.length_take]; omega
  · rw [List.eraseIdx_eq_take_drop_succ]
  · rw [List.length_drop]; omega
theorem c103 {ps : List Pr} (V : IsSl 2 Pr.e ps p) (hne : ps ≠ []) (hl : ps.length ≤ 41) (Hh : List AO) : ∃ o H', C2 E 103 [p] Hh = some (.ms 2 o 0 ps.length, H') ∧ Fr Hh H' ∧ Hh.length ≤ o ∧ H'[o]? = some (.cells (ps.flatMap Pr.e) false) := by
  rcases V with rfl | ⟨rfl, e⟩
  · obtain ⟨o, h', A, fr, ho, hc⟩ := cpyO (eb := 16) (lim := 0) (h := ([] : List AO)) (slV_is (esz := 2) (enc := Pr.e) (l := ps)) Pr.el Pr.sc (by omega) (by omega) (Nat.zero_le _)
    simp only [slV, apN, len0, List.nil_append, List.length_nil] at A
    have hr : ∃ r h1, R E (.fn 103) [.cs 2 ps.length (ps.flatMap Pr.e)] [] 0 = some (r, h1) ∧ (r = .ms 2 o 0 ps.length ∧ h1 = h') := by
      refine R_of (fun r h1 => r = .ms 2 o 0 ps.length ∧ h1 = h') (es _ _ _ _) e103 ?_
      simp only [f103]
      simp (disch := first | assumption | omega | (simp only [az]; done)) only [ru, eq_self, if_true, if_false, BEq.rfl, binI, AO.row?, splice, fillL, mmAll, loadV, storeV, zeros, Am.rowAt, Am.part, addOff, Nat.reduceAdd, Nat.reduceMul, Nat.reduceLeDiff, Nat.reduceSub, Nat.reduceLT, Int.reduceEq, Int.reduceLT, Int.reduceLE, Int.reduceGT, Int.reduceGE, Int.reduceAdd, Int.reduceSub, Int.reduceMul, Int.reduceNeg, Int.reduceToNat, reduceCtorEq, reduceIte, pex_isNil, A]
    obtain ⟨_, _, hr, rfl, rfl⟩ := hr
    refine ⟨o + Hh.length, _, C2_of (by rfl) hr, Fr.app _ _, by omega, ?_⟩
    rw [List.getElem?_append_right (by omega), Nat.add_sub_cancel, List.getElem?_map, hc]
    simp only [Option.map_some, AO.shift, pr_shift']
  · exact absurd e hne
set_option maxHeartbeats 2000000 in
theorem s83 (H : NetOk n g p) {i : Nat} (hi : i < n.ps.length) : Iso E 83 [netV n g p, I i] false = some (.agg [I n.m, g, slV 2 Pr.e (n.ps.eraseIdx i)]) := by
  have sp := H.sp
  obtain ⟨a, q, b, e1, e2, e3, e4⟩ := cut_ps hi
  obtain ⟨o, H', hC, fr, ho, hc⟩ := c103 H.p (by intro e; rw [e] at hi; simp at hi) H.sp [.cells [I n.m, g, p] false, .cells [I 0, .nils, .nils] false]
  simp only [List.length_cons, List.length_nil, Nat.zero_add, Nat.reduceAdd] at ho
  have i0 : H'[0]? = some (.cells [I n.m, g, p] false) := fr.at rfl
  have i1 : H'[1]? = some (.cells [I 0, .nils, .nils] false) := fr.at rfl
  have ol := (List.getElem?_eq_some_iff.1 hc).1
  rw [e1] at hc
  have R2 := r102 (lim := 0) hc (Nat.zero_le _) (by omega)
  rw [e3]
  obtain ⟨N, hN⟩ : ∃ N, N = n.ps.length := ⟨_, rfl⟩
  rw [← hN] at hC e4
  rw [e2, ← e4] at R2
  obtain ⟨H2, hH2⟩ : ∃ H2, H2 = H'.set o (.cells ((a ++ b).flatMap Pr.e ++ [I 0, I 0]) false) := ⟨_, rfl⟩
  rw [← hH2] at R2
  have j0 : H2[0]? = some (.cells [I n.m, g, p] false) := by rw [hH2, List.getElem?_set_ne (by omega)]; exact i0
  have j1 : H2[1]? = some (.cells [I 0, .nils, .nils] false) := by rw [hH2, List.getElem?_set_ne (by omega)]; exact i1
  have jo : H2[o]? = some (.cells ((a ++ b).flatMap Pr.e ++ [I 0, I 0]) false) := by rw [hH2, List.getElem?_set_self ol]
  obtain ⟨H3, hH3⟩ : ∃ H3, H3 = H2.set 0 (.cells [I n.m, g, .mr 2 o 0 (i + b.length) N] false) := ⟨_, rfl⟩
  have l2 := (List.getElem?_eq_some_iff.1 j0).1
  have k0 : H3[0]? = some (.cells [I n.m, g, .mr 2 o 0 (i + b.length) N] false) := by rw [hH3, List.getElem?_set_self l2]
  have k1 : H3[1]? = some (.cells [I 0, .nils, .nils] false) := by rw [hH3, List.getElem?_set_ne (by omega)]; exact j1
  have ko : H3[o]? = some (.cells ((a ++ b).flatMap Pr.e ++ [I 0, I 0]) false) := by rw [hH3, List.getElem?_set_ne (by omega)]; exact jo
  have l3 := (List.getElem?_eq_some_iff.1 k1).1
  obtain ⟨H4, hH4⟩ : ∃ H4, H4 = H3.set 1 (.cells [I n.m, g, .mr 2 o 0 (i + b.length) N] false) := ⟨_, rfl⟩
  have m1 : H4[1]? = some (.cells [I n.m, g, .mr 2 o 0 (i + b.length) N] false) := by rw [hH4, List.getElem?_set_self l3]
  have mo : H4[o]? = some (.cells ((a ++ b).flatMap Pr.e ++ [I 0, I 0]) false) := by rw [hH4, List.getElem?_set_ne (by omega)]; exact ko
  have vw : Am.view false H4 7 (.mr 2 o 0 (i + b.length) N) = some (slV 2 Pr.e (a ++ b)) := by
    have lab : ((a ++ b).flatMap Pr.e).length = (i + b.length) * 2 := by rw [prl, List.length_append, e2]
    rw [view_mr, rowOf_mr]
    simp only [Am.rowAt, mo, Option.bind_some, AO.row?, List.drop_zero]
    rw [← lab, List.take_left, if_pos rfl]
    simp only [flat_view Pr.iv, Option.map_some, slV, List.length_append, e2]
  refine Iso_of (es _ _ _ _) e83 ?_
  simp only [f83, netV]
  simp (disch := first | assumption | omega | (simp only [az]; done)) only [ru, eq_self, if_true, if_false, BEq.rfl, binI, AO.row?, splice, fillL, mmAll, loadV, storeV, zeros, Am.rowAt, Am.part, addOff, Nat.reduceAdd, Nat.reduceMul, Nat.reduceLeDiff, Nat.reduceSub, Nat.reduceLT, Int.reduceEq, Int.reduceLT, Int.reduceLE, Int.reduceGT, Int.reduceGE, Int.reduceAdd, Int.reduceSub, Int.reduceMul, Int.reduceNeg, Int.reduceToNat, reduceCtorEq, reduceIte, lenV_sl H.g, view_sl H.g, scalar_sl H.g, cells_sl H.g, pure_sl H.g, lenV_sl H.p, view_sl H.p, scalar_sl H.p, cells_sl H.p, pure_sl H.p, rmr, exOp_call2, hC, exOp_call0, R2, j0, k0, k1, m1, ← hH3, ← hH4, vw, finC, getRes, Option.some.injEq, exists_eq_left', view_agg, List.mapM_cons, List.mapM_nil, view_int, Option.map_some]
  done
set_option maxHeartbeats 2000000 in
theorem s56 (H : NetOk n g p) {i : Nat} (hi : i < n.ps.length) : Iso E 56 [netV n g p, I i] false = some (.agg [I n.m, slV 4 Hl.e n.hs, slV 2 Pr.e (n.ps.eraseIdx i)]) := by
  have sp := H.sp
  have c16 := fun st => s16 H st
  simp only [cpN, netV] at c16
  obtain ⟨a, q, b, e1, e2, e3, e4⟩ := cut_ps hi
  have pc : p = .cs 2 n.ps.length (n.ps.flatMap Pr.e) := by
    rcases H.p with h | ⟨_, h⟩
    · exact h
    · rw [h] at hi; simp at hi
  have la := prl a
  have lb := prl b
  have fl : n.ps.flatMap Pr.e = a.flatMap Pr.e ++ (q.e ++ b.flatMap Pr.e) := by rw [e1, List.flatMap_append, List.flatMap_cons]
  have S1 : sliceV 2 p none (some (I i)) = some (slV 2 Pr.e a) := by
    have h1 : (0 : Int) ≤ i ∧ (i : Int) ≤ n.ps.length := by omega
    have tk : (n.ps.flatMap Pr.e).take (i * 2) = a.flatMap Pr.e := by rw [fl, ← e2, ← la, List.take_left]
    rw [pc]
    simp [sliceV, sliceB, h1, slV, e2, tk]
  have S2 : sliceV 2 p (some (I ((i : Int) + 1))) none = some (slV 2 Pr.e b) := by
    have h1 : (0 : Int) ≤ (i : Int) + 1 ∧ (i : Int) + 1 ≤ n.ps.length := by omega
    have h2 : ((i : Int) + 1).toNat = i + 1 := by omega
    have h3 : n.ps.length - (i + 1) = b.length := by omega
    have dp : (n.ps.flatMap Pr.e).drop ((i + 1) * 2) = b.flatMap Pr.e := by
      rw [fl, show (i + 1) * 2 = (a.flatMap Pr.e).length + 2 by rw [la, e2]; omega, List.drop_length_add_append, show (2 : Nat) = q.e.length from rfl, List.drop_left]
    have tk : (b.flatMap Pr.e).take (b.length * 2) = b.flatMap Pr.e := List.take_of_length_le (by rw [lb]; exact Nat.le_refl _)
    rw [pc]
    simp [sliceV, sliceB, h1, h2, h3, slV, dp, tk]
  have AV_ := slV_is (esz := 2) (enc := Pr.e) (l := a)
  have BV_ := slV_is (esz := 2) (enc := Pr.e) (l := b)
  obtain ⟨av, hav⟩ : ∃ v, v = slV 2 Pr.e a := ⟨_, rfl⟩
  obtain ⟨bv, hbv⟩ : ∃ v, v = slV 2 Pr.e b := ⟨_, rfl⟩
  rw [← hav] at S1 AV_
  rw [← hbv] at S2 BV_
  have HG := slV_is (esz := 4) (enc := Hl.e) (l := n.hs)
  have HP := slV_is (esz := 2) (enc := Pr.e) (l := n.ps)
  obtain ⟨gv, hgv⟩ : ∃ v, v = slV 4 Hl.e n.hs := ⟨_, rfl⟩
  obtain ⟨pv, hpv⟩ : ∃ v, v = slV 2 Pr.e n.ps := ⟨_, rfl⟩
  rw [← hgv] at HG ⊢
  rw [← hpv] at HP
  simp only [← hgv, ← hpv] at c16
  obtain ⟨w, x0, x1, A1, RD⟩ := cpyG (eb := 16) (lim := 0) (J := [.tomb]) (h := [.cells [I n.m, g, p] false, .cells [I 0, .nils, .nils] false, .cells [I n.m, gv, pv] false]) AV_ Pr.el Pr.sc (by omega) (by omega) (Nat.zero_le _)
  obtain ⟨o, rfl, hc⟩ := RD [.tomb]
  simp only [apC, apN, lenS, len0, Nat.zero_add, Nat.reduceAdd] at A1 hc
  have ol := (List.getElem?_eq_some_iff.1 hc).1
  obtain ⟨H1, hH1⟩ : ∃ H1, H1 = [AO.cells [I n.m, g, p] false, .cells [I 0, .nils, .nils] false, .cells [I n.m, gv, pv] false, x0, x1, .tomb] := ⟨_, rfl⟩
  rw [← hH1] at hc A1
  have o3 : 3 ≤ o := by
    rcases Nat.lt_or_ge o 3 with h | h
    · exfalso
      rw [hH1] at hc
      match o, h with
      | 0, _ =>
        simp only [List.getElem?_cons_zero, Option.some.injEq, AO.cells.injEq, and_true] at hc
        have := congrArg List.length hc
        rw [la] at this; simp at this; omega
      | 1, _ =>
        simp only [List.getElem?_cons_succ, List.getElem?_cons_zero, Option.some.injEq, AO.cells.injEq, and_true] at hc
        have := congrArg List.length hc
        rw [la] at this; simp at this; omega
      | 2, _ =>
        simp only [List.getElem?_cons_succ, List.getElem?_cons_zero, Option.some.injEq, AO.cells.injEq, and_true] at hc
        have := congrArg List.length hc
        rw [la] at this; simp at this; omega
    · exact h
  have g0 : H1[0]? = some (.cells [I n.m, g, p] false) := by rw [hH1]; rfl
  have g1 : H1[1]? = some (.cells [I 0, .nils, .nils] false) := by rw [hH1]; rfl
  have g2 : H1[2]? = some (.cells [I n.m, gv, pv] false) := by rw [hH1]; rfl
  have l1 : H1.length = 6 := by rw [hH1]; rfl
  -- the second append
  obtain ⟨w2, H2, A2, G0, G1, G2, V2⟩ : ∃ w2 H2, appG false 0 5 2 16 H1 (.ms 2 o 0 a.length) bv = some (w2, H2) ∧ H2[0]? = some (.cells [I n.m, g, p] false) ∧ H2[1]? = some (.cells [I 0, .nils, .nils] false) ∧ H2[2]? = some (.cells [I n.m, gv, pv] false) ∧
      (w2.cells = [w2] ∧ w2.scalar = true) ∧ ∃ o2, 3 ≤ o2 ∧ w2 = .ms 2 o2 0 (a ++ b).length ∧ H2[o2]? = some (.cells ((a ++ b).flatMap Pr.e) false) := by
    by_cases hb : b.length = 0
    · have hb' : b = [] := List.eq_nil_of_length_eq_zero hb
      have bv0 : bv = .cs 2 0 [] := by rw [hbv, hb']; rfl
      refine ⟨.ms 2 o 0 a.length, H1, by rw [bv0]; exact appG_zero (sl := a.length) rfl rfl rfl, g0, g1, g2, ⟨rfl, rfl⟩, o, o3, by rw [hb', List.append_nil], by rw [hb', List.append_nil]; exact hc⟩
    · refine ⟨_, _, appG_ms (keep := false) (lim := 0) (p := 5) (n := b.length) hb hc (by rw [la]) (lenOf_sl BV_) (rowOf_sl BV_ _) (by rw [lb]) (pr_sc b) (by omega) (by omega) (Nat.zero_le _), ?_, ?_, ?_, ⟨rfl, rfl⟩, 5, by omega, by rw [List.length_append], ?_⟩
      · rw [List.getElem?_set_ne (by omega), List.getElem?_set_ne (by omega)]; exact g0
      · rw [List.getElem?_set_ne (by omega), List.getElem?_set_ne (by omega)]; exact g1
      · rw [List.getElem?_set_ne (by omega), List.getElem?_set_ne (by omega)]; exact g2
      · rw [List.getElem?_set_self (by simp; omega), List.flatMap_append]; rfl
  obtain ⟨V2, o2, o23, hw2, hc2⟩ := V2
  have lH2 := (List.getElem?_eq_some_iff.1 G2).1
  obtain ⟨H3, hH3⟩ : ∃ H3, H3 = H2.set 2 (.cells [I n.m, gv, w2] false) := ⟨_, rfl⟩
  have k2 : H3[2]? = some (.cells [I n.m, gv, w2] false) := by rw [hH3, List.getElem?_set_self lH2]
  have k1 : H3[1]? = some (.cells [I 0, .nils, .nils] false) := by rw [hH3, List.getElem?_set_ne (by omega)]; exact G1
  have k3 : H3[o2]? = some (.cells ((a ++ b).flatMap Pr.e) false) := by rw [hH3, List.getElem?_set_ne (by omega)]; exact hc2
  have l3 := (List.getElem?_eq_some_iff.1 k1).1
  obtain ⟨H4, hH4⟩ : ∃ H4, H4 = H3.set 1 (.cells [I n.m, gv, w2] false) := ⟨_, rfl⟩
  have m1 : H4[1]? = some (.cells [I n.m, gv, w2] false) := by rw [hH4, List.getElem?_set_self l3]
  have m3 : H4[o2]? = some (.cells ((a ++ b).flatMap Pr.e) false) := by rw [hH4, List.getElem?_set_ne (by omega)]; exact k3
  have vw := RdC.view (enc := Pr.e) (esz := 2) (l := a ++ b) (h := H4) (w := w2) ⟨o2, hw2, m3⟩ Pr.el Pr.iv (st := false) (k := 6)
  rw [← e3] at vw
  have s0 : (H1.set 5 .tomb) = H1 := by rw [hH1]; rfl
  have s1 : H1[5]? = some .tomb := by rw [hH1]; rfl
  have s2 : ((((H1.set 5 .tomb).set 5 .tomb).set 4 .tomb).set 3 .tomb)[0]? = some (.cells [I n.m, g, p] false) := by rw [hH1]; rfl
  clear hw2 hc2 k3 m3
  refine Iso_of (es _ _ _ _) e56 ?_
  simp only [f56, netV]
  simp (disch := first | assumption | omega | (simp only [az]; done)) only [ru, eq_self, if_true, if_false, BEq.rfl, binI, AO.row?, splice, fillL, mmAll, loadV, storeV, zeros, Am.rowAt, Am.part, addOff, Nat.reduceAdd, Nat.reduceMul, Nat.reduceLeDiff, Nat.reduceSub, Nat.reduceLT, Int.reduceEq, Int.reduceLT, Int.reduceLE, Int.reduceGT, Int.reduceGE, Int.reduceAdd, Int.reduceSub, Int.reduceMul, Int.reduceNeg, Int.reduceToNat, reduceCtorEq, reduceIte, lenV_sl H.g, view_sl H.g, scalar_sl H.g, cells_sl H.g, pure_sl H.g, lenV_sl H.p, view_sl H.p, scalar_sl H.p, cells_sl H.p, pure_sl H.p, lenV_sl HG, view_sl HG, scalar_sl HG, cells_sl HG, pure_sl HG, lenV_sl HP, view_sl HP, scalar_sl HP, cells_sl HP, pure_sl HP, lenV_sl AV_, view_sl AV_, scalar_sl AV_, cells_sl AV_, pure_sl AV_, lenV_sl BV_, view_sl BV_, scalar_sl BV_, cells_sl BV_, pure_sl BV_, c16, atE, setE, lenE, S1, S2, GO_mapp, unhN, unhC, hide, List.foldl_cons, List.foldl_nil, A1, g0, g1, g2, List.getElem?_set_ne, ne_eq, not_false_eq_true, s0, s1, A2, G0, G1, G2, V2.1, V2.2, ← hH3, ← hH4, k1, k2, m1, vw, finC, getRes, Option.some.injEq, exists_eq_left', view_agg, List.mapM_cons, List.mapM_nil, view_int, Option.map_some]
  done
end
end Go.Proofs.Ytekoplcnlhanbaa.S

/-
Rope of both sides.
-/
namespace Go.Proofs.Ytekoplcnlhanbaa.S
open Go Go.Am Go.Proofs.Ytekoplcnlhanbaa.T
set_option maxRecDepth 100000
set_option linter.unusedSimpArgs false
set_option linter.unusedVariables false

section
variable {n : Net} {g p : AV}
def ropS (n : Net) : Nat → Option (Int × AV)
  | 0 => none
  | k + 1 => some ((ropU n (k + 1)).2, I (ropU n (k + 1)).1)
theorem ropS_step {k : Nat} : sel2 (ropS n k) (lea (n.loo k), I (k : Int)) = ropS n (k + 1) := by
  cases k with
  | zero =>
    have e : ropU n (0 + 1) = (0, lea (n.loo 0)) := ropU_one
    simp only [ropS, e, sel2]
  | succ k =>
    have e : ropU n (k + 1 + 1) = if lea (n.loo (k + 1)) < (ropU n (k + 1)).2 then (k + 1, lea (n.loo (k + 1))) else ropU n (k + 1) := rfl
    simp only [ropS, e, sel2]
    split <;> rfl
theorem loo_ok (H : NetOk n g p) (k : Nat) : NetOk (n.loo k) g (slV 2 Pr.e (n.ps.eraseIdx k)) := ⟨⟨H.g, slV_is⟩, H.sg, Nat.le_trans (List.eraseIdx_sublist n.ps k).length_le H.sp⟩
theorem at_ap' {h J : List AO} {j : Nat} (hj : j < h.length) : (h ++ J)[j]? = h[j]? := List.getElem?_append_left hj
set_option maxHeartbeats 2000000 in
theorem s47 (H : NetOk n g p) (st : Bool) : Iso E 47 [netV n g p] st = some (ropR n) := by
  have c1 := fun st => s18 H st
  simp only [netV, chk] at c1
  have sp := H.sp
  refine Iso_of (es _ _ _ _) e47 ?_
  simp only [f47, netV, ropR]
  cases hv : n.valid
  · simp only [hv, Bool.false_eq_true, if_false] at c1
    simp (disch := first | assumption | omega | (simp only [az]; done)) only [ru, eq_self, if_true, if_false, BEq.rfl, binI, AO.row?, splice, fillL, mmAll, loadV, storeV, zeros, Am.rowAt, Am.part, addOff, Nat.reduceAdd, Nat.reduceMul, Nat.reduceLeDiff, Nat.reduceSub, Nat.reduceLT, Int.reduceEq, Int.reduceLT, Int.reduceLE, Int.reduceGT, Int.reduceGE, Int.reduceAdd, Int.reduceSub, Int.reduceMul, Int.reduceNeg, Int.reduceToNat, reduceCtorEq, reduceIte, lenV_sl H.g, view_sl H.g, scalar_sl H.g, cells_sl H.g, pure_sl H.g, lenV_sl H.p, view_sl H.p, scalar_sl H.p, cells_sl H.p, pure_sl H.p, c1, decide_true, decide_false]
  simp only [hv, if_true] at c1
  by_cases h0 : n.ps.length = 0
  · rw [if_pos h0]
    simp (disch := first | assumption | omega | (simp only [az]; done)) only [ru, eq_self, if_true, if_false, BEq.rfl, binI, AO.row?, splice, fillL, mmAll, loadV, storeV, zeros, Am.rowAt, Am.part, addOff, Nat.reduceAdd, Nat.reduceMul, Nat.reduceLeDiff, Nat.reduceSub, Nat.reduceLT, Int.reduceEq, Int.reduceLT, Int.reduceLE, Int.reduceGT, Int.reduceGE, Int.reduceAdd, Int.reduceSub, Int.reduceMul, Int.reduceNeg, Int.reduceToNat, reduceCtorEq, reduceIte, lenV_sl H.g, view_sl H.g, scalar_sl H.g, cells_sl H.g, pure_sl H.g, lenV_sl H.p, view_sl H.p, scalar_sl H.p, cells_sl H.p, pure_sl H.p, c1, h0, decide_true, decide_false, bne_self_eq_false]
    done
  have h0' : ¬ (n.ps.length : Int) = 0 := by omega
  rw [if_neg h0]
  simp (disch := first | assumption | omega | (simp only [az]; done)) only [ru, eq_self, if_true, if_false, BEq.rfl, binI, AO.row?, splice, fillL, mmAll, loadV, storeV, zeros, Am.rowAt, Am.part, addOff, Nat.reduceAdd, Nat.reduceMul, Nat.reduceLeDiff, Nat.reduceSub, Nat.reduceLT, Int.reduceEq, Int.reduceLT, Int.reduceLE, Int.reduceGT, Int.reduceGE, Int.reduceAdd, Int.reduceSub, Int.reduceMul, Int.reduceNeg, Int.reduceToNat, reduceCtorEq, reduceIte, lenV_sl H.g, view_sl H.g, scalar_sl H.g, cells_sl H.g, pure_sl H.g, lenV_sl H.p, view_sl H.p, scalar_sl H.p, cells_sl H.p, pure_sl H.p, c1, h0', decide_true, decide_false, bne_self_eq_false]
  refine G_loop_ind (fun m ts h mk => ∃ k : Nat, k ≤ n.ps.length ∧ m = n.ps.length - k ∧ ts.length = 37 ∧ ts.getD 1 .undef = .ptr 0 0 ∧ ts.getD 5 .undef = .ptr 1 0 ∧ ts.getD 19 .undef = I n.ps.length ∧ ts.getD 20 .undef = I k ∧ h[0]? = some (.cells [I n.m, g, p] false) ∧ h[1]? = some (.cells (lsC (I 0) (ropS n k)) false) ∧ mk = []) ?_ _ _ _ _
    ⟨0, Nat.zero_le _, rfl, rfl, rfl, rfl, rfl, rfl, rfl, rfl, rfl⟩
  rintro m ts h mk ih ⟨k, hk, rfl, hl', q1, q5, q19, q20, i0, i1, rfl⟩
  rw [lit_all hl']
  simp only [lit0, litS, Nat.reduceAdd, q1, q5, q19, q20]
  simp (disch := first | assumption | omega | (simp only [az]; done)) only [ru, eq_self, if_true, if_false, BEq.rfl, binI, AO.row?, splice, fillL, mmAll, loadV, storeV, zeros, Am.rowAt, Am.part, addOff, Nat.reduceAdd, Nat.reduceMul, Nat.reduceLeDiff, Nat.reduceSub, Nat.reduceLT, Int.reduceEq, Int.reduceLT, Int.reduceLE, Int.reduceGT, Int.reduceGE, Int.reduceAdd, Int.reduceSub, Int.reduceMul, Int.reduceNeg, Int.reduceToNat, reduceCtorEq, reduceIte, i0, i1]
  by_cases hlt : (k : Int) < n.ps.length
  case pos =>
    have hk' : k < n.ps.length := by omega
    have c2 := s83 H hk'
    have Hk := loo_ok H k
    have c3 := c70l Hk (valid_ne (loo_valid hv)).1 (valid_ne (loo_valid hv)).2
    have vc := view_cl Hk 71
    have SL := Hk.p
    obtain ⟨pk, hpk⟩ : ∃ v, v = slV 2 Pr.e (n.ps.eraseIdx k) := ⟨_, rfl⟩
    have ls := ropS_step (n := n) (k := k)
    obtain ⟨Z, hZ⟩ : ∃ q, q = lea (n.loo k) := ⟨_, rfl⟩
    obtain ⟨F, hF⟩ : ∃ q, q = resL (fir (n.loo k)) := ⟨_, rfl⟩
    rw [← hZ] at ls
    have em : (n.loo k).m = n.m := rfl
    have lh := (List.getElem?_eq_some_iff.1 i1).1
    obtain ⟨oN, hoN⟩ : ∃ oN, oN = h.length := ⟨_, rfl⟩
    have atN : ∀ X : AO, (h ++ [X])[oN]? = some X := fun X => by rw [hoN]; exact atE
    have stN : ∀ X Y : AO, (h ++ [X]).set oN Y = h ++ [Y] := fun X Y => by rw [hoN]; exact setE
    obtain ⟨h2, hh2⟩ : ∃ h2, h2 = h ++ [AO.cells [I n.m, g, pk] false] := ⟨_, rfl⟩
    have j0 : h2[0]? = some (.cells [I n.m, g, p] false) := by rw [hh2, at_ap' (by omega)]; exact i0
    have j1 : h2[1]? = some (.cells (lsC (I 0) (ropS n k)) false) := by rw [hh2, at_ap' (by omega)]; exact i1
    have jN : h2[oN]? = some (.cells [I n.m, g, pk] false) := by rw [hh2]; exact atN _
    have l2 := (List.getElem?_eq_some_iff.1 j1).1
    have hr := s84 (lim := 0) j1 (Nat.zero_le _) k Z
    rw [ls] at hr
    simp only [netV, ← hZ, ← hF, em] at c2 c3 vc
    simp only [Net.loo] at SL
    simp only [← hpk] at c2 c3 vc SL
    obtain ⟨h3, hh3⟩ : ∃ h3, h3 = h2.set 1 (.cells (lsC (I 0) (ropS n (k + 1))) false) := ⟨_, rfl⟩
    rw [← hh3] at hr
    have k0 : h3[0]? = some (.cells [I n.m, g, p] false) := by rw [hh3, List.getElem?_set_ne (by omega)]; exact j0
    have k1 : h3[1]? = some (.cells (lsC (I 0) (ropS n (k + 1))) false) := by rw [hh3, List.getElem?_set_self l2]
    simp (disch := first | assumption | omega | (simp only [az]; done)) only [ru, eq_self, if_true, if_false, BEq.rfl, binI, AO.row?, splice, fillL, mmAll, loadV, storeV, zeros, Am.rowAt, Am.part, addOff, Nat.reduceAdd, Nat.reduceMul, Nat.reduceLeDiff, Nat.reduceSub, Nat.reduceLT, Int.reduceEq, Int.reduceLT, Int.reduceLE, Int.reduceGT, Int.reduceGE, Int.reduceAdd, Int.reduceSub, Int.reduceMul, Int.reduceNeg, Int.reduceToNat, reduceCtorEq, reduceIte, lenV_sl H.g, view_sl H.g, scalar_sl H.g, cells_sl H.g, pure_sl H.g, lenV_sl H.p, view_sl H.p, scalar_sl H.p, cells_sl H.p, pure_sl H.p, lenV_sl SL, view_sl SL, scalar_sl SL, cells_sl SL, pure_sl SL, hlt, i0, c2, ← hoN, atN, stN, ← hh2, jN, c3, vc, AV.pureV, AV.pureV.go, exOp_call0, hr]
    exact ih (n.ps.length - (k + 1)) _ _ _ (by omega) ⟨k + 1, by omega, rfl, rfl, rfl, rfl, rfl, rfl, k0, k1, rfl⟩
  have ek : k = n.ps.length := by omega
  have e : ∃ x b, lsC (I 0) (ropS n k) = [x, I (rop n), b] := by
    rw [ek]
    unfold rop
    cases hh : n.ps.length with
    | zero => omega
    | succ j => exact ⟨_, _, rfl⟩
  obtain ⟨x, b, e⟩ := e
  rw [e] at i1
  simp (disch := first | assumption | omega | (simp only [az]; done)) only [ru, eq_self, if_true, if_false, BEq.rfl, binI, AO.row?, splice, fillL, mmAll, loadV, storeV, zeros, Am.rowAt, Am.part, addOff, Nat.reduceAdd, Nat.reduceMul, Nat.reduceLeDiff, Nat.reduceSub, Nat.reduceLT, Int.reduceEq, Int.reduceLT, Int.reduceLE, Int.reduceGT, Int.reduceGE, Int.reduceAdd, Int.reduceSub, Int.reduceMul, Int.reduceNeg, Int.reduceToNat, reduceCtorEq, reduceIte, hlt, i0, i1]
  done
end
end Go.Proofs.Ytekoplcnlhanbaa.S

/-
The inputs of the laws of stage 4, as the abstract machine has them.
-/
namespace Go.Proofs.Ytekoplcnlhanbaa.S
open Go Go.Am Go.Proofs.Ytekoplcnlhanbaa.T
set_option linter.unusedVariables false
set_option maxRecDepth 100000

theorem z3 : Try.prog.cellsOf 3 = 1 := by kernel_rfl
theorem z22 : Try.prog.cellsOf 22 = 1 := by kernel_rfl
theorem z23 : Try.prog.cellsOf 23 = 1 := by kernel_rfl
theorem z25 : Try.prog.cellsOf 25 = 3 := by kernel_rfl
theorem z38 : Try.prog.cellsOf 38 = 2 := by kernel_rfl
theorem z54 : Try.prog.cellsOf 54 = 4 := by kernel_rfl
theorem z57 : Try.prog.cellsOf 57 = 2 := by kernel_rfl
theorem wfIc {d : Nat} {c : List AV} (h : WfC Try.prog (d + 1) 3 c) : ∃ i, c = [I i] ∧ True := by
  obtain ⟨i, e, hw⟩ := wf_int Try.underlying3 h
  exact ⟨i, e, trivial⟩
theorem wfI {d : Nat} {a : AV} (h : WfC Try.prog (d + 1) 3 [a]) : ∃ i, a = I i ∧ True := by
  obtain ⟨i, e, _⟩ := wfIc h
  simp only [List.cons.injEq, and_true] at e
  exact ⟨i, e, trivial⟩
theorem wfSpn {d : Nat} {c : List AV} (h : WfC Try.prog (d + 2) 38 c) : ∃ a b : Int, c = [I a, I b] := by
  obtain ⟨hl, hf⟩ := wf_struct Try.underlying38 h
  rw [z38] at hl
  match c, hl with
  | [x, y], _ =>
    have h0 : WfC Try.prog (d + 1) 3 (([x, y].drop 0).take (Try.prog.cellsOf 3)) := hf 0 _ rfl
    have h1 : WfC Try.prog (d + 1) 3 (([x, y].drop 1).take (Try.prog.cellsOf 3)) := hf 1 _ rfl
    rw [z3] at h0 h1
    obtain ⟨i, rfl, _⟩ := wfI (show WfC Try.prog (d + 1) 3 [x] from h0)
    obtain ⟨j, rfl, _⟩ := wfI (show WfC Try.prog (d + 1) 3 [y] from h1)
    exact ⟨i, j, rfl⟩
theorem wfPr {d : Nat} {c : List AV} (h : WfC Try.prog (d + 2) 57 c) : ∃ s : Pr, c = s.e ∧ True := by
  obtain ⟨hl, hf⟩ := wf_struct Try.underlying57 h
  rw [z57] at hl
  match c, hl with
  | [x, y], _ =>
    have h0 : WfC Try.prog (d + 1) 3 (([x, y].drop 0).take (Try.prog.cellsOf 3)) := hf 0 _ rfl
    have h1 : WfC Try.prog (d + 1) 3 (([x, y].drop 1).take (Try.prog.cellsOf 3)) := hf 1 _ rfl
    rw [z3] at h0 h1
    obtain ⟨i, rfl, _⟩ := wfI (show WfC Try.prog (d + 1) 3 [x] from h0)
    obtain ⟨j, rfl, _⟩ := wfI (show WfC Try.prog (d + 1) 3 [y] from h1)
    exact ⟨⟨i, j⟩, rfl, trivial⟩
theorem wfPair {d : Nat} {c : List AV} (h : WfC Try.prog (d + 2) 57 c) : ∃ a b : Int, c = [I a, I b] := by
  obtain ⟨s, e, _⟩ := wfPr h
  exact ⟨s.a, s.b, e⟩
theorem wfHl {d : Nat} {c : List AV} (h : WfC Try.prog (d + 3) 54 c) : ∃ s : Hl, c = s.e ∧ True := by
  obtain ⟨hl, hf⟩ := wf_struct Try.underlying54 h
  rw [z54] at hl
  match c, hl with
  | [x, y, z, u], _ =>
    have h0 : WfC Try.prog (d + 2) 3 (([x, y, z, u].drop 0).take (Try.prog.cellsOf 3)) := hf 0 _ rfl
    have h1 : WfC Try.prog (d + 2) 38 (([x, y, z, u].drop 1).take (Try.prog.cellsOf 38)) := hf 1 _ rfl
    have h2 : WfC Try.prog (d + 2) 3 (([x, y, z, u].drop 3).take (Try.prog.cellsOf 3)) := hf 2 _ rfl
    rw [z3] at h0 h2
    rw [z38] at h1
    obtain ⟨i, rfl, _⟩ := wfI (show WfC Try.prog (d + 1 + 1) 3 [x] from h0)
    obtain ⟨a, b, e⟩ := wfSpn (show WfC Try.prog (d + 2) 38 [y, z] from h1)
    obtain ⟨j, rfl, _⟩ := wfI (show WfC Try.prog (d + 1 + 1) 3 [u] from h2)
    simp only [List.cons.injEq, and_true] at e
    obtain ⟨rfl, rfl⟩ := e
    exact ⟨⟨i, a, b, j⟩, rfl, trivial⟩
theorem wfNums {d : Nat} {c : List AV} (h : WfC Try.prog (d + 2) 26 c) : ∃ (l : List Int) (v : AV), c = [v] ∧ IsSl 1 intL l v := by
  obtain ⟨l, v, e, iv, _⟩ := wf_sl (d := d + 1) (enc := intL) (p := fun _ => True) Try.underlying26 z3 (fun c hc => wfIc hc) h
  exact ⟨l, v, e, iv⟩
theorem wfNet {d : Nat} {c : List AV} (h : WfC Try.prog (d + 5) 25 c) : ∃ (n : Net) (g p : AV), AV.agg c = netV n g p ∧ NetIn n g p := by
  obtain ⟨hl, hf⟩ := wf_struct Try.underlying25 h
  rw [z25] at hl
  match c, hl with
  | [x, y, z], _ =>
    have h0 : WfC Try.prog (d + 4) 3 (([x, y, z].drop 0).take (Try.prog.cellsOf 3)) := hf 0 _ rfl
    have h1 : WfC Try.prog (d + 4) 22 (([x, y, z].drop 1).take (Try.prog.cellsOf 22)) := hf 1 _ rfl
    have h2 : WfC Try.prog (d + 4) 23 (([x, y, z].drop 2).take (Try.prog.cellsOf 23)) := hf 2 _ rfl
    rw [z3] at h0
    rw [z22] at h1
    rw [z23] at h2
    obtain ⟨m, rfl, _⟩ := wfI (show WfC Try.prog (d + 3 + 1) 3 [x] from h0)
    obtain ⟨lo, o, e2, io, _⟩ := wf_sl (d := d + 3) (enc := Hl.e) (p := fun _ => True) Try.underlying22 z54 (fun c hc => wfHl hc) (show WfC Try.prog (d + 4) 22 [y] from h1)
    obtain ⟨lw, v, e3, iw, _⟩ := wf_sl (d := d + 3) (enc := Pr.e) (p := fun _ => True) Try.underlying23 z57 (fun c hc => wfPr hc) (show WfC Try.prog (d + 4) 23 [z] from h2)
    simp only [List.cons.injEq, and_true] at e2 e3
    subst e2; subst e3
    exact ⟨⟨m, lo, lw⟩, y, z, rfl, ⟨io, iw⟩⟩
theorem own : ownKnob Try.prog.godebug = none := by kernel_rfl
theorem laid : laidOutB Try.prog = true := by kernel_rfl
def netW : Value := .agg #[.int .i64 0, .slice none 0 0, .slice none 0 0]
def twoW : Value := .agg #[.int .i64 0, .int .i64 0]
end Go.Proofs.Ytekoplcnlhanbaa.S

namespace Go.Proofs.Ytekoplcnlhanbaa.S
open Go Go.Am Go.Proofs.Ytekoplcnlhanbaa.T
theorem works_run : (callN E 100 (.fn 15) [] [] 0).map (·.1) = some (.bool true) := by kernel_rfl
end Go.Proofs.Ytekoplcnlhanbaa.S

