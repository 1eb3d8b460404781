/-
The laws on Good, Stories and Least, and on Drunk, Must and Ask.
-/
import Derived.Test.YtfknojncfbahpaaGreatWk
import Derived.Test.YtfknojncfbahpaaGreatS2
namespace Go.Proofs.YtfknojncfbahpaaGreat.S
open Go Go.Am Go.Proofs.YtfknojncfbahpaaGreat.T
set_option maxRecDepth 100000
set_option linter.unusedSimpArgs false
set_option linter.unusedVariables false
section
variable {b : Bk} {o w s : AV}
set_option maxHeartbeats 8000000 in
theorem l11 (H0 : BkIn b o w s) {g : List Int} {gv : AV} (hg : IsSl 1 intL g gv) : Iso E 11 [bkV b o w s, gv] false = some (Bo true) := by
  have c46 := fun st => w46 H0 st
  cases hh : b.huge
  case true =>
    refine Iso_of (es _ _ _ _) e11 ?_
    simp only [f11, bkV, hh] at c46 ⊢
    simp (disch := first | assumption | omega | (simp only [az]; done)) only [ru, eq_self, if_true, AO.row?, loadV, Am.rowAt, Am.part, Nat.reduceAdd, Nat.reduceSub, view_sl H0.t.o, view_sl H0.t.w, view_sl H0.s, pure_sl H0.t.o, pure_sl H0.t.w, pure_sl H0.s, c46, w17]
  by_cases h40 : (g.length : Int) > 40
  · refine Iso_of (es _ _ _ _) e11 ?_
    simp only [f11, bkV, hh] at c46 ⊢
    simp (disch := first | assumption | omega | (simp only [az]; done)) only [ru, eq_self, if_true, if_false, binI, AO.row?, loadV, Am.rowAt, Am.part, Nat.reduceAdd, Nat.reduceSub, view_sl H0.t.o, view_sl H0.t.w, view_sl H0.s, pure_sl H0.t.o, pure_sl H0.t.w, pure_sl H0.s, lenV_sl hg, c46, h40, w17]
  have H := H0.ok hh
  have HC := cpB_ok H
  have c35 := w35 H
  have gi : IsSl 1 intL g (slV 1 intL g) := slV_is
  have c18 := fun st => w18 HC gi (by omega) st
  have c47 := w47 H hg (by omega)
  have c48 := fun st => w48 HC st
  have c49 := fun st => w49 H st
  have c50 := fun st => s69 gi hg (by omega) st
  have c51 := w51 HC
  have c52 := w52 H
  obtain ⟨v1, l1, e1, c28, i1, A1⟩ := w28 HC
  obtain ⟨v2, l2, e2, c53, i2, A2⟩ := w53 H
  have A1 := cpb_AnB A1
  rw [cpb_sts] at A1
  have hle : l1 = l2 ∧ e1 = e2 := by
    have := AnB.uniq (fun _ _ _ x y hx hy => hx.trans hy.symm) A1 A2
    simpa using this
  obtain ⟨rfl, rfl⟩ := hle
  have lz : l1.length ≤ 1000000 := by
    generalize hy : (l1, e1) = y at A1
    cases A1 with
    | bad h => cases hy; simp
    | arg h hf => cases hf
    | none h hf hn => cases hy; simp
    | ok h hf hs hp =>
      rw [hp] at hy; cases hy
      have : b.sts.getD 0 [] ∈ b.sts := getD_memL (List.length_pos_iff.2 hs)
      have := ris_len (sts_ris h _ this)
      omega
  have c50b := fun st => s69 i1 i2 lz st
  have c54 := fun st => w54 HC H st
  rw [cpb_valid, cpb_good, cpb_chk] at c18
  rw [cpb_chk] at c48
  rw [cpb_valid, cpb_sts, cpb_chk] at c51
  obtain ⟨co, hco⟩ : ∃ co, co = cpO b.t.op := ⟨_, rfl⟩
  obtain ⟨cw, hcw⟩ : ∃ cw, cw = slV 4 Wd.e b.t.ws := ⟨_, rfl⟩
  obtain ⟨cs, hcs⟩ : ∃ cs, cs = slV 1 intL b.so := ⟨_, rfl⟩
  obtain ⟨xv, hxv⟩ : ∃ xv, xv = slV 1 intL g := ⟨_, rfl⟩
  unfold cpB at c35
  rw [← hco, ← hcw, ← hcs] at HC c18 c48 c51 c28 c54 c35
  rw [← hxv] at gi c18 c50
  obtain ⟨G, hG⟩ : ∃ G, G = (b.valid && b.good g) := ⟨_, rfl⟩
  obtain ⟨C, hC⟩ : ∃ C, C = chkB b := ⟨_, rfl⟩
  obtain ⟨S, hS⟩ : ∃ S, S = (if b.valid then (b.sts.length : Int) else 0) := ⟨_, rfl⟩
  rw [← hG, ← hC] at c18 c47
  rw [← hC] at c48 c49
  rw [← hS, ← hC] at c51 c52
  obtain ⟨xw, h1, ha, fr, hx⟩ := cpyV (eb := 8) (h := [.cells [I b.t.ch, I b.t.tm, o, w, I b.dr, I b.rn, s] false]) (lim := 0) hg intE intSc (by omega) (by omega) (Nat.zero_le _)
  simp only [List.length_cons, List.length_nil, Nat.zero_add, apC, apN] at ha
  have l4 := fr.l
  simp only [List.length_cons, List.length_nil, Nat.zero_add] at l4
  have a0 : h1[0]? = some (.cells [I b.t.ch, I b.t.tm, o, w, I b.dr, I b.rn, s] false) := fr.at (j := 0) rfl
  have d0 : (h1 ++ [AO.cells [I b.t.ch, I b.t.tm, co, cw, I b.dr, I b.rn, cs] false])[0]? = some (.cells [I b.t.ch, I b.t.tm, o, w, I b.dr, I b.rn, s] false) := by rw [List.getElem?_append_left (by omega)]; exact a0
  have vx := fun st => (hx.fr (Fr.app h1 [AO.cells [I b.t.ch, I b.t.tm, co, cw, I b.dr, I b.rn, cs] false])).view intE intIv (st := st) (k := 7)
  rw [← hxv] at vx
  simp only [bkV, show b.cp.t.ch = b.t.ch from rfl, show b.cp.t.tm = b.t.tm from rfl, show b.cp.dr = b.dr from rfl, show b.cp.rn = b.rn from rfl] at c18 c47 c48 c49 c51 c52 c28 c53 c54 c35 c46
  rw [hh] at c46
  refine Iso_of (es _ _ _ _) e11 ?_
  simp only [f11, bkV]
  simp (disch := first | assumption | omega | (simp only [az]; done)) only [ru, eq_self, if_true, if_false, BEq.rfl, binI, AO.row?, splice, fillL, loadV, storeV, zeros, Am.rowAt, Am.part, Nat.reduceAdd, Nat.reduceLeDiff, Nat.reduceSub, view_sl H.t.o, view_sl H.t.w, view_sl H.s, pure_sl H.t.o, pure_sl H.t.w, pure_sl H.s, view_sl HC.t.o, view_sl HC.t.w, view_sl HC.s, scalar_sl HC.t.o, scalar_sl HC.t.w, scalar_sl HC.s, pure_sl HC.t.o, pure_sl HC.t.w, pure_sl HC.s, lenV_sl hg, view_sl hg, pure_sl hg, c46, h40, c35, ha, d0, vx, c18, c47, c48, c49, c50, bne_self_eq_false, c51, c52, c28, c53, view_sl i1, pure_sl i1, view_sl i2, pure_sl i2, c50b, c54, w17]
theorem cpb_mus : b.cp.mus = b.mus := by unfold Bk.mus; rw [cpb_sts]; rfl
theorem AnB.len {fit : Bool} {P : List Int × Int → Prop} {l : List Int} {e : Int} {k : Nat} (A : AnB b fit (fun e => (([] : List Int), e)) P (l, e)) (h : b.valid = true → b.sts ≠ [] → ∀ r, P r → r.1.length ≤ k) : l.length ≤ k := by
  generalize hy : (l, e) = y at A
  cases A with
  | bad h => cases hy; simp
  | arg h hf => cases hy; simp
  | none h hf hn => cases hy; simp
  | ok hv hf hs hp => have := h hv hs _ hp; rw [← hy] at this; exact this
theorem mus_len (h : b.valid = true) : b.mus.length ≤ 5 := by
  have h1 := List.length_filter_le (fun (t : Nat) => decide (agr (inG ((t : Nat) : Int)) b.sts = 1)) (List.range b.t.T)
  have := (tm5 (bk_t h)).2.2
  unfold Bk.mus
  rw [List.length_map]
  rw [List.length_range] at h1
  omega
set_option maxHeartbeats 8000000 in
theorem l12 (H0 : BkIn b o w s) (t : Int) : Iso E 12 [bkV b o w s, I t] false = some (Bo true) := by
  have c46 := fun st => w46 H0 st
  cases hh : b.huge
  case true =>
    refine Iso_of (es _ _ _ _) e12 ?_
    simp only [f12, bkV, hh] at c46 ⊢
    simp (disch := first | assumption | omega | (simp only [az]; done)) only [ru, eq_self, if_true, AO.row?, loadV, Am.rowAt, Am.part, Nat.reduceAdd, Nat.reduceSub, view_sl H0.t.o, view_sl H0.t.w, view_sl H0.s, pure_sl H0.t.o, pure_sl H0.t.w, pure_sl H0.s, c46, w17]
  have H := H0.ok hh
  have HC := cpB_ok H
  have c35 := w35 H
  have c54 := fun st => w54 HC H st
  obtain ⟨v1, e1, c30, A1⟩ := w30 HC t
  obtain ⟨v2, e2, c55, A2⟩ := w55 H t
  have A1 := cpb_AnB A1
  rw [cpb_sts] at A1
  have hle : v1 = v2 ∧ e1 = e2 := by
    have := AnB.uniq (fun _ _ _ x y hx hy => hx.trans hy.symm) A1 A2
    simpa using this
  obtain ⟨rfl, rfl⟩ := hle
  obtain ⟨v3, l3, e3, c27, i3, A3⟩ := w27 HC
  obtain ⟨v4, l4, e4, c56, i4, A4⟩ := w56 H
  have A3 := cpb_AnB A3
  rw [cpb_mus] at A3
  have hle : l3 = l4 ∧ e3 = e4 := by
    have := AnB.uniq (fun _ _ _ x y hx hy => hx.trans hy.symm) A3 A4
    simpa using this
  obtain ⟨rfl, rfl⟩ := hle
  have lz := A3.len (k := 5) fun hv hs r hr => by rw [hr]; exact mus_len hv
  have c50 := fun st => s69 i3 i4 (by omega) st
  obtain ⟨v5, e5, c40, A5⟩ := w40 HC
  obtain ⟨v6, e6, c57, A6⟩ := w57 H
  have A5 := cpb_AnB A5
  rw [cpb_sts, show b.cp.t.T = b.t.T from rfl] at A5
  have hle : v5 = v6 ∧ e5 = e6 := by
    have := AnB.uniq (fun _ _ _ x y hx hy => hx.trans hy.symm) A5 A6
    simpa using this
  obtain ⟨rfl, rfl⟩ := hle
  obtain ⟨co, hco⟩ : ∃ co, co = cpO b.t.op := ⟨_, rfl⟩
  obtain ⟨cw, hcw⟩ : ∃ cw, cw = slV 4 Wd.e b.t.ws := ⟨_, rfl⟩
  obtain ⟨cs, hcs⟩ : ∃ cs, cs = slV 1 intL b.so := ⟨_, rfl⟩
  unfold cpB at c35
  rw [← hco, ← hcw, ← hcs] at HC c30 c27 c40 c54 c35
  simp only [bkV, show b.cp.t.ch = b.t.ch from rfl, show b.cp.t.tm = b.t.tm from rfl, show b.cp.dr = b.dr from rfl, show b.cp.rn = b.rn from rfl] at c30 c55 c27 c56 c40 c57 c54 c35 c46
  rw [hh] at c46
  refine Iso_of (es _ _ _ _) e12 ?_
  simp only [f12, bkV]
  simp (disch := first | assumption | omega | (simp only [az]; done)) only [ru, eq_self, if_true, BEq.rfl, binI, AO.row?, splice, loadV, storeV, Am.rowAt, Am.part, Nat.reduceAdd, Nat.reduceLeDiff, Nat.reduceSub, view_sl H.t.o, view_sl H.t.w, view_sl H.s, pure_sl H.t.o, pure_sl H.t.w, pure_sl H.s, view_sl HC.t.o, view_sl HC.t.w, view_sl HC.s, scalar_sl HC.t.o, scalar_sl HC.t.w, scalar_sl HC.s, pure_sl HC.t.o, pure_sl HC.t.w, pure_sl HC.s, c46, c35, c30, c55, c27, c56, c40, c57, view_sl i3, pure_sl i3, view_sl i4, pure_sl i4, c50, c54, w17]
end
end Go.Proofs.YtfknojncfbahpaaGreat.S
