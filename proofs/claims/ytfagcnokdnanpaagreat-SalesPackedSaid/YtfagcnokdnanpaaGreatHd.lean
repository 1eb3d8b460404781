/-
The specification's Repack.
-/
import Derived.Test.YtfagcnokdnanpaaGreatHc
namespace Go.Proofs.YtfagcnokdnanpaaGreat.S
open Go Go.Am Go.Proofs.YtfagcnokdnanpaaGreat.T
set_option maxRecDepth 100000
set_option linter.unusedSimpArgs false
set_option linter.unusedVariables false
theorem mem_pkL {ok : List Int → Bool} {n : Nat} : ∀ {d : Nat} {F x : List Int}, x ∈ pkL ok n d F ↔ ok x = true ∧ ∃ y, x = F ++ y ∧ y.length = d ∧ ∀ c ∈ y, 0 ≤ c ∧ c < n
  | 0, F, x => by
    simp only [pkL]
    constructor
    · intro h
      split at h
      · rename_i ho
        rw [List.mem_singleton] at h; subst h
        exact ⟨ho, [], by simp, rfl, by simp⟩
      · cases h
    · rintro ⟨ho, y, rfl, hy, _⟩
      rw [List.eq_nil_of_length_eq_zero hy, List.append_nil] at ho ⊢
      rw [if_pos ho]; simp
  | d + 1, F, x => by
    simp only [pkL, List.mem_flatMap, List.mem_range]
    constructor
    · rintro ⟨b, hb, h⟩
      obtain ⟨ho, y, rfl, hy, hc⟩ := mem_pkL.1 h
      refine ⟨ho, (b : Int) :: y, by simp, by simp [hy], fun c hc' => ?_⟩
      rcases List.mem_cons.1 hc' with rfl | hc'
      · omega
      · exact hc c hc'
    · rintro ⟨ho, y, rfl, hy, hc⟩
      match y, hy with
      | c :: y, hy =>
        have h0 := hc c (by simp)
        refine ⟨c.toNat, by omega, ?_⟩
        rw [show ((c.toNat : Nat) : Int) = c by omega]
        exact mem_pkL.2 ⟨ho, y, by simp, by simpa using hy, fun z hz => hc z (by simp [hz])⟩
section
variable {f : Fs} {k p b pv bv : AV} {w : Nat → AV}
def Fs.pks (f : Fs) : List (List Int) := pkL f.h.isP f.h.bs.length f.h.ps.length []
theorem mem_pks {x : List Int} : x ∈ f.pks ↔ f.h.isP x = true ∧ x.length = f.h.ps.length ∧ ∀ c ∈ x, 0 ≤ c ∧ c < f.h.bs.length := by
  unfold Fs.pks
  rw [mem_pkL]
  constructor
  · rintro ⟨h, y, rfl, h1, h2⟩; exact ⟨h, by simpa using h1, by simpa using h2⟩
  · rintro ⟨h, h1, h2⟩; exact ⟨h, x, by simp, h1, h2⟩
theorem pk_mem (G : FG f) : f.pk ∈ f.pks := by
  have P := isP_len G.pk
  exact mem_pks.2 ⟨G.pk, P.1, P.2⟩
def Fs.with (f : Fs) (x : List Int) : Int := tops f.bids (rdF f.h x f.d)
def Fs.bst (f : Fs) : List Int := f.pks.getD (fsB (fun i => f.with (f.pks.getD i [])) f.pks.length).1.toNat []
set_option maxHeartbeats 1000000 in
theorem t32 (H : FsOk f k p b pv bv w) {x : List Int} {v : AV} (V : IsSl 1 intL x v) (hl : x.length ≤ 1000) : Iso E 32 [frV f k p b pv bv, v] false = some (.agg [hsK f, I f.h.fl, hsP f, hsB f, slV 1 intL x, I f.d, I f.n, resB f.bids]) := by
  have a := t33 H
  obtain ⟨w', cin⟩ := cpF_in f
  simp only [cpF, frV] at a
  obtain ⟨B, hB⟩ : ∃ B, B = resB f.bids := ⟨_, rfl⟩
  have B1 : B.scalar = true := by rw [hB]; exact cin.bi.sc
  have B2 : B.cells = [B] := by rw [hB]; exact cin.bi.ce
  have B3 : ∀ (g : List AO) (n : Nat), view false g n B = some B := fun g n => by rw [hB]; exact cin.bi.vw g _
  have B4 : B.pureV = true := by rw [hB]; exact cin.bi.pu
  rw [← hB] at a ⊢
  have sk : IsSl 2 Kd.e f.h.ks (slV 2 Kd.e f.h.ks) := slV_is
  have sp : IsSl 2 Pr.e f.h.ps (slV 2 Pr.e f.h.ps) := slV_is
  have sb : IsSl 1 intL f.h.bs (slV 1 intL f.h.bs) := slV_is
  have sq : IsSl 1 intL f.pk (slV 1 intL f.pk) := slV_is
  obtain ⟨o, h', A, fr, lo, hc⟩ := cpyO (eb := 8) (lim := 0) (h := [.cells [k, I f.h.fl, p, b, pv, I f.d, I f.n, bv] false, .cells [.nils, I 0, .nils, .nils, .nils, I 0, I 0, .nils] false, .cells [hsK f, I f.h.fl, hsP f, hsB f, slV 1 intL f.pk, I f.d, I f.n, B] false]) V intE intSc (by omega) (by omega) (Nat.zero_le _)
  simp only [List.length_cons, List.length_nil, Nat.zero_add, Nat.reduceAdd, List.cons_append, List.nil_append] at A lo
  have ol := (List.getElem?_eq_some_iff.1 hc).1
  have d1 : h'[1]? = some (.cells [.nils, I 0, .nils, .nils, .nils, I 0, I 0, .nils] false) := fr.at rfl
  have d2 : h'[2]? = some (.cells [hsK f, I f.h.fl, hsP f, hsB f, slV 1 intL f.pk, I f.d, I f.n, B] false) := fr.at rfl
  have key : ∃ r h2, R E (.fn 32) [frV f k p b pv bv, v] [] 0 = some (r, h2) ∧ (r = .agg [hsK f, I f.h.fl, hsP f, hsB f, .ms 1 o 0 x.length, I f.d, I f.n, B] ∧ h2[o]? = some (.cells (x.flatMap intL) false)) := by
    refine R_of (fun r h2 => r = .agg [hsK f, I f.h.fl, hsP f, hsB f, .ms 1 o 0 x.length, I f.d, I f.n, B] ∧ h2[o]? = some (.cells (x.flatMap intL) false)) (es _ _ _ _) e32 ?_
    simp only [f32, frV]
    have e2 : ∀ y : AO, (h'.set 2 y)[2]? = some y := fun y => List.getElem?_set_self (by omega)
    have e1 : ∀ y : AO, (h'.set 2 y)[1]? = some (.cells [.nils, I 0, .nils, .nils, .nils, I 0, I 0, .nils] false) := fun y => by rw [List.getElem?_set_ne (by omega)]; exact d1
    have e3 : ∀ y z : AO, ((h'.set 2 y).set 1 z)[1]? = some z := fun y z => List.getElem?_set_self (by simp; omega)
    simp (disch := first | assumption | omega | (simp only [az]; done)) only [ru, eq_self, if_true, if_false, BEq.rfl, binI, AO.row?, splice, fillL, mmAll, loadV, storeV, zeros, Am.rowAt, Am.part, addOff, Nat.reduceAdd, Nat.reduceMul, Nat.reduceLeDiff, Nat.reduceSub, Nat.reduceLT, Int.reduceEq, Int.reduceLT, Int.reduceLE, Int.reduceGT, Int.reduceGE, Int.reduceAdd, Int.reduceSub, Int.reduceMul, Int.reduceNeg, Int.reduceToNat, reduceCtorEq, reduceIte, H.fai, Int.toNat_natCast, lenV_sl V, view_sl V, scalar_sl V, cells_sl V, pure_sl V, lenV_sl sk, view_sl sk, scalar_sl sk, cells_sl sk, pure_sl sk, lenV_sl sp, view_sl sp, scalar_sl sp, cells_sl sp, pure_sl sp, lenV_sl sb, view_sl sb, scalar_sl sb, cells_sl sb, pure_sl sb, lenV_sl sq, view_sl sq, scalar_sl sq, cells_sl sq, pure_sl sq, B1, B2, B3, B4, a, exOp_buildSlice, exOp_append, List.map_nil, A, d1, d2, e1, e2, e3, Bool.and_self, finC, getRes, Option.some.injEq, exists_eq_left']
    rw [List.getElem?_set_ne (by omega), List.getElem?_set_ne (by omega)]; exact hc
  obtain ⟨r, h2, hr2, rfl, k1⟩ := key
  have v1 := viewB k1 (st := false) (n := 6)
  simp only [Iso, hr2]
  show ([hsK f, I f.h.fl, hsP f, hsB f, .ms 1 o 0 x.length, I f.d, I f.n, B].mapM (Am.view false h2 7)).map AV.agg = _
  simp only [slV] at v1
  simp only [List.mapM_cons, List.mapM_nil, view_int, slV, view_cs, v1, B3]; rfl
end
end Go.Proofs.YtfagcnokdnanpaaGreat.S
