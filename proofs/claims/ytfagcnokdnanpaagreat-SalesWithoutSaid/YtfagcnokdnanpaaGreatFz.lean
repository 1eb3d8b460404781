/-
SalesWithout.
-/
import Derived.Test.YtfagcnokdnanpaaGreatFv
namespace Go.Proofs.YtfagcnokdnanpaaGreat.S
open Go Go.Am Go.Proofs.YtfagcnokdnanpaaGreat.T
set_option maxRecDepth 100000
set_option linter.unusedSimpArgs false
set_option linter.unusedVariables false

/-- some of the bids, with other numbers -/
def ixS (q : List Nat) (x : Int) : Int := (q.getD x.toNat 0 : Nat)
theorem ix_bAt {L : List Bi} {q : List Nat} {x : Int} (x0 : 0 ≤ x) (hx : x < q.length) : bAt (q.map fun (j : Nat) => bAt L j) x = bAt L (ixS q x) := by
  have h : x.toNat < q.length := by omega
  show (q.map fun (j : Nat) => bAt L j).getD x.toNat default = bAt L ((q.getD x.toNat 0 : Nat) : Int)
  simp only [List.getD_eq_getElem?_getD, List.getElem?_map, List.getElem?_eq_getElem h, Option.map_some, Option.getD_some]
theorem ix_lt {q : List Nat} (hq : q.Pairwise (fun a b => a < b)) {a b : Int} (a0 : 0 ≤ a) (ha : a < q.length) (b0 : 0 ≤ b) (hb : b < q.length) : ixS q a < ixS q b ↔ a < b := by
  have mono : ∀ i j : Nat, i < j → j < q.length → q.getD i 0 < q.getD j 0 := fun i j hij hj => by
    have := (List.pairwise_iff_getElem.1 hq) i j (by omega) hj hij
    simpa [List.getD_eq_getElem?_getD, List.getElem?_eq_getElem hj, List.getElem?_eq_getElem (show i < q.length by omega)] using this
  constructor
  · intro h
    rcases Int.lt_trichotomy a b with h1 | rfl | h1
    · exact h1
    · exact absurd h (Int.lt_irrefl _)
    · have := mono b.toNat a.toNat (by omega) (by omega)
      simp only [ixS] at h; omega
  · intro h
    have := mono a.toNat b.toNat (by omega) (by omega)
    simp only [ixS]; omega
theorem ix_isS {r : Int → Bool} {L : List Bi} {q : List Nat} (hq : q.Pairwise (fun a b => a < b)) (hl : ∀ j ∈ q, j < L.length) {s : List Int} (hs : ∀ x ∈ s, 0 ≤ x ∧ x < q.length) : isS r (q.map fun (j : Nat) => bAt L j) s = isS r L (s.map (ixS q)) := by
  have hin : ∀ x : Int, 0 ≤ x → x < q.length → ixS q x < L.length := fun x x0 hx => by
    have h : x.toNat < q.length := by omega
    have : q.getD x.toNat 0 ∈ q := by rw [List.getD_eq_getElem?_getD, List.getElem?_eq_getElem h]; exact List.getElem_mem h
    have := hl _ this
    simp only [ixS]; omega
  rw [Bool.eq_iff_iff, isS_iff, isS_iff, List.pairwise_map, List.length_map]
  constructor
  · rintro ⟨h1, h2⟩
    refine ⟨fun y hy => ?_, List.Pairwise.imp_of_mem ?_ h2⟩
    · obtain ⟨x, hx, rfl⟩ := List.mem_map.1 hy
      have := (h1 x hx).2.2
      rw [ix_bAt (hs x hx).1 (hs x hx).2] at this
      exact ⟨by simp only [ixS]; omega, hin x (hs x hx).1 (hs x hx).2, this⟩
    · intro a b ha hb h
      obtain ⟨p1, p2, p3⟩ := h
      rw [ix_bAt (hs a ha).1 (hs a ha).2, ix_bAt (hs b hb).1 (hs b hb).2] at p2 p3
      exact ⟨(ix_lt hq (hs a ha).1 (hs a ha).2 (hs b hb).1 (hs b hb).2).2 p1, p2, p3⟩
  · rintro ⟨h1, h2⟩
    refine ⟨fun x hx => ?_, List.Pairwise.imp_of_mem ?_ h2⟩
    · have := (h1 _ (List.mem_map_of_mem hx)).2.2
      rw [ix_bAt (hs x hx).1 (hs x hx).2]
      exact ⟨(hs x hx).1, (hs x hx).2, this⟩
    · intro a b ha hb h
      obtain ⟨p1, p2, p3⟩ := h
      refine ⟨(ix_lt hq (hs a ha).1 (hs a ha).2 (hs b hb).1 (hs b hb).2).1 p1, ?_, ?_⟩
      · rw [ix_bAt (hs a ha).1 (hs a ha).2, ix_bAt (hs b hb).1 (hs b hb).2]; exact p2
      · rw [ix_bAt (hs a ha).1 (hs a ha).2, ix_bAt (hs b hb).1 (hs b hb).2]; exact p3
theorem ix_prc {L : List Bi} {q : List Nat} {s : List Int} (hs : ∀ x ∈ s, 0 ≤ x ∧ x < q.length) : prc (q.map fun (j : Nat) => bAt L j) s = prc L (s.map (ixS q)) := by
  simp only [prc, List.map_map]
  congr 1
  refine List.map_congr_left fun x hx => ?_
  rw [ix_bAt (hs x hx).1 (hs x hx).2]; rfl
theorem ix_sur {q : List Nat} : ∀ {s : List Int}, (∀ x ∈ s, 0 ≤ x ∧ x.toNat ∈ q) → ∃ t : List Int, (∀ x ∈ t, 0 ≤ x ∧ x < q.length) ∧ t.map (ixS q) = s
  | [], _ => ⟨[], by simp, rfl⟩
  | x :: s, h => by
    obtain ⟨t, ht, e⟩ := ix_sur (s := s) fun y hy => h y (by simp [hy])
    obtain ⟨x0, hx⟩ := h x (by simp)
    obtain ⟨j, hj, ej⟩ := List.mem_iff_getElem.1 hx
    refine ⟨(j : Int) :: t, fun y hy => ?_, ?_⟩
    · rcases List.mem_cons.1 hy with rfl | hy
      · omega
      · exact ht y hy
    · simp only [List.map_cons, e, List.cons.injEq, and_true, ixS, Int.toNat_natCast, List.getD_eq_getElem?_getD, List.getElem?_eq_getElem hj, Option.getD_some, ej]; omega
section
variable {f : Fs} {k p b pv bv : AV} {w : Nat → AV}
theorem wo_bids (f : Fs) (u : Int) : (f.wo u).bids = (othS f.bids u f.bids.length).map fun (j : Nat) => bAt f.bids j := by
  have := othS_map (L := f.bids) (u := u) f.bids.length (Nat.le_refl _)
  rw [List.take_length] at this
  exact this.symm
theorem wo_bg (G : FG f) (u : Int) : BG f.n f.h.bs.length (f.wo u).bids := by
  have hm : ∀ x ∈ (f.wo u).bids, x ∈ f.bids := fun x hx => (List.mem_filter.1 hx).1
  have hg : ∀ i : Nat, i < (f.wo u).bids.length → ∃ j : Nat, j < f.bids.length ∧ (f.wo u).bids.getD i default = f.bids.getD j default := fun i hi => by
    have : (f.wo u).bids.getD i default ∈ (f.wo u).bids := getD_mem hi
    obtain ⟨j, hj, e⟩ := mem_getD (d := default) (hm _ this)
    exact ⟨j, hj, e.symm⟩
  have ll : (f.wo u).bids.length ≤ f.bids.length := List.length_filter_le _ _
  refine ⟨Nat.le_trans ll G.bg.l, G.bg.nn, fun i hi => ?_, fun i hi => ?_, fun i hi => ?_⟩ <;> obtain ⟨j, hj, e⟩ := hg i hi <;> rw [e]
  · exact G.bg.u j hj
  · exact G.bg.c j hj
  · exact G.bg.b j hj
theorem wo_valid (hv : f.valid = true) (u : Int) : (f.wo u).valid = true := by
  simp only [Fs.valid, Bool.and_eq_true, decide_eq_true_eq, List.all_eq_true, List.mem_range] at hv ⊢
  obtain ⟨⟨⟨⟨⟨h1, h2⟩, h3⟩, h4⟩, h5⟩, h6⟩ := hv
  have ll : (f.wo u).bids.length ≤ f.bids.length := List.length_filter_le _ _
  refine ⟨⟨⟨⟨⟨h1, h2⟩, h3⟩, h4⟩, by omega⟩, fun i hi => ?_⟩
  have hm : (f.wo u).bids.getD i default ∈ (f.wo u).bids := getD_mem hi
  obtain ⟨j, hj, e⟩ := mem_getD (d := default) (List.mem_filter.1 hm).1
  have := h6 j hj
  simp only [bAt, Int.toNat_natCast] at this ⊢
  rw [← e]; exact this
/-- the most without a buyer is what the others can bring -/
theorem wo_tops (G : FG f) (u : Int) : tops (f.wo u).bids f.r = noU f.bids f.r u := by
  have hq : (othS f.bids u f.bids.length).Pairwise (fun a b => a < b) := List.pairwise_lt_range.filter _
  have hmem : ∀ j, j ∈ othS f.bids u f.bids.length ↔ j < f.bids.length ∧ (bAt f.bids j).u ≠ u := fun j => by simp [othS]
  have hl : ∀ j ∈ othS f.bids u f.bids.length, j < f.bids.length := fun j hj => ((hmem j).1 hj).1
  have G' := wo_bg G u
  have eb := wo_bids f u
  have w1 := wins_is G' (r := f.r)
  have m1 := isS_mem w1.1
  -- one way
  have le1 : tops (f.wo u).bids f.r ≤ noU f.bids f.r u := by
    rw [← w1.2.1]
    have hs := w1.1
    generalize wins (f.wo u).bids f.r = s at hs m1
    rw [eb] at hs m1 ⊢
    rw [List.length_map] at m1
    rw [ix_isS hq hl m1] at hs
    rw [ix_prc m1]
    refine best_ge G.bg hs ?_
    simp only [Bool.not_eq_true', List.any_eq_false]
    intro y hy
    obtain ⟨x, hx, rfl⟩ := List.mem_map.1 hy
    have h : x.toNat < (othS f.bids u f.bids.length).length := by have := m1 x hx; omega
    have hm : (othS f.bids u f.bids.length).getD x.toNat 0 ∈ othS f.bids u f.bids.length := by rw [List.getD_eq_getElem?_getD, List.getElem?_eq_getElem h]; exact List.getElem_mem h
    have := ((hmem _).1 hm).2
    simpa [byU, ixS] using this
  have le2 : noU f.bids f.r u ≤ tops (f.wo u).bids f.r := by
    rcases best_at G.bg (r := f.r) (pm := fun s => !s.any (byU f.bids u)) with ⟨_, _, a3⟩ | ⟨a1, a2, a3, _⟩
    · have := a3 [] isS_nil; cases this
    · show (bsT _ _ _).2 ≤ _
      rw [a3]
      generalize (bsT f.bids (fun s => !s.any (byU f.bids u)) (allS f.r f.bids)).1 = s at a1 a2
      simp only [Bool.not_eq_true', List.any_eq_false] at a2
      obtain ⟨t, ht, rfl⟩ := ix_sur (q := othS f.bids u f.bids.length) (s := s) fun x hx => by
        have hx' := isS_mem a1 x hx
        have hb := a2 x hx
        refine ⟨hx'.1, (hmem _).2 ⟨by omega, ?_⟩⟩
        rw [show ((x.toNat : Nat) : Int) = x by omega]
        simpa [byU] using hb
      rw [← ix_isS hq hl ht, ← eb] at a1
      have := tops_ge G' a1
      rw [eb, ix_prc ht, ← eb] at this
      exact this
  omega
set_option maxHeartbeats 4000000 in
theorem l8 (H : FsIn f k p b pv bv w) (u : Int) : Iso E 8 [frV f k p b pv bv, I u] false = some (Bo true) := by
  have a13 := fun st => t13 H st
  simp only [frV] at a13
  refine Iso_of (es _ _ _ _) e8 ?_
  simp only [f8]
  cases hr : f.rdy
  · rw [hr] at a13
    simp (disch := first | assumption | omega | (simp only [az]; done)) only [ru, eq_self, if_true, if_false, BEq.rfl, binI, AO.row?, splice, fillL, mmAll, loadV, storeV, zeros, Am.rowAt, Am.part, addOff, Nat.reduceAdd, Nat.reduceMul, Nat.reduceLeDiff, Nat.reduceSub, Nat.reduceLT, Int.reduceEq, Int.reduceLT, Int.reduceLE, Int.reduceGT, Int.reduceGE, Int.reduceAdd, Int.reduceSub, Int.reduceMul, Int.reduceNeg, Int.reduceToNat, reduceCtorEq, reduceIte, lenV_sl H.h.k, lenV_sl H.h.p, lenV_sl H.h.b, elem_kd H.h.k, elem_pr H.h.p, elem_in H.h.b, view_sl H.h.k, view_sl H.h.p, view_sl H.h.b, scalar_sl H.h.k, scalar_sl H.h.p, scalar_sl H.h.b, cells_sl H.h.k, cells_sl H.h.p, cells_sl H.h.b, pure_sl H.h.k, pure_sl H.h.p, pure_sl H.h.b, Int.toNat_natCast, lenV_sl H.pk, view_sl H.pk, scalar_sl H.pk, cells_sl H.pk, pure_sl H.pk, H.bi.len, H.bi.sc, H.bi.ce, H.bi.pu, H.bi.vw, a13, t15, gUn, Bool.not_false]
  rw [hr] at a13
  obtain ⟨K, G, hv⟩ := rdy_ok H hr
  have gn := G.bg.nn
  have a27 := fun st => t27 H u ⟨by omega, by omega⟩ st
  simp only [frV] at a27
  cases hu : inR u 0 (f.n - 1)
  · rw [hu] at a27
    simp (disch := first | assumption | omega | (simp only [az]; done)) only [ru, eq_self, if_true, if_false, BEq.rfl, binI, AO.row?, splice, fillL, mmAll, loadV, storeV, zeros, Am.rowAt, Am.part, addOff, Nat.reduceAdd, Nat.reduceMul, Nat.reduceLeDiff, Nat.reduceSub, Nat.reduceLT, Int.reduceEq, Int.reduceLT, Int.reduceLE, Int.reduceGT, Int.reduceGE, Int.reduceAdd, Int.reduceSub, Int.reduceMul, Int.reduceNeg, Int.reduceToNat, reduceCtorEq, reduceIte, lenV_sl H.h.k, lenV_sl H.h.p, lenV_sl H.h.b, elem_kd H.h.k, elem_pr H.h.p, elem_in H.h.b, view_sl H.h.k, view_sl H.h.p, view_sl H.h.b, scalar_sl H.h.k, scalar_sl H.h.p, scalar_sl H.h.b, cells_sl H.h.k, cells_sl H.h.p, cells_sl H.h.b, pure_sl H.h.k, pure_sl H.h.p, pure_sl H.h.b, Int.toNat_natCast, lenV_sl H.pk, view_sl H.pk, scalar_sl H.pk, cells_sl H.pk, pure_sl H.pk, H.bi.len, H.bi.sc, H.bi.ce, H.bi.pu, H.bi.vw, a13, a27, t15, gUn, Bool.not_false, Bool.not_true]
  rw [hu] at a27
  have h0 : ∀ s ∈ allS f.r f.bids, 0 ≤ prc f.bids s := fun s hs => (sale_bd G.bg (mem_allS.1 hs)).1
  have i1 := bV_is (p := fun _ => true) h0
  have w1 := wins_is G.bg (r := f.r)
  have wl := isS_lenL w1.1
  have nb := K.nb
  have a16 := fun st => t16 K hv st
  have a17 := t17 K hv
  have a25 := fun st => t25 K u st
  have a26 := fun st => t26 K (s := wins f.bids f.r) i1 (by omega) (isS_mem w1.1) u st
  obtain ⟨bw, ww', a36, hB⟩ := t36 K u
  have ll : (f.wo u).bids.length ≤ f.bids.length := List.length_filter_le _ _
  have K2 : FsOk (f.wo u) (hsK f) (hsP f) (hsB f) (slV 1 intL f.pk) bw ww' := by
    refine ⟨⟨⟨slV_is, slV_is, slV_is⟩, slV_is, hB⟩, ⟨⟨slV_is, slV_is, slV_is⟩, K.ho.nk, K.ho.np, K.ho.nb⟩, K.np, by omega, fun i hi => ?_⟩
    have hm : (f.wo u).bids.getD i default ∈ (f.wo u).bids := getD_mem hi
    obtain ⟨j, hj, e⟩ := mem_getD (d := default) (List.mem_filter.1 hm).1
    rw [← e]; exact K.nw j hj
  have b16 := fun st => t16 K2 (wo_valid hv u) st
  have er : (f.wo u).r = f.r := rfl
  have pl := pay_le G.bg (r := f.r) u
  have tb := tops_bd G (r := f.r)
  have nt := noU_is G.bg (r := f.r) (u := u)
  rw [er, wo_tops G u] at b16
  simp only [frV, Fs.wo, hv, hu, askF, fE_t, if_true] at a16 a17 a25 a26 a36 b16
  obtain ⟨T, hT⟩ : ∃ T, T = tops f.bids f.r := ⟨_, rfl⟩
  obtain ⟨M, hM⟩ : ∃ M, M = noU f.bids f.r u := ⟨_, rfl⟩
  obtain ⟨P, hP⟩ : ∃ P, P = payF f.bids f.r u := ⟨_, rfl⟩
  obtain ⟨V, hV⟩ : ∃ V, V = bV (bsT f.bids (fun _ => true) (allS f.r f.bids)) := ⟨_, rfl⟩
  have i1' : IsSl 1 intL (wins f.bids f.r) V := by rw [hV]; exact i1
  rw [← hT] at a16 tb nt pl
  rw [← hM] at b16 nt pl
  rw [← hP] at a25 pl
  rw [← hV] at a17 a26
  have n1 : ¬ T < 0 := by omega
  have n2 : ¬ M < 0 := by omega
  have n3 : ¬ M > T := by omega
  have sk : IsSl 2 Kd.e f.h.ks (slV 2 Kd.e f.h.ks) := slV_is
  have sp : IsSl 2 Pr.e f.h.ps (slV 2 Pr.e f.h.ps) := slV_is
  have sb : IsSl 1 intL f.h.bs (slV 1 intL f.h.bs) := slV_is
  have sq : IsSl 1 intL f.pk (slV 1 intL f.pk) := slV_is
  simp (disch := first | assumption | omega | (simp only [az]; done)) only [ru, eq_self, if_true, if_false, BEq.rfl, binI, AO.row?, splice, fillL, mmAll, loadV, storeV, zeros, Am.rowAt, Am.part, addOff, Nat.reduceAdd, Nat.reduceMul, Nat.reduceLeDiff, Nat.reduceSub, Nat.reduceLT, Int.reduceEq, Int.reduceLT, Int.reduceLE, Int.reduceGT, Int.reduceGE, Int.reduceAdd, Int.reduceSub, Int.reduceMul, Int.reduceNeg, Int.reduceToNat, reduceCtorEq, reduceIte, lenV_sl H.h.k, lenV_sl H.h.p, lenV_sl H.h.b, elem_kd H.h.k, elem_pr H.h.p, elem_in H.h.b, view_sl H.h.k, view_sl H.h.p, view_sl H.h.b, scalar_sl H.h.k, scalar_sl H.h.p, scalar_sl H.h.b, cells_sl H.h.k, cells_sl H.h.p, cells_sl H.h.b, pure_sl H.h.k, pure_sl H.h.p, pure_sl H.h.b, Int.toNat_natCast, lenV_sl H.pk, view_sl H.pk, scalar_sl H.pk, cells_sl H.pk, pure_sl H.pk, H.bi.len, H.bi.sc, H.bi.ce, H.bi.pu, H.bi.vw, lenV_sl i1', view_sl i1', scalar_sl i1', cells_sl i1', pure_sl i1', lenV_sl sk, view_sl sk, scalar_sl sk, cells_sl sk, pure_sl sk, lenV_sl sp, view_sl sp, scalar_sl sp, cells_sl sp, pure_sl sp, lenV_sl sb, view_sl sb, scalar_sl sb, cells_sl sb, pure_sl sb, lenV_sl sq, view_sl sq, scalar_sl sq, cells_sl sq, pure_sl sq, hB.sc, hB.ce, hB.vw, hB.pu, a13, a27, a16, a36, b16, a17, a25, n1, n2, n3, gUn, decide_false, Bool.not_true, Bool.and_self]
  refine G_loop_ind (fun y ts hk mk => ∃ (j : Nat) (hi : Int), j ≤ f.bids.length ∧ y = f.bids.length - j ∧ 0 ≤ hi ∧ hi ≤ 99 ∧ (∀ i : Nat, i < j → (bAt f.bids i).u = u → (bAt f.bids i).c ≤ hi) ∧ hk[0]? = some (.cells [k, I f.h.fl, p, b, pv, I f.d, I f.n, bv] false) ∧
      ts.length = 113 ∧ ts.getD 1 .undef = I u ∧ ts.getD 2 .undef = .ptr 0 0 ∧ ts.getD 5 .undef = I T ∧ ts.getD 6 .undef = I M ∧ ts.getD 7 .undef = V ∧ ts.getD 9 .undef = I P ∧ ts.getD 11 .undef = I hi ∧ ts.getD 12 .undef = I j ∧ mk = []) ?_ f.bids.length _ _ _ ⟨0, 0, by omega, rfl, by omega, by omega, fun i hi => by omega, rfl, rfl, rfl, rfl, rfl, rfl, rfl, rfl, rfl, rfl, rfl⟩
  rintro y ts hk mk ih ⟨j, hi, hj, rfl, g0, g9, hall, c0, hl', q1, q2, q5, q6, q7, q9, q11, q12, rfl⟩
  rw [lit_all hl']
  simp only [lit0, litS, Nat.reduceAdd, q1, q2, q5, q6, q7, q9, q11, q12]
  simp (disch := first | assumption | omega | (simp only [az]; done)) only [ru, eq_self, if_true, if_false, BEq.rfl, binI, AO.row?, splice, fillL, mmAll, loadV, storeV, zeros, Am.rowAt, Am.part, addOff, Nat.reduceAdd, Nat.reduceMul, Nat.reduceLeDiff, Nat.reduceSub, Nat.reduceLT, Int.reduceEq, Int.reduceLT, Int.reduceLE, Int.reduceGT, Int.reduceGE, Int.reduceAdd, Int.reduceSub, Int.reduceMul, Int.reduceNeg, Int.reduceToNat, reduceCtorEq, reduceIte, lenV_sl H.h.k, lenV_sl H.h.p, lenV_sl H.h.b, elem_kd H.h.k, elem_pr H.h.p, elem_in H.h.b, view_sl H.h.k, view_sl H.h.p, view_sl H.h.b, scalar_sl H.h.k, scalar_sl H.h.p, scalar_sl H.h.b, cells_sl H.h.k, cells_sl H.h.p, cells_sl H.h.b, pure_sl H.h.k, pure_sl H.h.p, pure_sl H.h.b, Int.toNat_natCast, lenV_sl H.pk, view_sl H.pk, scalar_sl H.pk, cells_sl H.pk, pure_sl H.pk, H.bi.len, H.bi.sc, H.bi.ce, H.bi.pu, H.bi.vw, c0]
  by_cases hlt : (j : Int) < f.bids.length
  case pos =>
    have eb := H.bi.el j (by omega) hlt
    have gx := G.bg.at (i := (j : Int)) (by omega) hlt
    by_cases e1 : (bAt f.bids j).u = u
    · have e1' : ((bAt f.bids j).u == u) = true := by simp [e1]
      obtain ⟨h2, hh2⟩ : ∃ h2, h2 = mmx true hi (bAt f.bids j).c := ⟨_, rfl⟩
      have hb : 0 ≤ h2 ∧ h2 ≤ 99 ∧ hi ≤ h2 ∧ (bAt f.bids j).c ≤ h2 := by rw [hh2]; simp only [mmx, if_true]; split <;> omega
      simp (disch := first | assumption | omega | (simp only [az]; done)) only [ru, eq_self, if_true, if_false, BEq.rfl, binI, AO.row?, splice, fillL, mmAll, loadV, storeV, zeros, Am.rowAt, Am.part, addOff, Nat.reduceAdd, Nat.reduceMul, Nat.reduceLeDiff, Nat.reduceSub, Nat.reduceLT, Int.reduceEq, Int.reduceLT, Int.reduceLE, Int.reduceGT, Int.reduceGE, Int.reduceAdd, Int.reduceSub, Int.reduceMul, Int.reduceNeg, Int.reduceToNat, reduceCtorEq, reduceIte, lenV_sl H.h.k, lenV_sl H.h.p, lenV_sl H.h.b, elem_kd H.h.k, elem_pr H.h.p, elem_in H.h.b, view_sl H.h.k, view_sl H.h.p, view_sl H.h.b, scalar_sl H.h.k, scalar_sl H.h.p, scalar_sl H.h.b, cells_sl H.h.k, cells_sl H.h.p, cells_sl H.h.b, pure_sl H.h.k, pure_sl H.h.p, pure_sl H.h.b, Int.toNat_natCast, lenV_sl H.pk, view_sl H.pk, scalar_sl H.pk, cells_sl H.pk, pure_sl H.pk, H.bi.len, H.bi.sc, H.bi.ce, H.bi.pu, H.bi.vw, c0, hlt, eb, e1', ← hh2]
      exact ih (f.bids.length - (j + 1)) _ _ _ (by omega) ⟨j + 1, h2, by omega, rfl, hb.1, hb.2.1, fun i hi' hu' => by
        rcases Nat.lt_or_eq_of_le (Nat.le_of_lt_succ hi') with h | rfl
        · have := hall i h hu'; omega
        · exact hb.2.2.2, c0, rfl, rfl, rfl, rfl, rfl, rfl, rfl, rfl, rfl, rfl⟩
    · have e1' : ((bAt f.bids j).u == u) = false := by simp [e1]
      simp (disch := first | assumption | omega | (simp only [az]; done)) only [ru, eq_self, if_true, if_false, BEq.rfl, binI, AO.row?, splice, fillL, mmAll, loadV, storeV, zeros, Am.rowAt, Am.part, addOff, Nat.reduceAdd, Nat.reduceMul, Nat.reduceLeDiff, Nat.reduceSub, Nat.reduceLT, Int.reduceEq, Int.reduceLT, Int.reduceLE, Int.reduceGT, Int.reduceGE, Int.reduceAdd, Int.reduceSub, Int.reduceMul, Int.reduceNeg, Int.reduceToNat, reduceCtorEq, reduceIte, lenV_sl H.h.k, lenV_sl H.h.p, lenV_sl H.h.b, elem_kd H.h.k, elem_pr H.h.p, elem_in H.h.b, view_sl H.h.k, view_sl H.h.p, view_sl H.h.b, scalar_sl H.h.k, scalar_sl H.h.p, scalar_sl H.h.b, cells_sl H.h.k, cells_sl H.h.p, cells_sl H.h.b, pure_sl H.h.k, pure_sl H.h.p, pure_sl H.h.b, Int.toNat_natCast, lenV_sl H.pk, view_sl H.pk, scalar_sl H.pk, cells_sl H.pk, pure_sl H.pk, H.bi.len, H.bi.sc, H.bi.ce, H.bi.pu, H.bi.vw, c0, hlt, eb, e1']
      exact ih (f.bids.length - (j + 1)) _ _ _ (by omega) ⟨j + 1, hi, by omega, rfl, g0, g9, fun i hi' hu' => by
        rcases Nat.lt_or_eq_of_le (Nat.le_of_lt_succ hi') with h | rfl
        · exact hall i h hu'
        · exact absurd hu' e1, c0, rfl, rfl, rfl, rfl, rfl, rfl, rfl, rfl, rfl, rfl⟩
  obtain rfl : j = f.bids.length := by omega
  cases hf : (wins f.bids f.r).find? (byU f.bids u) with
  | none =>
    simp only [hf, Option.getD_none] at a26
    simp only [cwn, hf, Option.map_none, Option.getD_none] at pl
    have d1 : M ≥ T - hi := by omega
    have d2 : (P == M - (T - 0)) = true := by rw [beq_iff_eq]; omega
    simp (disch := first | assumption | omega | (simp only [az]; done)) only [ru, eq_self, if_true, if_false, BEq.rfl, binI, AO.row?, splice, fillL, mmAll, loadV, storeV, zeros, Am.rowAt, Am.part, addOff, Nat.reduceAdd, Nat.reduceMul, Nat.reduceLeDiff, Nat.reduceSub, Nat.reduceLT, Int.reduceEq, Int.reduceLT, Int.reduceLE, Int.reduceGT, Int.reduceGE, Int.reduceAdd, Int.reduceSub, Int.reduceMul, Int.reduceNeg, Int.reduceToNat, reduceCtorEq, reduceIte, lenV_sl H.h.k, lenV_sl H.h.p, lenV_sl H.h.b, elem_kd H.h.k, elem_pr H.h.p, elem_in H.h.b, view_sl H.h.k, view_sl H.h.p, view_sl H.h.b, scalar_sl H.h.k, scalar_sl H.h.p, scalar_sl H.h.b, cells_sl H.h.k, cells_sl H.h.p, cells_sl H.h.b, pure_sl H.h.k, pure_sl H.h.p, pure_sl H.h.b, Int.toNat_natCast, lenV_sl H.pk, view_sl H.pk, scalar_sl H.pk, cells_sl H.pk, pure_sl H.pk, H.bi.len, H.bi.sc, H.bi.ce, H.bi.pu, H.bi.vw, lenV_sl i1', view_sl i1', scalar_sl i1', cells_sl i1', pure_sl i1', c0, hlt, a26, d1, d2, t15, gUn, decide_true, decide_false]
  | some x =>
    simp only [hf, Option.getD_some] at a26
    have wx := win_u G.bg hf
    have eb := H.bi.el x wx.2.2.1 wx.2.2.2.1
    have gx := G.bg.at wx.2.2.1 wx.2.2.2.1
    simp only [cwn, hf, Option.map_some, Option.getD_some] at pl
    have x0 : x ≥ 0 := wx.2.2.1
    have hc := hall x.toNat (by omega) (by rw [show ((x.toNat : Nat) : Int) = x by omega]; exact wx.2.1)
    rw [show ((x.toNat : Nat) : Int) = x by omega] at hc
    have d1 : M ≥ T - hi := by omega
    have d2 : (P == M - (T - (bAt f.bids x).c)) = true := by rw [beq_iff_eq]; omega
    simp (disch := first | assumption | omega | (simp only [az]; done)) only [ru, eq_self, if_true, if_false, BEq.rfl, binI, AO.row?, splice, fillL, mmAll, loadV, storeV, zeros, Am.rowAt, Am.part, addOff, Nat.reduceAdd, Nat.reduceMul, Nat.reduceLeDiff, Nat.reduceSub, Nat.reduceLT, Int.reduceEq, Int.reduceLT, Int.reduceLE, Int.reduceGT, Int.reduceGE, Int.reduceAdd, Int.reduceSub, Int.reduceMul, Int.reduceNeg, Int.reduceToNat, reduceCtorEq, reduceIte, lenV_sl H.h.k, lenV_sl H.h.p, lenV_sl H.h.b, elem_kd H.h.k, elem_pr H.h.p, elem_in H.h.b, view_sl H.h.k, view_sl H.h.p, view_sl H.h.b, scalar_sl H.h.k, scalar_sl H.h.p, scalar_sl H.h.b, cells_sl H.h.k, cells_sl H.h.p, cells_sl H.h.b, pure_sl H.h.k, pure_sl H.h.p, pure_sl H.h.b, Int.toNat_natCast, lenV_sl H.pk, view_sl H.pk, scalar_sl H.pk, cells_sl H.pk, pure_sl H.pk, H.bi.len, H.bi.sc, H.bi.ce, H.bi.pu, H.bi.vw, lenV_sl i1', view_sl i1', scalar_sl i1', cells_sl i1', pure_sl i1', c0, hlt, a26, x0, eb, d1, d2, t15, gUn, decide_true, decide_false]
end
end Go.Proofs.YtfagcnokdnanpaaGreat.S

