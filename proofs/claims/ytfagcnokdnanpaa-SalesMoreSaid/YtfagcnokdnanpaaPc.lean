/-
SalesMore (the seat of More, Need, Later).
-/
import Derived.Test.YtfagcnokdnanpaaPa
namespace Go.Proofs.Ytfagcnokdnanpaa.S
open Go Go.Am Go.Proofs.Ytfagcnokdnanpaa.T
set_option maxRecDepth 100000
set_option linter.unusedSimpArgs false
set_option linter.unusedVariables false

/-- with one more bid -/
def Fs.add (f : Fs) (x : Bi) : Fs := { f with bids := f.bids ++ [x] }
theorem bAt_app {L : List Bi} {x : Bi} {i : Int} (h0 : 0 ≤ i) (hi : i < L.length) : bAt (L ++ [x]) i = bAt L i := by
  have hi' : i.toNat < L.length := by omega
  simp only [bAt, List.getD_eq_getElem?_getD]
  rw [List.getElem?_append_left hi']
theorem prc_app {L : List Bi} {x : Bi} : ∀ {s : List Int}, (∀ y ∈ s, 0 ≤ y ∧ y < L.length) → prc (L ++ [x]) s = prc L s
  | [], _ => rfl
  | y :: s, h => by
    have ih := prc_app (x := x) (s := s) fun z hz => h z (by simp [hz])
    have hy := h y (by simp)
    simp only [prc, List.map_cons, sm] at ih ⊢
    rw [ih, bAt_app hy.1 hy.2]
theorem isS_app {r : Int → Bool} {L : List Bi} {x : Bi} {s : List Int} (h : isS r L s = true) : isS r (L ++ [x]) s = true := by
  obtain ⟨h1, h2⟩ := isS_iff.1 h
  refine isS_iff.2 ⟨fun y hy => ?_, ?_⟩
  · obtain ⟨a, b, c⟩ := h1 y hy
    refine ⟨a, by simp; omega, ?_⟩
    rw [bAt_app a b]; exact c
  · refine List.Pairwise.imp_of_mem (fun {a b} ha hb hp => ?_) h2
    have ga := h1 a ha; have gb := h1 b hb
    unfold prS at hp ⊢
    rw [bAt_app ga.1 ga.2.1, bAt_app gb.1 gb.2.1]; exact hp
theorem tops_add {r : Int → Bool} {n : Int} {nb : Nat} {L : List Bi} {x : Bi} (G : BG n nb L) (G' : BG n nb (L ++ [x])) : tops L r ≤ tops (L ++ [x]) r := by
  have w1 := wins_is G (r := r)
  have := tops_ge G' (isS_app (x := x) w1.1)
  rw [prc_app fun y hy => ⟨(isS_mem w1.1 y hy).1, (isS_mem w1.1 y hy).2⟩] at this
  omega
theorem outE_apG2 {α : Type} {enc : α → List AV} {esz eb : Nat} (he : ∀ a, (enc a).length = esz) (hs : ∀ a, (enc a).all AV.scalar = true) (heb : 1 ≤ eb) (hb : eb ≤ 1000) {b p : Nat} {h X : List AO} {v : AV} {l : List α} {lim : Nat} (H : OutE enc esz b h v l) (hp : (h ++ X)[p]? = some .tomb) (hbp : h.length ≤ p) (hlim : lim ≤ b) (hl : l.length ≤ 1000000) (x : α) :
    ∃ h', appG false lim p esz eb (h ++ X) v (.cs esz 1 (enc x)) = some (.ms esz p 0 (l.length + 1), h') ∧ h'.length = (h ++ X).length ∧ h'[p]? = some (.cells ((l ++ [x]).flatMap enc) false) ∧ (∀ j, j < b → h.length ≠ 0 → j ≠ p → h'[j]? = (h ++ X)[j]?) ∧ ∀ j, h.length ≤ j → j ≠ p → h'[j]? = (h ++ X)[j]? := by
  have pl := (List.getElem?_eq_some_iff.1 hp).1
  have hx : (enc x).length = 1 * esz := by rw [he]; omega
  rcases H with ⟨rfl, rfl⟩ | ⟨hne, o, ho, rfl, hc⟩
  · refine ⟨(h ++ X).set p (.cells (enc x) false), appG_nil (n := 1) (by omega) rfl rfl hx (hs x) (by omega) heb, by simp, ?_, fun j hj _ hp => by rw [List.getElem?_set_ne (by omega)], fun j hj hp => by rw [List.getElem?_set_ne (by omega)]⟩
    rw [List.getElem?_set_self pl]; simp
  · have ol := (List.getElem?_eq_some_iff.1 hc).1
    have hc' : (h ++ X)[o]? = some (.cells (l.flatMap enc) false) := by rw [at_ap ol]; exact hc
    refine ⟨_, appG_ms (n := 1) (by omega) hc' (by rw [flat_len he]) rfl rfl hx (hs x) ?_ heb (by omega), by simp, ?_, fun j hj _ hp => by rw [List.getElem?_set_ne (by omega), List.getElem?_set_ne (by omega)], fun j hj hp => by rw [List.getElem?_set_ne (by omega), List.getElem?_set_ne (by omega)]⟩
    · have : (l.length + 1) * eb ≤ 1000001 * 1000 := Nat.mul_le_mul (by omega) hb
      omega
    · rw [List.getElem?_set_self (by simpa using pl)]
      simp [List.flatMap_append]
def sq : ACode → ACode
  | .seq _ b => b
  | c => c
def fq : ACode → ACode
  | .seq a _ => a
  | c => c
def tail3 : ACode := sq (sq (sq (sq (sq (sq (sq f3.body))))))
theorem body3 : f3.body = .seq (fq f3.body) (.seq (fq (sq f3.body)) (.seq (fq (sq (sq f3.body))) (.seq (fq (sq (sq (sq f3.body)))) (.seq (fq (sq (sq (sq (sq f3.body))))) (.seq (fq (sq (sq (sq (sq (sq f3.body)))))) (.seq (fq (sq (sq (sq (sq (sq (sq f3.body))))))) tail3)))))) := rfl
theorem tmps3 : f3.ntmps = 102 := rfl
theorem res3 : f3.results = [.tmp 6] := rfl
section
variable {f : Fs} {k p b pv bv : AV} {w : Nat → AV}
theorem more_off (G : FG f) {c : Int} (c0 : 0 ≤ c) (hc : c < f.bids.length) (hz : (bAt f.bids c).c ≠ 99) :
    (tops (f.off c ((bAt f.bids c).c + 1)).bids f.r = tops f.bids f.r ∧ wonF f.bids f.r c = 2) ∨ (tops (f.off c ((bAt f.bids c).c + 1)).bids f.r = tops f.bids f.r + 1 ∧ (wonF f.bids f.r c = 1 ∨ wonF f.bids f.r c = 3)) := by
  have gc := G.bg.at c0 hc
  have hz' : 0 ≤ (bAt f.bids c).c + 1 ∧ (bAt f.bids c).c + 1 ≤ 99 := ⟨by omega, by omega⟩
  have o := off_best G c0 hc hz'
  obtain ⟨t1, t2⟩ := off_tops G c0 hc hz'
  have wo := wot_ge G (r := f.r) (c := c)
  have hm : ∀ a b : Int, mx a b = if b > a then b else a := fun _ _ => rfl
  rw [t1, t2, o.2.2]
  by_cases hw : wit f.bids f.r c ≥ 0
  · rw [o.1 hw]
    by_cases h1 : wit f.bids f.r c < wot f.bids f.r c
    · refine .inl ⟨?_, by unfold wonF; rw [if_pos h1]⟩
      rw [hm, hm]
      by_cases h2 : wot f.bids f.r c > wit f.bids f.r c + ((bAt f.bids c).c + 1 - (bAt f.bids c).c)
      · rw [if_pos h2, if_pos h1]
      · rw [if_neg h2, if_pos h1]; omega
    · refine .inr ⟨?_, ?_⟩
      · rw [hm, hm, if_neg (by omega), if_neg (by omega)]; omega
      · unfold wonF; rw [if_neg h1]
        split
        · exact .inl rfl
        · exact .inr rfl
  · rw [o.2.1 (by omega)]
    refine .inl ⟨?_, by unfold wonF; rw [if_pos (by omega)]⟩
    rw [hm, hm, if_pos (by omega), if_pos (by omega)]
set_option maxHeartbeats 4000000 in
theorem tl3 (K : FsOk f k p b pv bv w) (G : FG f) (hv : f.valid = true) (c : Int) (ts : List AV) (hk : List AO) (cc : hk[0]? = some (.cells [k, I f.h.fl, p, b, pv, I f.d, I f.n, bv] false)) (hlt' : ts.length = 102) (q2 : ts.getD 2 .undef = I c) (q3 : ts.getD 3 .undef = .ptr 0 0) (q7 : ts.getD 7 .undef = I (tops f.bids f.r)) :
    Am.G ⟨E, 0, none, 3, Done 0 [ARes.tmp 6] fun r h' => Am.view false h' 8 r = some (Bo true)⟩ tail3 [] ts hk [] := by
  have H := K.toFsIn
  rw [lit_all hlt']
  simp only [lit0, litS, Nat.reduceAdd, q2, q3, q7]
  simp only [tail3, sq, f3]
  have a85 := fun st => t85 K c st
  simp only [frV] at a85
  cases hu : inR c 0 (f.bids.length - 1)
  · rw [hu] at a85
    simp (disch := first | assumption | omega | (simp only [az]; done)) only [ru, eq_self, if_true, if_false, BEq.rfl, binI, AO.row?, splice, fillL, mmAll, loadV, storeV, zeros, Am.rowAt, Am.part, addOff, Nat.reduceAdd, Nat.reduceMul, Nat.reduceLeDiff, Nat.reduceSub, Nat.reduceLT, Int.reduceEq, Int.reduceLT, Int.reduceLE, Int.reduceGT, Int.reduceGE, Int.reduceAdd, Int.reduceSub, Int.reduceMul, Int.reduceNeg, Int.reduceToNat, reduceCtorEq, reduceIte, lenV_sl H.h.k, lenV_sl H.h.p, lenV_sl H.h.b, elem_kd H.h.k, elem_pr H.h.p, elem_in H.h.b, view_sl H.h.k, view_sl H.h.p, view_sl H.h.b, scalar_sl H.h.k, scalar_sl H.h.p, scalar_sl H.h.b, cells_sl H.h.k, cells_sl H.h.p, cells_sl H.h.b, pure_sl H.h.k, pure_sl H.h.p, pure_sl H.h.b, Int.toNat_natCast, lenV_sl H.pk, view_sl H.pk, scalar_sl H.pk, cells_sl H.pk, pure_sl H.pk, H.bi.len, H.bi.sc, H.bi.ce, H.bi.pu, H.bi.vw, cc, a85, t15, gUn, Bool.not_false, Bool.not_true]
  rw [hu] at a85
  have hcr := inR_iff.1 hu
  have c0 : 0 ≤ c := hcr.1
  have hc : c < f.bids.length := by omega
  have nb := K.nb
  have gc := G.bg.at c0 hc
  have eb := H.bi.el c c0 hc
  by_cases hz : (bAt f.bids c).c = 99
  · have hz' : ((bAt f.bids c).c == 99) = true := by rw [beq_iff_eq]; exact hz
    simp (disch := first | assumption | omega | (simp only [az]; done)) only [ru, eq_self, if_true, if_false, BEq.rfl, binI, AO.row?, splice, fillL, mmAll, loadV, storeV, zeros, Am.rowAt, Am.part, addOff, Nat.reduceAdd, Nat.reduceMul, Nat.reduceLeDiff, Nat.reduceSub, Nat.reduceLT, Int.reduceEq, Int.reduceLT, Int.reduceLE, Int.reduceGT, Int.reduceGE, Int.reduceAdd, Int.reduceSub, Int.reduceMul, Int.reduceNeg, Int.reduceToNat, reduceCtorEq, reduceIte, lenV_sl H.h.k, lenV_sl H.h.p, lenV_sl H.h.b, elem_kd H.h.k, elem_pr H.h.p, elem_in H.h.b, view_sl H.h.k, view_sl H.h.p, view_sl H.h.b, scalar_sl H.h.k, scalar_sl H.h.p, scalar_sl H.h.b, cells_sl H.h.k, cells_sl H.h.p, cells_sl H.h.b, pure_sl H.h.k, pure_sl H.h.p, pure_sl H.h.b, Int.toNat_natCast, lenV_sl H.pk, view_sl H.pk, scalar_sl H.pk, cells_sl H.pk, pure_sl H.pk, H.bi.len, H.bi.sc, H.bi.ce, H.bi.pu, H.bi.vw, cc, a85, eb, hz', t15, gUn, Bool.not_false, Bool.not_true]
  have hz' : ((bAt f.bids c).c == 99) = false := by rw [beq_eq_false_iff_ne]; exact hz
  have mo := more_off G c0 hc hz
  have hz9 : 0 ≤ (bAt f.bids c).c + 1 ∧ (bAt f.bids c).c + 1 ≤ 99 := ⟨by omega, by omega⟩
  obtain ⟨w', K'⟩ := K.off (z := (bAt f.bids c).c + 1) c0 hc
  have hv' := off_valid hv c0 hc hz9
  have a12 : Iso E 12 [.agg [k, I f.h.fl, p, b, pv, I f.d, I f.n, bv], I c, I ((bAt f.bids c).c + 1)] false = some (.agg [hsK f, I f.h.fl, hsP f, hsB f, slV 1 intL f.pk, I f.d, I f.n, resB (f.off c ((bAt f.bids c).c + 1)).bids]) := t28 K c0 hc ((bAt f.bids c).c + 1)
  have a8 : ∀ st, Iso E 8 [.agg [hsK f, I f.h.fl, hsP f, hsB f, slV 1 intL f.pk, I f.d, I f.n, resB (f.off c ((bAt f.bids c).c + 1)).bids]] st = some (I (tops (f.off c ((bAt f.bids c).c + 1)).bids f.r)) := fun st => t16 K' hv' st
  have a21 := fun st => t21 K c st
  simp only [frV, hv, hu, askF, fE_t, if_true] at a21
  obtain ⟨B, hB⟩ : ∃ B, B = resB (f.off c ((bAt f.bids c).c + 1)).bids := ⟨_, rfl⟩
  have B1 : B.scalar = true := by rw [hB]; exact K'.bi.sc
  have B2 : B.cells = [B] := by rw [hB]; exact K'.bi.ce
  have B3 : ∀ (g : List AO) (n : Nat), view false g n B = some B := fun g n => by rw [hB]; exact K'.bi.vw g _
  have B4 : B.pureV = true := by rw [hB]; exact K'.bi.pu
  rw [← hB] at a12 a8
  obtain ⟨M, hM⟩ : ∃ M, M = tops (f.off c ((bAt f.bids c).c + 1)).bids f.r := ⟨_, rfl⟩
  obtain ⟨W, hW⟩ : ∃ M, M = wonF f.bids f.r c := ⟨_, rfl⟩
  have tb := tops_bd G (r := f.r)
  obtain ⟨T, hT⟩ : ∃ M, M = tops f.bids f.r := ⟨_, rfl⟩
  rw [← hM] at a8 mo
  rw [← hW] at a21 mo
  rw [← hT] at mo tb ⊢
  have sk : IsSl 2 Kd.e f.h.ks (slV 2 Kd.e f.h.ks) := slV_is
  have sp : IsSl 2 Pr.e f.h.ps (slV 2 Pr.e f.h.ps) := slV_is
  have sb : IsSl 1 intL f.h.bs (slV 1 intL f.h.bs) := slV_is
  have sq : IsSl 1 intL f.pk (slV 1 intL f.pk) := slV_is
  clear hM hW hT
  rcases mo with ⟨rfl, rfl⟩ | ⟨rfl, rfl | rfl⟩
  · have e1 : (M == M) = true := by simp
    simp (disch := first | assumption | omega | (simp only [az]; done)) only [ru, eq_self, if_true, if_false, BEq.rfl, binI, AO.row?, splice, fillL, mmAll, loadV, storeV, zeros, Am.rowAt, Am.part, addOff, Nat.reduceAdd, Nat.reduceMul, Nat.reduceLeDiff, Nat.reduceSub, Nat.reduceLT, Int.reduceEq, Int.reduceLT, Int.reduceLE, Int.reduceGT, Int.reduceGE, Int.reduceAdd, Int.reduceSub, Int.reduceMul, Int.reduceNeg, Int.reduceToNat, reduceCtorEq, reduceIte, lenV_sl H.h.k, lenV_sl H.h.p, lenV_sl H.h.b, elem_kd H.h.k, elem_pr H.h.p, elem_in H.h.b, view_sl H.h.k, view_sl H.h.p, view_sl H.h.b, scalar_sl H.h.k, scalar_sl H.h.p, scalar_sl H.h.b, cells_sl H.h.k, cells_sl H.h.p, cells_sl H.h.b, pure_sl H.h.k, pure_sl H.h.p, pure_sl H.h.b, Int.toNat_natCast, lenV_sl H.pk, view_sl H.pk, scalar_sl H.pk, cells_sl H.pk, pure_sl H.pk, H.bi.len, H.bi.sc, H.bi.ce, H.bi.pu, H.bi.vw, lenV_sl sk, view_sl sk, scalar_sl sk, cells_sl sk, pure_sl sk, lenV_sl sp, view_sl sp, scalar_sl sp, cells_sl sp, pure_sl sp, lenV_sl sb, view_sl sb, scalar_sl sb, cells_sl sb, pure_sl sb, lenV_sl sq, view_sl sq, scalar_sl sq, cells_sl sq, pure_sl sq, B1, B2, B3, B4, cc, a85, eb, hz', a12, a8, a21, e1, GO_mcall1, hide, t15, gUn, Bool.not_false, Bool.not_true]
  · have e1 : (T + 1 == T) = false := by simp; omega
    have e2 : (T + 1 == T + 1) = true := by simp
    simp (disch := first | assumption | omega | (simp only [az]; done)) only [ru, eq_self, if_true, if_false, BEq.rfl, binI, AO.row?, splice, fillL, mmAll, loadV, storeV, zeros, Am.rowAt, Am.part, addOff, Nat.reduceAdd, Nat.reduceMul, Nat.reduceLeDiff, Nat.reduceSub, Nat.reduceLT, Int.reduceEq, Int.reduceLT, Int.reduceLE, Int.reduceGT, Int.reduceGE, Int.reduceAdd, Int.reduceSub, Int.reduceMul, Int.reduceNeg, Int.reduceToNat, reduceCtorEq, reduceIte, lenV_sl H.h.k, lenV_sl H.h.p, lenV_sl H.h.b, elem_kd H.h.k, elem_pr H.h.p, elem_in H.h.b, view_sl H.h.k, view_sl H.h.p, view_sl H.h.b, scalar_sl H.h.k, scalar_sl H.h.p, scalar_sl H.h.b, cells_sl H.h.k, cells_sl H.h.p, cells_sl H.h.b, pure_sl H.h.k, pure_sl H.h.p, pure_sl H.h.b, Int.toNat_natCast, lenV_sl H.pk, view_sl H.pk, scalar_sl H.pk, cells_sl H.pk, pure_sl H.pk, H.bi.len, H.bi.sc, H.bi.ce, H.bi.pu, H.bi.vw, lenV_sl sk, view_sl sk, scalar_sl sk, cells_sl sk, pure_sl sk, lenV_sl sp, view_sl sp, scalar_sl sp, cells_sl sp, pure_sl sp, lenV_sl sb, view_sl sb, scalar_sl sb, cells_sl sb, pure_sl sb, lenV_sl sq, view_sl sq, scalar_sl sq, cells_sl sq, pure_sl sq, B1, B2, B3, B4, cc, a85, eb, hz', a12, a8, a21, e1, e2, GO_mcall1, hide, t15, gUn, Bool.not_false, Bool.not_true]
  · have e1 : (T + 1 == T) = false := by simp; omega
    have e2 : (T + 1 == T + 1) = true := by simp
    simp (disch := first | assumption | omega | (simp only [az]; done)) only [ru, eq_self, if_true, if_false, BEq.rfl, binI, AO.row?, splice, fillL, mmAll, loadV, storeV, zeros, Am.rowAt, Am.part, addOff, Nat.reduceAdd, Nat.reduceMul, Nat.reduceLeDiff, Nat.reduceSub, Nat.reduceLT, Int.reduceEq, Int.reduceLT, Int.reduceLE, Int.reduceGT, Int.reduceGE, Int.reduceAdd, Int.reduceSub, Int.reduceMul, Int.reduceNeg, Int.reduceToNat, reduceCtorEq, reduceIte, lenV_sl H.h.k, lenV_sl H.h.p, lenV_sl H.h.b, elem_kd H.h.k, elem_pr H.h.p, elem_in H.h.b, view_sl H.h.k, view_sl H.h.p, view_sl H.h.b, scalar_sl H.h.k, scalar_sl H.h.p, scalar_sl H.h.b, cells_sl H.h.k, cells_sl H.h.p, cells_sl H.h.b, pure_sl H.h.k, pure_sl H.h.p, pure_sl H.h.b, Int.toNat_natCast, lenV_sl H.pk, view_sl H.pk, scalar_sl H.pk, cells_sl H.pk, pure_sl H.pk, H.bi.len, H.bi.sc, H.bi.ce, H.bi.pu, H.bi.vw, lenV_sl sk, view_sl sk, scalar_sl sk, cells_sl sk, pure_sl sk, lenV_sl sp, view_sl sp, scalar_sl sp, cells_sl sp, pure_sl sp, lenV_sl sb, view_sl sb, scalar_sl sb, cells_sl sb, pure_sl sb, lenV_sl sq, view_sl sq, scalar_sl sq, cells_sl sq, pure_sl sq, B1, B2, B3, B4, cc, a85, eb, hz', a12, a8, a21, e1, e2, GO_mcall1, hide, t15, gUn, Bool.not_false, Bool.not_true]
set_option maxHeartbeats 4000000 in
theorem n3 (H : FsIn f k p b pv bv w) (x : Bd) (c : Int) : Iso E 3 [frV f k p b pv bv, .agg x.e, I c] false = some (Bo true) := by
  have a13 := fun st => t13 H st
  simp only [frV] at a13
  refine Iso_of (es _ _ _ _) e3 ?_
  rw [body3, tmps3, res3]
  simp only [frV, Bd.e]
  have X := x.is
  cases hr : f.rdy
  · rw [hr] at a13
    simp (disch := first | assumption | omega | (simp only [az]; done)) only [ru, eq_self, if_true, if_false, BEq.rfl, binI, AO.row?, splice, fillL, mmAll, loadV, storeV, zeros, Am.rowAt, Am.part, addOff, Nat.reduceAdd, Nat.reduceMul, Nat.reduceLeDiff, Nat.reduceSub, Nat.reduceLT, Int.reduceEq, Int.reduceLT, Int.reduceLE, Int.reduceGT, Int.reduceGE, Int.reduceAdd, Int.reduceSub, Int.reduceMul, Int.reduceNeg, Int.reduceToNat, reduceCtorEq, reduceIte, fq, sq, f3, lenV_sl H.h.k, lenV_sl H.h.p, lenV_sl H.h.b, elem_kd H.h.k, elem_pr H.h.p, elem_in H.h.b, view_sl H.h.k, view_sl H.h.p, view_sl H.h.b, scalar_sl H.h.k, scalar_sl H.h.p, scalar_sl H.h.b, cells_sl H.h.k, cells_sl H.h.p, cells_sl H.h.b, pure_sl H.h.k, pure_sl H.h.p, pure_sl H.h.b, Int.toNat_natCast, lenV_sl H.pk, view_sl H.pk, scalar_sl H.pk, cells_sl H.pk, pure_sl H.pk, H.bi.len, H.bi.sc, H.bi.ce, H.bi.pu, H.bi.vw, lenV_sl X, view_sl X, scalar_sl X, cells_sl X, pure_sl X, a13, t15, gUn, Bool.not_false]
  rw [hr] at a13
  obtain ⟨K, G, hv⟩ := rdy_ok H hr
  by_cases hl : (x.b.bs.length : Int) > 40
  · simp (disch := first | assumption | omega | (simp only [az]; done)) only [ru, eq_self, if_true, if_false, BEq.rfl, binI, AO.row?, splice, fillL, mmAll, loadV, storeV, zeros, Am.rowAt, Am.part, addOff, Nat.reduceAdd, Nat.reduceMul, Nat.reduceLeDiff, Nat.reduceSub, Nat.reduceLT, Int.reduceEq, Int.reduceLT, Int.reduceLE, Int.reduceGT, Int.reduceGE, Int.reduceAdd, Int.reduceSub, Int.reduceMul, Int.reduceNeg, Int.reduceToNat, reduceCtorEq, reduceIte, fq, sq, f3, lenV_sl H.h.k, lenV_sl H.h.p, lenV_sl H.h.b, elem_kd H.h.k, elem_pr H.h.p, elem_in H.h.b, view_sl H.h.k, view_sl H.h.p, view_sl H.h.b, scalar_sl H.h.k, scalar_sl H.h.p, scalar_sl H.h.b, cells_sl H.h.k, cells_sl H.h.p, cells_sl H.h.b, pure_sl H.h.k, pure_sl H.h.p, pure_sl H.h.b, Int.toNat_natCast, lenV_sl H.pk, view_sl H.pk, scalar_sl H.pk, cells_sl H.pk, pure_sl H.pk, H.bi.len, H.bi.sc, H.bi.ce, H.bi.pu, H.bi.vw, lenV_sl X, view_sl X, scalar_sl X, cells_sl X, pure_sl X, a13, hl, t15, gUn, Bool.not_true, decide_true]
    done
  have nb := K.nb
  have a16 := fun st => t16 K hv st
  have tb := tops_bd G (r := f.r)
  have tl := tl3 K G hv c
  obtain ⟨g, op, o, hr2, fr, gl, lo, hi, hp, ho⟩ := c33 K [.cells [k, I f.h.fl, p, b, pv, I f.d, I f.n, bv] false, .cells [I x.b.u, x.v, I x.b.c] false]
  simp only [List.length_cons, List.length_nil, Nat.zero_add, Nat.reduceAdd, frV] at hr2 gl lo hi ho a16
  have g0 : g[0]? = some (.cells [k, I f.h.fl, p, b, pv, I f.d, I f.n, bv] false) := fr.at rfl
  have g1 : g[1]? = some (.cells [I x.b.u, x.v, I x.b.c] false) := fr.at rfl
  have a34 := fun st => t34 X (by omega) st
  have mop : op < g.length := by omega
  have n0 : ¬ tops f.bids f.r < 0 := by omega
  obtain ⟨T, hT⟩ : ∃ T, T = tops f.bids f.r := ⟨_, rfl⟩
  rw [← hT] at a16 n0 tl
  have tadd : (f.add x.b).rdy = true → ¬ tops (f.add x.b).bids (f.add x.b).r < T := fun h => by
    obtain ⟨w', cin⟩ := cpF_in (f.add x.b)
    have := tops_add (r := f.r) G.bg (rdy_ok cin h).2.1.bg
    rw [hT]; show ¬ tops (f.bids ++ [x.b]) f.r < _; omega
  obtain ⟨C, hC⟩ : ∃ C : AO, C = .cells [hsK f, I f.h.fl, hsP f, hsB f, .ms 1 op 0 f.pk.length, I f.d, I f.n, o] false := ⟨_, rfl⟩
  obtain ⟨h', A2, l2, hp2, k2, k3⟩ := outE_apG2 (eb := 40) (h := g) (X := [C, .tomb]) (p := g.length + 1) (lim := 0) Bi.el Bi.sc (by omega) (by omega) ho (by rw [List.getElem?_append_right (by omega)]; simp) (by omega) (by omega) (by omega) x.b
  simp only [Bi.e] at A2
  have d0 : h'[0]? = some (.cells [k, I f.h.fl, p, b, pv, I f.d, I f.n, bv] false) := by rw [k2 0 (by omega) (by omega) (by omega), at_ap (by omega)]; exact g0
  have dop : h'[op]? = some (.cells (f.pk.flatMap intL) false) := by rw [k2 op (by omega) (by omega) (by omega), at_ap mop]; exact hp
  have dC : h'[g.length]? = some C := by rw [k3 g.length (by omega) (by omega), List.getElem?_append_right (by omega)]; simp
  subst hC
  have hsc : o.scalar = true ∧ o.cells = [o] := by
    rcases ho with ⟨_, rfl⟩ | ⟨_, _, _, rfl, _⟩ <;> exact ⟨rfl, rfl⟩
  have sk : IsSl 2 Kd.e f.h.ks (slV 2 Kd.e f.h.ks) := slV_is
  have sp : IsSl 2 Pr.e f.h.ps (slV 2 Pr.e f.h.ps) := slV_is
  have sb : IsSl 1 intL f.h.bs (slV 1 intL f.h.bs) := slV_is
  have sx : IsSl 1 intL x.b.bs (slV 1 intL x.b.bs) := slV_is
  have aN : ∀ (l : List AO) j, (g ++ l)[g.length + j]? = l[j]? := fun l j => atT
  have a0 : ∀ (l : List AO), (g ++ l)[g.length]? = l[0]? := fun l => atT0
  have sN : ∀ (l : List AO) j x, (g ++ l).set (g.length + j) x = g ++ l.set j x := fun l j x => setT
  have s0 : ∀ (l : List AO) x, (g ++ l).set g.length x = g ++ l.set 0 x := fun l x => setT0
  have b0 : ∀ (l : List AO), (g ++ l)[0]? = some (.cells [k, I f.h.fl, p, b, pv, I f.d, I f.n, bv] false) := fun l => by rw [at_ap (by omega)]; exact g0
  have b1 : ∀ (l : List AO), (g ++ l)[1]? = some (.cells [I x.b.u, x.v, I x.b.c] false) := fun l => by rw [at_ap (by omega)]; exact g1
  obtain ⟨h2, e2⟩ : ∃ h2, h2 = h'.set g.length (.cells [hsK f, I f.h.fl, hsP f, hsB f, .ms 1 op 0 f.pk.length, I f.d, I f.n, .ms 3 (g.length + 1) 0 (f.bids.length + 1)] false) := ⟨_, rfl⟩
  have z0 : h2[0]? = some (.cells [k, I f.h.fl, p, b, pv, I f.d, I f.n, bv] false) := by rw [e2, List.getElem?_set_ne (by omega)]; exact d0
  have zop : h2[op]? = some (.cells (f.pk.flatMap intL) false) := by rw [e2, List.getElem?_set_ne (by omega)]; exact dop
  have zC : h2[g.length]? = some (.cells [hsK f, I f.h.fl, hsP f, hsB f, .ms 1 op 0 f.pk.length, I f.d, I f.n, .ms 3 (g.length + 1) 0 (f.bids.length + 1)] false) := by rw [e2]; exact set_at dC
  have zB : OutE Bi.e 3 0 h2 (.ms 3 (g.length + 1) 0 (f.bids.length + 1)) (f.bids ++ [x.b]) := .inr ⟨by simp, g.length + 1, by omega, by simp, by rw [e2, List.getElem?_set_ne (by omega)]; exact hp2⟩
  have vp : ∀ n : Nat, view false h2 (n + 1) (.ms 1 op 0 f.pk.length) = some (slV 1 intL f.pk) := fun n => viewB zop
  have vb : ∀ n : Nat, view false h2 (n + 1) (.ms 3 (g.length + 1) 0 (f.bids.length + 1)) = some (resB (f.bids ++ [x.b])) := fun n => outB_view zB
  obtain ⟨wa, cin⟩ := cpF_in (f.add x.b)
  have a13o : ∀ st, Iso E 6 [.agg [hsK f, I f.h.fl, hsP f, hsB f, slV 1 intL f.pk, I f.d, I f.n, resB (f.bids ++ [x.b])]] st = some (Bo (f.add x.b).rdy) := fun st => t13 cin st
  obtain ⟨B, hB⟩ : ∃ B, B = resB (f.bids ++ [x.b]) := ⟨_, rfl⟩
  rw [← hB] at a13o
  simp only [← hB] at vb
  have sq' : IsSl 1 intL f.pk (slV 1 intL f.pk) := slV_is
  have B1 : B.scalar = true := by rw [hB]; exact cin.bi.sc
  have B2 : B.cells = [B] := by rw [hB]; exact cin.bi.ce
  have B4 : B.pureV = true := by rw [hB]; exact cin.bi.pu
  cases ho2 : (f.add x.b).rdy
  · rw [ho2] at a13o
    simp (disch := first | assumption | omega | (simp only [az]; done)) only [ru, eq_self, if_true, if_false, BEq.rfl, binI, AO.row?, splice, fillL, mmAll, loadV, storeV, zeros, Am.rowAt, Am.part, addOff, Nat.reduceAdd, Nat.reduceMul, Nat.reduceLeDiff, Nat.reduceSub, Nat.reduceLT, Int.reduceEq, Int.reduceLT, Int.reduceLE, Int.reduceGT, Int.reduceGE, Int.reduceAdd, Int.reduceSub, Int.reduceMul, Int.reduceNeg, Int.reduceToNat, reduceCtorEq, reduceIte, fq, sq, f3, lenV_sl H.h.k, lenV_sl H.h.p, lenV_sl H.h.b, elem_kd H.h.k, elem_pr H.h.p, elem_in H.h.b, view_sl H.h.k, view_sl H.h.p, view_sl H.h.b, scalar_sl H.h.k, scalar_sl H.h.p, scalar_sl H.h.b, cells_sl H.h.k, cells_sl H.h.p, cells_sl H.h.b, pure_sl H.h.k, pure_sl H.h.p, pure_sl H.h.b, Int.toNat_natCast, lenV_sl H.pk, view_sl H.pk, scalar_sl H.pk, cells_sl H.pk, pure_sl H.pk, H.bi.len, H.bi.sc, H.bi.ce, H.bi.pu, H.bi.vw, lenV_sl X, view_sl X, scalar_sl X, cells_sl X, pure_sl X, lenV_sl sk, view_sl sk, scalar_sl sk, cells_sl sk, pure_sl sk, lenV_sl sp, view_sl sp, scalar_sl sp, cells_sl sp, pure_sl sp, lenV_sl sb, view_sl sb, scalar_sl sb, cells_sl sb, pure_sl sb, lenV_sl sx, view_sl sx, scalar_sl sx, cells_sl sx, pure_sl sx, lenV_sl sq', view_sl sq', scalar_sl sq', cells_sl sq', pure_sl sq', B1, B2, B4, a13, hl, a16, n0, gUn, Bool.not_true, decide_false, exOp_call2, hr2, Bool.and_self, hsc.1, hsc.2, List.append_assoc, List.cons_append, List.nil_append, List.length_append, List.length_cons, List.length_nil, Nat.zero_add, Nat.add_assoc, aN, a0, sN, s0, b0, b1, GO_mcall1, hide, a34, exOp_litS, AV.pureV.go, AV.pureV, Bool.and_true, A2, dC, GO_mapp, unhN, unhC, ← e2, zC, z0, vp, vb, a13o]
    exact tl _ _ z0 rfl rfl rfl rfl
  · rw [ho2] at a13o
    have na := tadd ho2
    have a16o : ∀ st, Iso E 8 [.agg [hsK f, I f.h.fl, hsP f, hsB f, slV 1 intL f.pk, I f.d, I f.n, B]] st = some (I (tops (f.add x.b).bids (f.add x.b).r)) := fun st => by rw [hB]; exact t16 (rdy_ok cin ho2).1 (rdy_ok cin ho2).2.2 st
    simp (disch := first | assumption | omega | (simp only [az]; done)) only [ru, eq_self, if_true, if_false, BEq.rfl, binI, AO.row?, splice, fillL, mmAll, loadV, storeV, zeros, Am.rowAt, Am.part, addOff, Nat.reduceAdd, Nat.reduceMul, Nat.reduceLeDiff, Nat.reduceSub, Nat.reduceLT, Int.reduceEq, Int.reduceLT, Int.reduceLE, Int.reduceGT, Int.reduceGE, Int.reduceAdd, Int.reduceSub, Int.reduceMul, Int.reduceNeg, Int.reduceToNat, reduceCtorEq, reduceIte, fq, sq, f3, lenV_sl H.h.k, lenV_sl H.h.p, lenV_sl H.h.b, elem_kd H.h.k, elem_pr H.h.p, elem_in H.h.b, view_sl H.h.k, view_sl H.h.p, view_sl H.h.b, scalar_sl H.h.k, scalar_sl H.h.p, scalar_sl H.h.b, cells_sl H.h.k, cells_sl H.h.p, cells_sl H.h.b, pure_sl H.h.k, pure_sl H.h.p, pure_sl H.h.b, Int.toNat_natCast, lenV_sl H.pk, view_sl H.pk, scalar_sl H.pk, cells_sl H.pk, pure_sl H.pk, H.bi.len, H.bi.sc, H.bi.ce, H.bi.pu, H.bi.vw, lenV_sl X, view_sl X, scalar_sl X, cells_sl X, pure_sl X, lenV_sl sk, view_sl sk, scalar_sl sk, cells_sl sk, pure_sl sk, lenV_sl sp, view_sl sp, scalar_sl sp, cells_sl sp, pure_sl sp, lenV_sl sb, view_sl sb, scalar_sl sb, cells_sl sb, pure_sl sb, lenV_sl sx, view_sl sx, scalar_sl sx, cells_sl sx, pure_sl sx, lenV_sl sq', view_sl sq', scalar_sl sq', cells_sl sq', pure_sl sq', B1, B2, B4, a13, hl, a16, n0, gUn, Bool.not_true, decide_false, exOp_call2, hr2, Bool.and_self, hsc.1, hsc.2, List.append_assoc, List.cons_append, List.nil_append, List.length_append, List.length_cons, List.length_nil, Nat.zero_add, Nat.add_assoc, aN, a0, sN, s0, b0, b1, GO_mcall1, hide, a34, exOp_litS, AV.pureV.go, AV.pureV, Bool.and_true, A2, dC, GO_mapp, unhN, unhC, ← e2, zC, z0, vp, vb, a13o, a16o, na]
    exact tl _ _ z0 rfl rfl rfl rfl
end
end Go.Proofs.Ytfagcnokdnanpaa.S

