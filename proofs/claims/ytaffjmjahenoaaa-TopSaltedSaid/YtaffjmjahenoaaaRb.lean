/-
Houses whose parts weigh what a list says; which needs less.
-/
import Derived.Test.YtaffjmjahenoaaaRa
namespace Go.Proofs.Ytaffjmjahenoaaa.A
open Go Go.Am Go.Proofs.Ytaffjmjahenoaaa.T
set_option maxRecDepth 100000
set_option linter.unusedSimpArgs false
set_option linter.unusedVariables false

theorem flat_put {l : List Pr} {i : Nat} (hi : i < l.length) (x : Pr) : (l.flatMap Pr.e).take (i * 2) ++ (x.e ++ (l.flatMap Pr.e).drop (i * 2 + 2)) = (l.set i x).flatMap Pr.e := by
  have := fl_put (k := 2) (x := x.e) rfl (L := l.map Pr.e) (i := i) (by intro r hr; obtain ⟨q, _, rfl⟩ := List.mem_map.1 hr; rfl) (by simpa using hi)
  rw [← List.map_set] at this
  simpa only [List.flatMap_def] using this
theorem pr_get {l : List Pr} {i : Nat} (hi : i < l.length) : ((l.flatMap Pr.e).drop (i * 2)).take 2 = [I (l.getD i default).k, I (l.getD i default).p] := by
  have := fl_get (k := 2) (L := l.map Pr.e) (i := i) (by intro r hr; obtain ⟨q, _, rfl⟩ := List.mem_map.1 hr; rfl) (by simpa using hi)
  rw [List.getD_eq_getElem?_getD, List.getElem?_map, List.getElem?_eq_getElem hi, Option.map_some, Option.getD_some] at this
  rw [List.getD_eq_getElem?_getD, List.getElem?_eq_getElem hi, Option.getD_some, List.flatMap_def]
  exact this
section
variable {h o : Hs} {k p b k' p' b' : AV}
set_option maxHeartbeats 4000000 in
theorem sLaid (H : HsOk h k p b) {ws : List Int} {w : AV} (V : IsSl 1 intL ws w) (hl : ws.length ≤ 1000) (st : Bool) : Iso E 12 [hsV h.fl k p b, w] st = some (cpV (h.ly ws)) := by
  have c2 : ∀ {lim : Nat} {pl : Option Nat} {ρ : Opd → AV} {h : List AO} {f : Nat} {args : List Opd}, exOp (R E) lim pl ρ h (.call 2 f args) = C2 E f (args.map ρ) h := exOp_call2
  obtain ⟨ok, op, ob, g, C, fr, lk, CP⟩ := c17 H [.cells [k, I h.fl, p, b] false, .cells [.nils, I 0, .nils, .nils] false]
  simp only [List.length_cons, List.length_nil, Nat.zero_add, Nat.reduceAdd, hsV] at lk C
  have x1 := CP.n1; have x2 := CP.n2
  have g1' := fr.at (j := 1) rfl
  have lg := (List.getElem?_eq_some_iff.1 CP.b).1
  have np := H.np
  obtain ⟨h1, eh1⟩ : ∃ h1, h1 = g ++ [AO.cells [msK h ok, I h.fl, msP h op, msB h ob] false] := ⟨_, rfl⟩
  have b1 : h1[1]? = some (.cells [.nils, I 0, .nils, .nils] false) := by rw [eh1, at_ap (by omega)]; exact g1'
  have b3 : h1[g.length]? = some (.cells [msK h ok, I h.fl, msP h op, msB h ob] false) := by rw [eh1]; exact atE
  have bk : h1[ok]? = some (.cells (h.ks.flatMap Kd.e) false) := by rw [eh1, at_ap (by omega)]; exact CP.k
  have bp : h1[op]? = some (.cells (h.ps.flatMap Pr.e) false) := by rw [eh1, at_ap (by omega)]; exact CP.p
  have bb : h1[ob]? = some (.cells (h.bs.flatMap intL) false) := by rw [eh1, at_ap lg]; exact CP.b
  clear fr CP g1'
  refine Iso_of (es _ _ _ _) e12 ?_
  simp only [f12, hsV]
  simp (disch := first | assumption | omega | (simp only [az]; done)) only [ru, eq_self, if_true, if_false, BEq.rfl, binI, AO.row?, splice, fillL, mmAll, loadV, storeV, zeros, Am.rowAt, Am.part, addOff, Nat.reduceAdd, Nat.reduceMul, Nat.reduceLeDiff, Nat.reduceSub, Nat.reduceLT, Int.reduceEq, Int.reduceLT, Int.reduceLE, Int.reduceGT, Int.reduceGE, Int.reduceAdd, Int.reduceSub, Int.reduceMul, Int.reduceNeg, Int.reduceToNat, reduceCtorEq, reduceIte, lenV_sl H.k, lenV_sl H.p, lenV_sl H.b, elem_kd H.k, elem_pr H.p, elem_in H.b, view_sl H.k, view_sl H.p, view_sl H.b, scalar_sl H.k, scalar_sl H.p, scalar_sl H.b, cells_sl H.k, cells_sl H.p, cells_sl H.b, pure_sl H.k, pure_sl H.p, pure_sl H.b, Int.toNat_natCast, lenV_sl V, elem_in V, view_sl V, scalar_sl V, cells_sl V, pure_sl V, Int.toNat_natCast, c2, C, ← eh1]
  refine G_loop_ind (fun m ts hh mk => ∃ i : Nat, i ≤ h.ps.length ∧ i ≤ ws.length ∧ m = h.ps.length - i ∧ hh[1]? = some (.cells [.nils, I 0, .nils, .nils] false) ∧ hh[g.length]? = some (.cells [msK h ok, I h.fl, msP h op, msB h ob] false) ∧ hh[ok]? = some (.cells (h.ks.flatMap Kd.e) false) ∧ hh[op]? = some (.cells ((lay h.ps (ws.take i)).flatMap Pr.e) false) ∧ hh[ob]? = some (.cells (h.bs.flatMap intL) false) ∧ ts.length = 39 ∧ ts.getD 1 .undef = w ∧ ts.getD 4 .undef = .ptr 1 0 ∧ ts.getD 5 .undef = .ptr g.length 0 ∧ ts.getD 6 .undef = I i ∧ mk = []) ?_ h.ps.length _ _ _ ?_
  rotate_left
  · exact ⟨0, Nat.zero_le _, Nat.zero_le _, rfl, b1, b3, bk, by rw [List.take_zero, lay_nil]; exact bp, bb, rfl, rfl, rfl, rfl, rfl, rfl⟩
  clear b1 b3 bk bp bb
  rintro m ts hh mk ih ⟨i, hi', hj', rfl, b1, b3, bk, bp, bb, hl', q1, q4, q5, q6, rfl⟩
  rw [lit_all hl']
  simp only [lit0, litS, Nat.reduceAdd, q1, q4, q5, q6]
  simp (disch := first | assumption | omega | (simp only [az]; done)) only [ru, eq_self, if_true, if_false, BEq.rfl, binI, AO.row?, splice, fillL, mmAll, loadV, storeV, zeros, Am.rowAt, Am.part, addOff, Nat.reduceAdd, Nat.reduceMul, Nat.reduceLeDiff, Nat.reduceSub, Nat.reduceLT, Int.reduceEq, Int.reduceLT, Int.reduceLE, Int.reduceGT, Int.reduceGE, Int.reduceAdd, Int.reduceSub, Int.reduceMul, Int.reduceNeg, Int.reduceToNat, reduceCtorEq, reduceIte, lenV_sl H.k, lenV_sl H.p, lenV_sl H.b, elem_kd H.k, elem_pr H.p, elem_in H.b, view_sl H.k, view_sl H.p, view_sl H.b, scalar_sl H.k, scalar_sl H.p, scalar_sl H.b, cells_sl H.k, cells_sl H.p, cells_sl H.b, pure_sl H.k, pure_sl H.p, pure_sl H.b, Int.toNat_natCast, lenV_sl V, elem_in V, view_sl V, scalar_sl V, cells_sl V, pure_sl V, Int.toNat_natCast, b3]
  by_cases hlt : (i : Int) < h.ps.length ∧ (i : Int) < ws.length
  case pos =>
    obtain ⟨hlt, hlw⟩ := hlt
    have hi2 : i < h.ps.length := by omega
    have tl : (ws.take i).length = i := by rw [List.length_take]; omega
    have fl := flat_len Pr.el (lay h.ps (ws.take i))
    rw [lay_len] at fl
    have ip := lay_snoc (ps := h.ps) (ws := ws.take i) (w := ws.getD i 0) (by rw [tl]; exact hi2)
    rw [tl] at ip
    have tk : ws.take i ++ [ws.getD i 0] = ws.take (i + 1) := by
      have : i < ws.length := by omega
      rw [List.take_add_one, List.getElem?_eq_getElem this, List.getD_eq_getElem?_getD, List.getElem?_eq_getElem this]; rfl
    rw [tk] at ip
    have ip := (flat_put (l := lay h.ps (ws.take i)) (i := i) (by rw [lay_len]; exact hi2) ⟨(h.ps.getD i default).k, ws.getD i 0⟩).trans (by rw [ip])
    have eg := pr_get (l := lay h.ps (ws.take i)) (i := i) (by rw [lay_len]; exact hi2)
    rw [lay_at (by rw [tl]; exact Nat.le_refl _)] at eg
    have i0 : (0 : Int) ≤ i := by omega
    have fit : i * 2 + 2 ≤ h.ps.length * 2 := by omega
    obtain ⟨CB, hCB⟩ : ∃ c, c = (lay h.ps (ws.take i)).flatMap Pr.e := ⟨_, rfl⟩
    obtain ⟨CN, hCN⟩ : ∃ c, c = (lay h.ps (ws.take (i + 1))).flatMap Pr.e := ⟨_, rfl⟩
    rw [← hCB, ← hCN] at ip
    rw [← hCB] at bp fl eg
    obtain ⟨q, hq⟩ : ∃ q, q = h.ps.getD i default := ⟨_, rfl⟩
    rw [← hq] at ip eg
    have ew := elem_sl (enc := intL) intE V (i : Int) (by omega) (by omega)
    simp only [Int.toNat_natCast] at ew
    obtain ⟨v, hv⟩ : ∃ v, v = ws.getD i 0 := ⟨_, rfl⟩
    have hv' : ws.getD i default = v := by rw [hv]; rfl
    rw [← hv] at ip
    rw [hv'] at ew
    simp only [Pr.e, intL] at ip ew
    have lo1 := (List.getElem?_eq_some_iff.1 bp).1
    have lo3 := (List.getElem?_eq_some_iff.1 b3).1
    have j3 : ∀ Z : AO, (hh ++ [Z])[g.length]? = some (.cells [msK h ok, I h.fl, msP h op, msB h ob] false) := fun Z => by rw [at_ap lo3]; exact b3
    have jp : ∀ Z : AO, (hh ++ [Z])[op]? = some (.cells CB false) := fun Z => by rw [at_ap lo1]; exact bp
    have lo2 := (List.getElem?_eq_some_iff.1 bk).1
    have lo4 := (List.getElem?_eq_some_iff.1 bb).1
    have lo5 := (List.getElem?_eq_some_iff.1 b1).1
    simp (disch := first | assumption | omega | (simp only [az]; done)) only [ru, eq_self, if_true, if_false, BEq.rfl, binI, AO.row?, splice, fillL, mmAll, loadV, storeV, zeros, Am.rowAt, Am.part, addOff, Nat.reduceAdd, Nat.reduceMul, Nat.reduceLeDiff, Nat.reduceSub, Nat.reduceLT, Int.reduceEq, Int.reduceLT, Int.reduceLE, Int.reduceGT, Int.reduceGE, Int.reduceAdd, Int.reduceSub, Int.reduceMul, Int.reduceNeg, Int.reduceToNat, reduceCtorEq, reduceIte, lenV_sl H.k, lenV_sl H.p, lenV_sl H.b, elem_kd H.k, elem_pr H.p, elem_in H.b, view_sl H.k, view_sl H.p, view_sl H.b, scalar_sl H.k, scalar_sl H.p, scalar_sl H.b, cells_sl H.k, cells_sl H.p, cells_sl H.b, pure_sl H.k, pure_sl H.p, pure_sl H.b, Int.toNat_natCast, lenV_sl V, elem_in V, view_sl V, scalar_sl V, cells_sl V, pure_sl V, Int.toNat_natCast, hlt, hlw, b3, bp, j3, jp, i0, ew, eg, fl, fit, atE, setE, lenE, Nat.zero_add, decide_true]
    refine ih (h.ps.length - (i + 1)) _ _ _ (by omega) ⟨i + 1, by omega, by omega, rfl, set_of (by rw [at_ap lo5]; exact b1) (by omega), set_of (j3 _) (by omega), set_of (by rw [at_ap lo2]; exact bk) (by omega), ?_, set_of (by rw [at_ap lo4]; exact bb) (by omega), rfl, rfl, rfl, rfl, rfl, rfl⟩
    rw [← hCN, ← ip]
    refine (set_at (jp _)).trans ?_
    simp
    rw [hv, List.getD_eq_getElem?_getD]
  have fin : lay h.ps (ws.take i) = lay h.ps ws := by
    by_cases c : i = h.ps.length
    · rw [c, lay_take]
    · have : i = ws.length := by omega
      rw [this, List.take_length]
  rw [fin] at bp
  have vK := fun (G : List AO) n (e : G[ok]? = _) => viewK (l := h.ks) e (st := st) (n := n)
  have vP := fun (G : List AO) n (e : G[op]? = _) => viewP (l := lay h.ps ws) e (st := st) (n := n)
  have vB := fun (G : List AO) n (e : G[ob]? = _) => viewB (l := h.bs) e (st := st) (n := n)
  rw [lay_len] at vP
  have vw : ∀ X n, view st (hh.set 1 X) (n + 2) (hsV h.fl (msK h ok) (msP h op) (msB h ob)) = some (cpV (h.ly ws)) := by
    intro X n
    show ([msK h ok, I h.fl, msP h op, msB h ob].mapM (Am.view st (hh.set 1 X) (n + 1))).map AV.agg = _
    simp only [List.mapM_cons, List.mapM_nil, view_int, vK _ n (set_of (i := 1) (x := X) bk (by omega)), vP _ n (set_of (i := 1) (x := X) bp (by omega)), vB _ n (set_of (i := 1) (x := X) bb (by omega))]
    rfl
  by_cases h1 : (i : Int) < h.ps.length
  · have h2 : ¬ (i : Int) < ws.length := fun h2 => hlt ⟨h1, h2⟩
    simp (disch := first | assumption | omega | (simp only [az]; done)) only [ru, eq_self, if_true, if_false, BEq.rfl, binI, AO.row?, splice, fillL, mmAll, loadV, storeV, zeros, Am.rowAt, Am.part, addOff, Nat.reduceAdd, Nat.reduceMul, Nat.reduceLeDiff, Nat.reduceSub, Nat.reduceLT, Int.reduceEq, Int.reduceLT, Int.reduceLE, Int.reduceGT, Int.reduceGE, Int.reduceAdd, Int.reduceSub, Int.reduceMul, Int.reduceNeg, Int.reduceToNat, reduceCtorEq, reduceIte, lenV_sl H.k, lenV_sl H.p, lenV_sl H.b, elem_kd H.k, elem_pr H.p, elem_in H.b, view_sl H.k, view_sl H.p, view_sl H.b, scalar_sl H.k, scalar_sl H.p, scalar_sl H.b, cells_sl H.k, cells_sl H.p, cells_sl H.b, pure_sl H.k, pure_sl H.p, pure_sl H.b, Int.toNat_natCast, lenV_sl V, elem_in V, view_sl V, scalar_sl V, cells_sl V, pure_sl V, Int.toNat_natCast, h1, h2, b1, b3, decide_false, decide_true, finC, getRes, set_at b1, Option.some.injEq, exists_eq_left', vw _ 6]
  · simp (disch := first | assumption | omega | (simp only [az]; done)) only [ru, eq_self, if_true, if_false, BEq.rfl, binI, AO.row?, splice, fillL, mmAll, loadV, storeV, zeros, Am.rowAt, Am.part, addOff, Nat.reduceAdd, Nat.reduceMul, Nat.reduceLeDiff, Nat.reduceSub, Nat.reduceLT, Int.reduceEq, Int.reduceLT, Int.reduceLE, Int.reduceGT, Int.reduceGE, Int.reduceAdd, Int.reduceSub, Int.reduceMul, Int.reduceNeg, Int.reduceToNat, reduceCtorEq, reduceIte, lenV_sl H.k, lenV_sl H.p, lenV_sl H.b, elem_kd H.k, elem_pr H.p, elem_in H.b, view_sl H.k, view_sl H.p, view_sl H.b, scalar_sl H.k, scalar_sl H.p, scalar_sl H.b, cells_sl H.k, cells_sl H.p, cells_sl H.b, pure_sl H.k, pure_sl H.p, pure_sl H.b, Int.toNat_natCast, lenV_sl V, elem_in V, view_sl V, scalar_sl V, cells_sl V, pure_sl V, Int.toNat_natCast, h1, b1, b3, decide_false, decide_true, finC, getRes, set_at b1, Option.some.injEq, exists_eq_left', vw _ 6]
set_option maxHeartbeats 4000000 in
theorem sLighter (H : HsOk h k p b) (H' : HsOk o k' p' b') (G : HG h) (Go : HG o) (L : Li h o) : Iso E 11 [hsV h.fl k p b, hsV o.fl k' p' b'] false = some (Bo true) := by
  have a1 := s30 H false
  have a2 := s30 H' false
  have a3 := s34 H false
  have a4 := s34 H' false
  have a5 := s44 H false
  have a6 := s44 H' false
  have hv := valid_iff.2 G
  have hvo := valid_iff.2 Go
  have hb := L.buy G Go
  have hl := L.lsf G Go
  have hn := L.ne G Go
  rw [show buyV h = .tup [I (buyA h), I (buyE h)] from rfl] at a5
  rw [show buyV o = .tup [I (buyA o), I (buyE o)] from rfl] at a6
  simp only [hsV, ansN, askE, hv, hvo, if_true] at a1 a2 a3 a4 a5 a6
  generalize buyA h = x1 at *
  generalize buyA o = x2 at *
  generalize buyE h = x3 at *
  generalize buyE o = x4 at *
  generalize lsf h.sa h.pk = y1 at *
  generalize lsf o.sa o.pk = y2 at *
  generalize lsf h.us h.pk = z1 at *
  generalize lsf o.us o.pk = z2 at *
  refine Iso_of (es _ _ _ _) e11 ?_
  simp only [f11, hsV]
  have e3 : ¬ (3 : Int) = 0 := by decide
  by_cases hp : o.pk = []
  · simp only [hp, if_true, e3, if_false] at a2 a4
    by_cases hq : h.pk = []
    · simp only [hq, if_true, e3, if_false] at a1 a3
      by_cases hx : x4 = 0
      · obtain ⟨rfl, t2, t3⟩ := hb hx
        subst hx
        have t3' : x1 ≥ 0 := t3
        simp (disch := first | assumption | omega | (simp only [az]; done)) only [ru, eq_self, if_true, if_false, BEq.rfl, binI, AO.row?, splice, fillL, mmAll, loadV, storeV, zeros, Am.rowAt, Am.part, addOff, Nat.reduceAdd, Nat.reduceMul, Nat.reduceLeDiff, Nat.reduceSub, Nat.reduceLT, Int.reduceEq, Int.reduceLT, Int.reduceLE, Int.reduceGT, Int.reduceGE, Int.reduceAdd, Int.reduceSub, Int.reduceMul, Int.reduceNeg, Int.reduceToNat, reduceCtorEq, reduceIte, lenV_sl H.k, lenV_sl H.p, lenV_sl H.b, elem_kd H.k, elem_pr H.p, elem_in H.b, view_sl H.k, view_sl H.p, view_sl H.b, scalar_sl H.k, scalar_sl H.p, scalar_sl H.b, cells_sl H.k, cells_sl H.p, cells_sl H.b, pure_sl H.k, pure_sl H.p, pure_sl H.b, Int.toNat_natCast, lenV_sl H'.k, lenV_sl H'.p, lenV_sl H'.b, elem_kd H'.k, elem_pr H'.p, elem_in H'.b, view_sl H'.k, view_sl H'.p, view_sl H'.b, scalar_sl H'.k, scalar_sl H'.p, scalar_sl H'.b, cells_sl H'.k, cells_sl H'.p, cells_sl H'.b, pure_sl H'.k, pure_sl H'.p, pure_sl H'.b, Int.toNat_natCast, a1, a2, a3, a4, a5, a6, gUn, t2, t3', decide_true, decide_false, Bool.not_true, Bool.not_false]
        done
      · simp (disch := first | assumption | omega | (simp only [az]; done)) only [ru, eq_self, if_true, if_false, BEq.rfl, binI, AO.row?, splice, fillL, mmAll, loadV, storeV, zeros, Am.rowAt, Am.part, addOff, Nat.reduceAdd, Nat.reduceMul, Nat.reduceLeDiff, Nat.reduceSub, Nat.reduceLT, Int.reduceEq, Int.reduceLT, Int.reduceLE, Int.reduceGT, Int.reduceGE, Int.reduceAdd, Int.reduceSub, Int.reduceMul, Int.reduceNeg, Int.reduceToNat, reduceCtorEq, reduceIte, lenV_sl H.k, lenV_sl H.p, lenV_sl H.b, elem_kd H.k, elem_pr H.p, elem_in H.b, view_sl H.k, view_sl H.p, view_sl H.b, scalar_sl H.k, scalar_sl H.p, scalar_sl H.b, cells_sl H.k, cells_sl H.p, cells_sl H.b, pure_sl H.k, pure_sl H.p, pure_sl H.b, Int.toNat_natCast, lenV_sl H'.k, lenV_sl H'.p, lenV_sl H'.b, elem_kd H'.k, elem_pr H'.p, elem_in H'.b, view_sl H'.k, view_sl H'.p, view_sl H'.b, scalar_sl H'.k, scalar_sl H'.p, scalar_sl H'.b, cells_sl H'.k, cells_sl H'.p, cells_sl H'.b, pure_sl H'.k, pure_sl H'.p, pure_sl H'.b, Int.toNat_natCast, a1, a2, a3, a4, a5, a6, gUn, hx, decide_true, decide_false, Bool.not_true, Bool.not_false]
        done
    · simp only [hq, if_true, if_false] at a1 a3
      by_cases hx : x4 = 0
      · obtain ⟨rfl, t2, t3⟩ := hb hx
        subst hx
        have t3' : x1 ≥ 0 := t3
        simp (disch := first | assumption | omega | (simp only [az]; done)) only [ru, eq_self, if_true, if_false, BEq.rfl, binI, AO.row?, splice, fillL, mmAll, loadV, storeV, zeros, Am.rowAt, Am.part, addOff, Nat.reduceAdd, Nat.reduceMul, Nat.reduceLeDiff, Nat.reduceSub, Nat.reduceLT, Int.reduceEq, Int.reduceLT, Int.reduceLE, Int.reduceGT, Int.reduceGE, Int.reduceAdd, Int.reduceSub, Int.reduceMul, Int.reduceNeg, Int.reduceToNat, reduceCtorEq, reduceIte, lenV_sl H.k, lenV_sl H.p, lenV_sl H.b, elem_kd H.k, elem_pr H.p, elem_in H.b, view_sl H.k, view_sl H.p, view_sl H.b, scalar_sl H.k, scalar_sl H.p, scalar_sl H.b, cells_sl H.k, cells_sl H.p, cells_sl H.b, pure_sl H.k, pure_sl H.p, pure_sl H.b, Int.toNat_natCast, lenV_sl H'.k, lenV_sl H'.p, lenV_sl H'.b, elem_kd H'.k, elem_pr H'.p, elem_in H'.b, view_sl H'.k, view_sl H'.p, view_sl H'.b, scalar_sl H'.k, scalar_sl H'.p, scalar_sl H'.b, cells_sl H'.k, cells_sl H'.p, cells_sl H'.b, pure_sl H'.k, pure_sl H'.p, pure_sl H'.b, Int.toNat_natCast, a1, a2, a3, a4, a5, a6, gUn, t2, t3', decide_true, decide_false, Bool.not_true, Bool.not_false]
        done
      · simp (disch := first | assumption | omega | (simp only [az]; done)) only [ru, eq_self, if_true, if_false, BEq.rfl, binI, AO.row?, splice, fillL, mmAll, loadV, storeV, zeros, Am.rowAt, Am.part, addOff, Nat.reduceAdd, Nat.reduceMul, Nat.reduceLeDiff, Nat.reduceSub, Nat.reduceLT, Int.reduceEq, Int.reduceLT, Int.reduceLE, Int.reduceGT, Int.reduceGE, Int.reduceAdd, Int.reduceSub, Int.reduceMul, Int.reduceNeg, Int.reduceToNat, reduceCtorEq, reduceIte, lenV_sl H.k, lenV_sl H.p, lenV_sl H.b, elem_kd H.k, elem_pr H.p, elem_in H.b, view_sl H.k, view_sl H.p, view_sl H.b, scalar_sl H.k, scalar_sl H.p, scalar_sl H.b, cells_sl H.k, cells_sl H.p, cells_sl H.b, pure_sl H.k, pure_sl H.p, pure_sl H.b, Int.toNat_natCast, lenV_sl H'.k, lenV_sl H'.p, lenV_sl H'.b, elem_kd H'.k, elem_pr H'.p, elem_in H'.b, view_sl H'.k, view_sl H'.p, view_sl H'.b, scalar_sl H'.k, scalar_sl H'.p, scalar_sl H'.b, cells_sl H'.k, cells_sl H'.p, cells_sl H'.b, pure_sl H'.k, pure_sl H'.p, pure_sl H'.b, Int.toNat_natCast, a1, a2, a3, a4, a5, a6, gUn, hx, decide_true, decide_false, Bool.not_true, Bool.not_false]
        done
  · have hq := hn hp
    obtain ⟨l1, l2, l3, l4⟩ := hl hp
    have l3' : y1 ≥ 0 := l3
    have l4' : z1 ≥ 0 := l4
    simp only [hp, if_true, if_false] at a2 a4
    simp only [hq, if_true, if_false] at a1 a3
    by_cases hx : x4 = 0
    · obtain ⟨rfl, t2, t3⟩ := hb hx
      subst hx
      have t3' : x1 ≥ 0 := t3
      simp (disch := first | assumption | omega | (simp only [az]; done)) only [ru, eq_self, if_true, if_false, BEq.rfl, binI, AO.row?, splice, fillL, mmAll, loadV, storeV, zeros, Am.rowAt, Am.part, addOff, Nat.reduceAdd, Nat.reduceMul, Nat.reduceLeDiff, Nat.reduceSub, Nat.reduceLT, Int.reduceEq, Int.reduceLT, Int.reduceLE, Int.reduceGT, Int.reduceGE, Int.reduceAdd, Int.reduceSub, Int.reduceMul, Int.reduceNeg, Int.reduceToNat, reduceCtorEq, reduceIte, lenV_sl H.k, lenV_sl H.p, lenV_sl H.b, elem_kd H.k, elem_pr H.p, elem_in H.b, view_sl H.k, view_sl H.p, view_sl H.b, scalar_sl H.k, scalar_sl H.p, scalar_sl H.b, cells_sl H.k, cells_sl H.p, cells_sl H.b, pure_sl H.k, pure_sl H.p, pure_sl H.b, Int.toNat_natCast, lenV_sl H'.k, lenV_sl H'.p, lenV_sl H'.b, elem_kd H'.k, elem_pr H'.p, elem_in H'.b, view_sl H'.k, view_sl H'.p, view_sl H'.b, scalar_sl H'.k, scalar_sl H'.p, scalar_sl H'.b, cells_sl H'.k, cells_sl H'.p, cells_sl H'.b, pure_sl H'.k, pure_sl H'.p, pure_sl H'.b, Int.toNat_natCast, a1, a2, a3, a4, a5, a6, gUn, l1, l2, l3', l4', t2, t3', decide_true, decide_false, Bool.not_true, Bool.not_false]
      done
    · simp (disch := first | assumption | omega | (simp only [az]; done)) only [ru, eq_self, if_true, if_false, BEq.rfl, binI, AO.row?, splice, fillL, mmAll, loadV, storeV, zeros, Am.rowAt, Am.part, addOff, Nat.reduceAdd, Nat.reduceMul, Nat.reduceLeDiff, Nat.reduceSub, Nat.reduceLT, Int.reduceEq, Int.reduceLT, Int.reduceLE, Int.reduceGT, Int.reduceGE, Int.reduceAdd, Int.reduceSub, Int.reduceMul, Int.reduceNeg, Int.reduceToNat, reduceCtorEq, reduceIte, lenV_sl H.k, lenV_sl H.p, lenV_sl H.b, elem_kd H.k, elem_pr H.p, elem_in H.b, view_sl H.k, view_sl H.p, view_sl H.b, scalar_sl H.k, scalar_sl H.p, scalar_sl H.b, cells_sl H.k, cells_sl H.p, cells_sl H.b, pure_sl H.k, pure_sl H.p, pure_sl H.b, Int.toNat_natCast, lenV_sl H'.k, lenV_sl H'.p, lenV_sl H'.b, elem_kd H'.k, elem_pr H'.p, elem_in H'.b, view_sl H'.k, view_sl H'.p, view_sl H'.b, scalar_sl H'.k, scalar_sl H'.p, scalar_sl H'.b, cells_sl H'.k, cells_sl H'.p, cells_sl H'.b, pure_sl H'.k, pure_sl H'.p, pure_sl H'.b, Int.toNat_natCast, a1, a2, a3, a4, a5, a6, gUn, l1, l2, l3', l4', hx, decide_true, decide_false, Bool.not_true, Bool.not_false]
      done
end
end Go.Proofs.Ytaffjmjahenoaaa.A
