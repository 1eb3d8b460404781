/-
The mathematics and the functions, one after another (S2).
-/
import Derived.Test.YtfagcnokdnanpaaGreatS1
import Derived.Test.YtfagcnokdnanpaaGreatAmZ
/-
Copies of fairs; on another day, with another offer, without a buyer, with another packing.
-/
namespace Go.Proofs.YtfagcnokdnanpaaGreat.S
open Go Go.Am Go.Proofs.YtfagcnokdnanpaaGreat.T
set_option maxRecDepth 100000
set_option linter.unusedSimpArgs false
set_option linter.unusedVariables false
def Bi.e (x : Bi) : List AV := [I x.u, slV 1 intL x.bs, I x.c]
theorem Bi.el (x : Bi) : x.e.length = 3 := rfl
theorem Bi.sc (x : Bi) : x.e.all AV.scalar = true := rfl
def resB (L : List Bi) : AV := if L = [] then .nils else slV 3 Bi.e L
theorem resB_in (L : List Bi) : ∃ w, BsIn L (resB L) w := by
  have h : IsSl 3 Bd.e (L.map fun x => (⟨x, slV 1 intL x.bs, slV_is⟩ : Bd)) (resB L) := by
    unfold resB
    split
    · rename_i e; subst e; exact .inr ⟨rfl, rfl⟩
    · refine .inl ?_
      simp only [slV, List.length_map]
      congr 1
      rw [List.flatMap_map]; rfl
  have := BsIn.of h
  rw [List.map_map] at this
  have e : (List.map (Bd.b ∘ fun x => (⟨x, slV 1 intL x.bs, slV_is⟩ : Bd)) L) = L := by
    conv => rhs; rw [← List.map_id L]
    rfl
  rw [e] at this
  exact ⟨_, this⟩
theorem outB_view {b : Nat} {g : List AO} {v : AV} {L : List Bi} (H : OutE Bi.e 3 b g v L) {n : Nat} : Am.view false g (n + 1) v = some (resB L) := by
  unfold resB
  rcases H with ⟨rfl, rfl⟩ | ⟨hne, o, ho, rfl, hc⟩
  · rw [if_pos rfl]; exact view_nils
  · rw [if_neg hne]
    have hr : Am.rowOf g (.ms 3 o 0 L.length) = some (L.flatMap Bi.e) := by
      simp only [Am.rowOf, Am.rowAt, hc, Option.bind_some, AO.row?, List.drop_zero]
      rw [flat_take Bi.el, if_pos (flat_len Bi.el L)]
    have hm : (L.flatMap Bi.e).mapM (view false g n) = some (L.flatMap Bi.e) := mapM_view fun x hx => by
      obtain ⟨y, _, hy⟩ := List.mem_flatMap.1 hx
      simp only [Bi.e, List.mem_cons, List.not_mem_nil, or_false] at hy
      rcases hy with rfl | rfl | rfl
      · exact view_int
      · exact view_cs
      · exact view_int
    simp only [Am.view, hr, hm]; rfl
theorem outE_apG {α : Type} {enc : α → List AV} {esz eb : Nat} (he : ∀ a, (enc a).length = esz) (hs : ∀ a, (enc a).all AV.scalar = true) (heb : 1 ≤ eb) (hb : eb ≤ 1000) {b p : Nat} {h : List AO} {v : AV} {l : List α} {lim : Nat} (H : OutE enc esz b h v l) (hp : h[p]? = some .tomb) (hbp : b ≤ p) (hlim : lim ≤ b) (hl : l.length ≤ 1000000) (x : α) :
    ∃ h', appG false lim p esz eb h v (.cs esz 1 (enc x)) = some (.ms esz p 0 (l.length + 1), h') ∧ h'.length = h.length ∧ h'[p]? = some (.cells ((l ++ [x]).flatMap enc) false) ∧ ∀ j, j < b → h'[j]? = h[j]? := by
  have pl := (List.getElem?_eq_some_iff.1 hp).1
  have hx : (enc x).length = 1 * esz := by rw [he]; omega
  rcases H with ⟨rfl, rfl⟩ | ⟨hne, o, ho, rfl, hc⟩
  · refine ⟨h.set p (.cells (enc x) false), appG_nil (n := 1) (by omega) rfl rfl hx (hs x) (by omega) heb, by simp, ?_, fun j hj => by rw [List.getElem?_set_ne (by omega)]⟩
    rw [List.getElem?_set_self pl]; simp
  · refine ⟨_, appG_ms (n := 1) (by omega) hc (by rw [flat_len he]) rfl rfl hx (hs x) ?_ heb (by omega), by simp, ?_, fun j hj => by rw [List.getElem?_set_ne (by omega), List.getElem?_set_ne (by omega)]⟩
    · have : (l.length + 1) * eb ≤ 1000001 * 1000 := Nat.mul_le_mul (by omega) hb
      omega
    · rw [List.getElem?_set_self (by simpa using pl)]
      simp [List.flatMap_append]
set_option maxHeartbeats 1000000 in
theorem t34 {x : Bi} {v : AV} (V : IsSl 1 intL x.bs v) (hl : x.bs.length ≤ 41) (st : Bool) : Iso E 34 [.agg [I x.u, v, I x.c]] st = some (.agg [I x.u, slV 1 intL x.bs, I x.c]) := by
  obtain ⟨q, x0, x1, hq, A, hx⟩ := cpyQ (eb := 8) (lim := 0) (h := [.cells [I x.u, v, I x.c] false, .cells [I 0, .nils, I 0] false]) (J := []) V intE intSc (by omega) (by omega) (Nat.zero_le _)
  simp only [List.length_cons, List.length_nil, Nat.zero_add, Nat.reduceAdd, apC, apN] at A
  have hr : ∃ r h', R E (.fn 34) [.agg [I x.u, v, I x.c]] [] 0 = some (r, h') ∧ (r = .agg [I x.u, .ms 1 (2 + q) 0 x.bs.length, I x.c] ∧ h'[2 + q]? = some (.cells (x.bs.flatMap intL) false)) := by
    refine R_of (fun r h' => r = .agg [I x.u, .ms 1 (2 + q) 0 x.bs.length, I x.c] ∧ h'[2 + q]? = some (.cells (x.bs.flatMap intL) false)) (es _ _ _ _) e34 ?_
    simp only [f34]
    simp (disch := first | assumption | omega | (simp only [az]; done)) only [ru, eq_self, if_true, if_false, BEq.rfl, binI, AO.row?, splice, fillL, mmAll, loadV, storeV, zeros, Am.rowAt, Am.part, addOff, Nat.reduceAdd, Nat.reduceMul, Nat.reduceLeDiff, Nat.reduceSub, Nat.reduceLT, Int.reduceEq, Int.reduceLT, Int.reduceLE, Int.reduceGT, Int.reduceGE, Int.reduceAdd, Int.reduceSub, Int.reduceMul, Int.reduceNeg, Int.reduceToNat, reduceCtorEq, reduceIte, lenV_sl V, view_sl V, scalar_sl V, cells_sl V, pure_sl V, GO_mapp, unhN, unhC, A, finC, getRes, Option.some.injEq, exists_eq_left']
    match q, hq with
    | 0, _ => simpa using hx
    | 1, _ => simpa using hx
  obtain ⟨r, h', hr, rfl, hc⟩ := hr
  have hv := viewB hc (st := st) (n := 6)
  simp only [Iso, hr]
  show ([I x.u, .ms 1 (2 + q) 0 x.bs.length, I x.c].mapM (Am.view st h' 7)).map AV.agg = _
  simp only [List.mapM_cons, List.mapM_nil, view_int, hv]; rfl
section
variable {f : Fs} {k p b pv bv : AV} {w : Nat → AV}
abbrev hsK (f : Fs) : AV := slV 2 Kd.e f.h.ks
abbrev hsP (f : Fs) : AV := slV 2 Pr.e f.h.ps
abbrev hsB (f : Fs) : AV := slV 1 intL f.h.bs
abbrev cpF (f : Fs) : AV := frV f (hsK f) (hsP f) (hsB f) (slV 1 intL f.pk) (resB f.bids)
theorem cpF_in (f : Fs) : ∃ w, FsIn f (hsK f) (hsP f) (hsB f) (slV 1 intL f.pk) (resB f.bids) w := by
  obtain ⟨w, h⟩ := resB_in f.bids
  exact ⟨w, ⟨⟨slV_is, slV_is, slV_is⟩, slV_is, h⟩⟩
theorem cpF_ok (H : FsOk f k p b pv bv w) : ∃ w, FsOk f (hsK f) (hsP f) (hsB f) (slV 1 intL f.pk) (resB f.bids) w := by
  obtain ⟨w', h⟩ := cpF_in f
  exact ⟨w', h, ⟨h.h, H.ho.nk, H.ho.np, H.ho.nb⟩, H.np, H.nb, H.nw⟩
set_option maxHeartbeats 4000000 in
theorem r33 (H : FsOk f k p b pv bv w) : ∃ J op o, R E (.fn 33) [frV f k p b pv bv] [] 0 = some (.agg [hsK f, I f.h.fl, hsP f, hsB f, .ms 1 op 0 f.pk.length, I f.d, I f.n, o], J) ∧ 5 ≤ J.length ∧ J[op]? = some (.cells (f.pk.flatMap intL) false) ∧ op < 5 ∧ OutE Bi.e 3 5 J o f.bids := by
  have np := H.np; have nb := H.nb
  have ah := fun st => s17 H.ho st
  simp only [hsV, cpV] at ah
  obtain ⟨q, x0, x1, hq, A, hx⟩ := cpyQ (eb := 8) (lim := 0) (h := [.cells [k, I f.h.fl, p, b, pv, I f.d, I f.n, bv] false, .cells [.nils, I 0, .nils, .nils, .nils, I 0, I 0, .nils] false]) (J := [.tomb]) H.pk intE intSc (by omega) (by omega) (Nat.zero_le _)
  simp only [List.length_cons, List.length_nil, Nat.zero_add, Nat.reduceAdd, apC, apN] at A
  refine (fun x => ?_ : (∃ r J, R E (.fn 33) [frV f k p b pv bv] [] 0 = some (r, J) ∧ ∃ o, r = .agg [hsK f, I f.h.fl, hsP f, hsB f, .ms 1 (2 + q) 0 f.pk.length, I f.d, I f.n, o] ∧ 5 ≤ J.length ∧ J[2 + q]? = some (.cells (f.pk.flatMap intL) false) ∧ OutE Bi.e 3 5 J o f.bids) → _) (R_of _ (es _ _ _ _) e33 ?_)
  · obtain ⟨r, J, hr, o, rfl, h0, h1, h2⟩ := x; exact ⟨J, 2 + q, o, hr, h0, h1, by omega, h2⟩
  simp only [f33, frV]
  have sk : IsSl 2 Kd.e f.h.ks (slV 2 Kd.e f.h.ks) := slV_is
  have sp : IsSl 2 Pr.e f.h.ps (slV 2 Pr.e f.h.ps) := slV_is
  have sb : IsSl 1 intL f.h.bs (slV 1 intL f.h.bs) := slV_is
  have hx2 : ([.cells [k, I f.h.fl, p, b, pv, I f.d, I f.n, bv] false, .cells [.nils, I 0, .nils, .nils, .nils, I 0, I 0, .nils] false, x0, x1, .cells [hsK f, I f.h.fl, hsP f, hsB f, .ms 1 (2 + q) 0 f.pk.length, I f.d, I f.n, .nils] false] : List AO)[2 + q]? = some (.cells (f.pk.flatMap intL) false) := by
    match q, hq with
    | 0, _ => simpa using hx
    | 1, _ => simpa using hx
  simp (disch := first | assumption | omega | (simp only [az]; done)) only [ru, eq_self, if_true, if_false, BEq.rfl, binI, AO.row?, splice, fillL, mmAll, loadV, storeV, zeros, Am.rowAt, Am.part, addOff, Nat.reduceAdd, Nat.reduceMul, Nat.reduceLeDiff, Nat.reduceSub, Nat.reduceLT, Int.reduceEq, Int.reduceLT, Int.reduceLE, Int.reduceGT, Int.reduceGE, Int.reduceAdd, Int.reduceSub, Int.reduceMul, Int.reduceNeg, Int.reduceToNat, reduceCtorEq, reduceIte, H.fai, Int.toNat_natCast, lenV_sl sk, view_sl sk, scalar_sl sk, cells_sl sk, pure_sl sk, lenV_sl sp, view_sl sp, scalar_sl sp, cells_sl sp, pure_sl sp, lenV_sl sb, view_sl sb, scalar_sl sb, cells_sl sb, pure_sl sb, Bool.and_self, GO_mapp, GO_mcall1, hide, unhN, unhC, A, ah]
  refine G_loop_ind (fun m ts hk mk => ∃ (i : Nat) (o : AV), i ≤ f.bids.length ∧ m = f.bids.length - i ∧ hk[0]? = some (.cells [k, I f.h.fl, p, b, pv, I f.d, I f.n, bv] false) ∧ hk[1]? = some (.cells [.nils, I 0, .nils, .nils, .nils, I 0, I 0, .nils] false) ∧ hk[2 + q]? = some (.cells (f.pk.flatMap intL) false) ∧ hk[4]? = some (.cells [hsK f, I f.h.fl, hsP f, hsB f, .ms 1 (2 + q) 0 f.pk.length, I f.d, I f.n, o] false) ∧ OutE Bi.e 3 5 hk o (f.bids.take i) ∧ 5 ≤ hk.length ∧
      ts.length = 36 ∧ ts.getD 1 .undef = .ptr 0 0 ∧ ts.getD 2 .undef = .ptr 1 0 ∧ ts.getD 3 .undef = .ptr 4 0 ∧ ts.getD 4 .undef = I i ∧ mk = []) ?_ f.bids.length _ _ _
    ⟨0, .nils, Nat.zero_le _, rfl, rfl, rfl, hx2, rfl, .inl ⟨rfl, rfl⟩, by simp, rfl, rfl, rfl, rfl, rfl, rfl⟩
  rintro m ts hk mk ih ⟨i, o, hi, rfl, c0, c1, cq, c4, ho, hle, hl', q1, q2, q3, q4, rfl⟩
  rw [lit_all hl']
  simp only [lit0, litS, Nat.reduceAdd, q1, q2, q3, q4]
  simp (disch := first | assumption | omega | (simp only [az]; done)) only [ru, eq_self, if_true, if_false, BEq.rfl, binI, AO.row?, splice, fillL, mmAll, loadV, storeV, zeros, Am.rowAt, Am.part, addOff, Nat.reduceAdd, Nat.reduceMul, Nat.reduceLeDiff, Nat.reduceSub, Nat.reduceLT, Int.reduceEq, Int.reduceLT, Int.reduceLE, Int.reduceGT, Int.reduceGE, Int.reduceAdd, Int.reduceSub, Int.reduceMul, Int.reduceNeg, Int.reduceToNat, reduceCtorEq, reduceIte, H.fai, Int.toNat_natCast, c0]
  have hsc : o.scalar = true ∧ o.cells = [o] := by
    rcases ho with ⟨_, rfl⟩ | ⟨_, _, _, rfl, _⟩ <;> exact ⟨rfl, rfl⟩
  by_cases hlt : (i : Int) < f.bids.length
  case neg =>
    obtain rfl : i = f.bids.length := by omega
    rw [List.take_length] at ho
    have l1 := (List.getElem?_eq_some_iff.1 c1).1
    simp (disch := first | assumption | omega | (simp only [az]; done)) only [ru, eq_self, if_true, if_false, BEq.rfl, binI, AO.row?, splice, fillL, mmAll, loadV, storeV, zeros, Am.rowAt, Am.part, addOff, Nat.reduceAdd, Nat.reduceMul, Nat.reduceLeDiff, Nat.reduceSub, Nat.reduceLT, Int.reduceEq, Int.reduceLT, Int.reduceLE, Int.reduceGT, Int.reduceGE, Int.reduceAdd, Int.reduceSub, Int.reduceMul, Int.reduceNeg, Int.reduceToNat, reduceCtorEq, reduceIte, hlt, c1, c4, lenV_sl sk, view_sl sk, scalar_sl sk, cells_sl sk, pure_sl sk, lenV_sl sp, view_sl sp, scalar_sl sp, cells_sl sp, pure_sl sp, lenV_sl sb, view_sl sb, scalar_sl sb, cells_sl sb, pure_sl sb, hsc.1, hsc.2, Bool.and_self, finC, getRes, set_at c1, Option.some.injEq, exists_eq_left']
    refine ⟨o, rfl, by simp; omega, by rw [List.getElem?_set_ne (by omega)]; exact cq, ?_⟩
    rcases ho with ⟨h1, h2⟩ | ⟨h1, oo, h2, h3, h4⟩
    · exact .inl ⟨h1, h2⟩
    · exact .inr ⟨h1, oo, h2, h3, by rw [List.getElem?_set_ne (by omega)]; exact h4⟩
  have hi' : i < f.bids.length := by omega
  have eb := H.bi.el i (by omega) hlt
  obtain ⟨W, lW⟩ := bAt_w H (i := (i : Int)) (by omega) hlt
  have tk := take_snoc (d := default) hi'
  have ex : bAt f.bids i = f.bids.getD i default := by simp [bAt]
  rw [Int.toNat_natCast] at eb W
  rw [← ex] at tk
  obtain ⟨x, hx⟩ : ∃ x, x = bAt f.bids i := ⟨_, rfl⟩
  rw [← hx] at eb W lW tk
  have a3 := fun st => t34 W lW st
  have ho' : OutE Bi.e 3 5 (hk ++ [.tomb]) o (f.bids.take i) := ho.fr (Fr.app hk _)
  obtain ⟨h', A2, l2, hp, k2⟩ := outE_apG (eb := 40) (p := hk.length) (lim := 0) Bi.el Bi.sc (by omega) (by omega) ho' (by simp) hle (by omega) (by rw [List.length_take]; omega) x
  have tl : (f.bids.take i).length = i := by rw [List.length_take]; omega
  rw [tl] at A2
  simp only [Bi.e] at A2
  have m0 : 0 < hk.length := by omega
  have m4 : 4 < hk.length := by omega
  have d4 : h'[4]? = some (.cells [hsK f, I f.h.fl, hsP f, hsB f, .ms 1 (2 + q) 0 f.pk.length, I f.d, I f.n, o] false) := by rw [k2 _ (by omega), at_ap m4]; exact c4
  have sx : IsSl 1 intL x.bs (slV 1 intL x.bs) := slV_is
  simp (disch := first | assumption | omega | (simp only [az]; done)) only [ru, eq_self, if_true, if_false, BEq.rfl, binI, AO.row?, splice, fillL, mmAll, loadV, storeV, zeros, Am.rowAt, Am.part, addOff, Nat.reduceAdd, Nat.reduceMul, Nat.reduceLeDiff, Nat.reduceSub, Nat.reduceLT, Int.reduceEq, Int.reduceLT, Int.reduceLE, Int.reduceGT, Int.reduceGE, Int.reduceAdd, Int.reduceSub, Int.reduceMul, Int.reduceNeg, Int.reduceToNat, reduceCtorEq, reduceIte, H.fai, Int.toNat_natCast, lenV_sl W, view_sl W, scalar_sl W, cells_sl W, pure_sl W, lenV_sl sx, view_sl sx, scalar_sl sx, cells_sl sx, pure_sl sx, hlt, GO_mapp, GO_mcall1, hide, unhN, unhC, at_ap m0, at_ap m4, c0, c4, setE, eb, a3, exOp_litS, AV.pureV.go, AV.pureV, Bool.and_true, A2, d4]
  refine ih (f.bids.length - (i + 1)) _ _ _ (by omega) ⟨i + 1, .ms 3 hk.length 0 (i + 1), by omega, rfl, ?_, ?_, ?_, ?_, ?_, by simp [l2]; omega, rfl, rfl, rfl, rfl, rfl, rfl⟩
  · rw [List.getElem?_set_ne (by omega), k2 _ (by omega), at_ap m0]; exact c0
  · rw [List.getElem?_set_ne (by omega), k2 _ (by omega), at_ap (by omega)]; exact c1
  · rw [List.getElem?_set_ne (by omega), k2 _ (by omega), at_ap (by omega)]; exact cq
  · rw [set_at d4]
  · refine .inr ⟨by rw [tk]; simp, hk.length, by omega, ?_, ?_⟩
    · rw [tk, List.length_append, tl]; rfl
    · rw [List.getElem?_set_ne (by omega), hp, tk]
theorem t33 (H : FsOk f k p b pv bv w) : Iso E 33 [frV f k p b pv bv] false = some (cpF f) := by
  obtain ⟨J, op, o, hr, _, hp, _, ho⟩ := r33 H
  have h1 := viewB hp (st := false) (n := 6)
  have h2 := outB_view ho (n := 6)
  simp only [Iso, hr]
  show ([hsK f, I f.h.fl, hsP f, hsB f, .ms 1 op 0 f.pk.length, I f.d, I f.n, o].mapM (Am.view false J 7)).map AV.agg = _
  simp only [List.mapM_cons, List.mapM_nil, view_int, slV, view_cs, h2]
  simp only [slV] at h1
  simp only [h1]; rfl
end
end Go.Proofs.YtfagcnokdnanpaaGreat.S
/-
Fairs on another day, with another offer, without a buyer.
-/
namespace Go.Proofs.YtfagcnokdnanpaaGreat.S
open Go Go.Am Go.Proofs.YtfagcnokdnanpaaGreat.T
set_option maxRecDepth 100000
set_option linter.unusedSimpArgs false
set_option linter.unusedVariables false
theorem biE_shift (L : List Bi) (n : Nat) : (L.flatMap Bi.e).map (AV.shift n) = L.flatMap Bi.e := by
  induction L with
  | nil => rfl
  | cons a l ih => simp only [List.flatMap_cons, List.map_append, ih]; rfl
theorem OutE.shift {J g : List AO} {o : AV} {L : List Bi} (h : OutE Bi.e 3 5 J o L) : OutE Bi.e 3 (g.length + 5) (g ++ J.map (AO.shift g.length)) (o.shift g.length) L := by
  rcases h with ⟨rfl, rfl⟩ | ⟨hne, oo, ho, rfl, hc⟩
  · exact .inl ⟨rfl, rfl⟩
  · refine .inr ⟨hne, oo + g.length, by omega, rfl, ?_⟩
    rw [List.getElem?_append_right (by omega), Nat.add_sub_cancel, List.getElem?_map, hc]
    simp only [Option.map_some, AO.shift, biE_shift]
def Fs.off (f : Fs) (c p : Int) : Fs := { f with bids := f.bids.set c.toNat { bAt f.bids c with c := p } }
section
variable {f : Fs} {k p b pv bv : AV} {w : Nat → AV}
set_option maxHeartbeats 1000000 in
theorem t93 (H : FsOk f k p b pv bv w) (d : Int) : Iso E 93 [frV f k p b pv bv, I d] false = some (cpF (f.on f.pk d)) := by
  have a := t33 H
  obtain ⟨w', cin⟩ := cpF_in f
  simp only [frV] at a
  refine Iso_of (es _ _ _ _) e93 ?_
  simp only [f93]
  simp (disch := first | assumption | omega | (simp only [az]; done)) only [ru, eq_self, if_true, if_false, BEq.rfl, binI, AO.row?, splice, fillL, mmAll, loadV, storeV, zeros, Am.rowAt, Am.part, addOff, Nat.reduceAdd, Nat.reduceMul, Nat.reduceLeDiff, Nat.reduceSub, Nat.reduceLT, Int.reduceEq, Int.reduceLT, Int.reduceLE, Int.reduceGT, Int.reduceGE, Int.reduceAdd, Int.reduceSub, Int.reduceMul, Int.reduceNeg, Int.reduceToNat, reduceCtorEq, reduceIte, H.fai, Int.toNat_natCast, cin.fai, Int.toNat_natCast, a, finC, getRes, Option.some.injEq, exists_eq_left']
  rfl
end
end Go.Proofs.YtfagcnokdnanpaaGreat.S
/-
Fairs without a buyer.
-/
namespace Go.Proofs.YtfagcnokdnanpaaGreat.S
open Go Go.Am Go.Proofs.YtfagcnokdnanpaaGreat.T
set_option maxRecDepth 100000
set_option linter.unusedSimpArgs false
set_option linter.unusedVariables false
section
variable {f : Fs} {k p b pv bv : AV} {w : Nat → AV}
end
end Go.Proofs.YtfagcnokdnanpaaGreat.S
/-
The inputs of the laws of stage 9, as the abstract machine has them.
-/
namespace Go.Proofs.YtfagcnokdnanpaaGreat.S
open Go Go.Am Go.Proofs.YtfagcnokdnanpaaGreat.T
set_option linter.unusedVariables false
set_option maxRecDepth 100000
theorem z3 : Tryz.prog.cellsOf 3 = 1 := by kernel_rfl
theorem z22 : Tryz.prog.cellsOf 22 = 1 := by kernel_rfl
theorem z23 : Tryz.prog.cellsOf 23 = 1 := by kernel_rfl
theorem z24 : Tryz.prog.cellsOf 24 = 1 := by kernel_rfl
theorem z26 : Tryz.prog.cellsOf 26 = 4 := by kernel_rfl
theorem z101 : Tryz.prog.cellsOf 101 = 2 := by kernel_rfl
theorem z99 : Tryz.prog.cellsOf 99 = 2 := by kernel_rfl
theorem wfIc {d : Nat} {c : List AV} (h : WfC Tryz.prog (d + 1) 3 c) : ∃ i, c = [I i] ∧ True := by
  obtain ⟨i, e, hw⟩ := wf_int Tryz.underlying3 h
  exact ⟨i, e, trivial⟩
theorem wfI {d : Nat} {a : AV} (h : WfC Tryz.prog (d + 1) 3 [a]) : ∃ i, a = I i ∧ True := by
  obtain ⟨i, e, _⟩ := wfIc h
  simp only [List.cons.injEq, and_true] at e
  exact ⟨i, e, trivial⟩
theorem wfKd {d : Nat} {c : List AV} (h : WfC Tryz.prog (d + 2) 99 c) : ∃ s : Kd, c = s.e ∧ True := by
  obtain ⟨hl, hf⟩ := wf_struct Tryz.underlying99 h
  rw [z99] at hl
  match c, hl with
  | [x, y], _ =>
    have h0 : WfC Tryz.prog (d + 1) 3 (([x, y].drop 0).take (Tryz.prog.cellsOf 3)) := hf 0 _ rfl
    have h1 : WfC Tryz.prog (d + 1) 3 (([x, y].drop 1).take (Tryz.prog.cellsOf 3)) := hf 1 _ rfl
    rw [z3] at h0 h1
    obtain ⟨i, rfl, _⟩ := wfI (show WfC Tryz.prog (d + 1) 3 [x] from h0)
    obtain ⟨j, rfl, _⟩ := wfI (show WfC Tryz.prog (d + 1) 3 [y] from h1)
    exact ⟨⟨i, j⟩, rfl, trivial⟩
theorem wfPr {d : Nat} {c : List AV} (h : WfC Tryz.prog (d + 2) 101 c) : ∃ s : Pr, c = s.e ∧ True := by
  obtain ⟨hl, hf⟩ := wf_struct Tryz.underlying101 h
  rw [z101] at hl
  match c, hl with
  | [x, y], _ =>
    have h0 : WfC Tryz.prog (d + 1) 3 (([x, y].drop 0).take (Tryz.prog.cellsOf 3)) := hf 0 _ rfl
    have h1 : WfC Tryz.prog (d + 1) 3 (([x, y].drop 1).take (Tryz.prog.cellsOf 3)) := hf 1 _ rfl
    rw [z3] at h0 h1
    obtain ⟨i, rfl, _⟩ := wfI (show WfC Tryz.prog (d + 1) 3 [x] from h0)
    obtain ⟨j, rfl, _⟩ := wfI (show WfC Tryz.prog (d + 1) 3 [y] from h1)
    exact ⟨⟨i, j⟩, rfl, trivial⟩
theorem wfNums {d : Nat} {c : List AV} (h : WfC Tryz.prog (d + 2) 24 c) : ∃ (l : List Int) (v : AV), c = [v] ∧ IsSl 1 intL l v := by
  obtain ⟨l, v, e, iv, _⟩ := wf_sl (d := d + 1) (enc := intL) (p := fun _ => True) Tryz.underlying24 z3 (fun c hc => wfIc hc) h
  exact ⟨l, v, e, iv⟩
theorem wfHouse {d : Nat} {c : List AV} (h : WfC Tryz.prog (d + 4) 26 c) : ∃ (s : Hs) (k p b : AV), AV.agg c = hsV s.fl k p b ∧ HsIn s k p b := by
  obtain ⟨hl, hf⟩ := wf_struct Tryz.underlying26 h
  rw [z26] at hl
  match c, hl with
  | [x, y, z, u], _ =>
    have h0 : WfC Tryz.prog (d + 3) 22 (([x, y, z, u].drop 0).take (Tryz.prog.cellsOf 22)) := hf 0 _ rfl
    have h1 : WfC Tryz.prog (d + 3) 3 (([x, y, z, u].drop 1).take (Tryz.prog.cellsOf 3)) := hf 1 _ rfl
    have h2 : WfC Tryz.prog (d + 3) 23 (([x, y, z, u].drop 2).take (Tryz.prog.cellsOf 23)) := hf 2 _ rfl
    have h3 : WfC Tryz.prog (d + 3) 24 (([x, y, z, u].drop 3).take (Tryz.prog.cellsOf 24)) := hf 3 _ rfl
    rw [z22] at h0
    rw [z3] at h1
    rw [z23] at h2
    rw [z24] at h3
    obtain ⟨lk, k, e0, ik, _⟩ := wf_sl (d := d + 2) (enc := Kd.e) (p := fun _ => True) Tryz.underlying22 z99 (fun c hc => wfKd hc) (show WfC Tryz.prog (d + 3) 22 [x] from h0)
    obtain ⟨i, rfl, _⟩ := wfI (show WfC Tryz.prog (d + 2 + 1) 3 [y] from h1)
    obtain ⟨lp, p, e2, ip, _⟩ := wf_sl (d := d + 2) (enc := Pr.e) (p := fun _ => True) Tryz.underlying23 z101 (fun c hc => wfPr hc) (show WfC Tryz.prog (d + 3) 23 [z] from h2)
    obtain ⟨lb, b, e3, ib⟩ := wfNums (d := d + 1) (show WfC Tryz.prog (d + 3) 24 [u] from h3)
    simp only [List.cons.injEq, and_true] at e0 e2 e3
    subst e0; subst e2; subst e3
    exact ⟨⟨lk, i, lp, lb⟩, x, z, u, rfl, ⟨ik, ip, ib⟩⟩
theorem zBD : Tryz.prog.cellsOf 48 = 3 := by kernel_rfl
theorem zFA : Tryz.prog.cellsOf 29 = 8 := by kernel_rfl
theorem zBS : Tryz.prog.cellsOf 27 = 1 := by kernel_rfl
theorem wfBid {d : Nat} {c : List AV} (h : WfC Tryz.prog (d + 3) 48 c) : ∃ s : Bd, c = s.e ∧ True := by
  obtain ⟨hl, hf⟩ := wf_struct Tryz.underlying48 h
  rw [zBD] at hl
  match c, hl with
  | [x, y, z], _ =>
    have h0 : WfC Tryz.prog (d + 2) 3 (([x, y, z].drop 0).take (Tryz.prog.cellsOf 3)) := hf 0 _ rfl
    have h1 : WfC Tryz.prog (d + 2) 24 (([x, y, z].drop 1).take (Tryz.prog.cellsOf 24)) := hf 1 _ rfl
    have h2 : WfC Tryz.prog (d + 2) 3 (([x, y, z].drop 2).take (Tryz.prog.cellsOf 3)) := hf 2 _ rfl
    rw [z3] at h0 h2
    rw [z24] at h1
    obtain ⟨i, rfl, _⟩ := wfI (show WfC Tryz.prog (d + 1 + 1) 3 [x] from h0)
    obtain ⟨l, v, e, iv⟩ := wfNums (show WfC Tryz.prog (d + 2) 24 [y] from h1)
    obtain ⟨j, rfl, _⟩ := wfI (show WfC Tryz.prog (d + 1 + 1) 3 [z] from h2)
    simp only [List.cons.injEq, and_true] at e
    subst e
    exact ⟨⟨⟨i, l, j⟩, y, iv⟩, rfl, trivial⟩
theorem wfFair {d : Nat} {c : List AV} (h : WfC Tryz.prog (d + 5) 29 c) : ∃ (s : Fs) (k p b pv bv : AV) (w : Nat → AV), AV.agg c = frV s k p b pv bv ∧ FsIn s k p b pv bv w := by
  obtain ⟨hl, hf⟩ := wf_struct Tryz.underlying29 h
  rw [zFA] at hl
  match c, hl with
  | [x0, x1, x2, x3, x4, x5, x6, x7], _ =>
    have h0 : WfC Tryz.prog (d + 4) 26 (([x0, x1, x2, x3, x4, x5, x6, x7].drop 0).take (Tryz.prog.cellsOf 26)) := hf 0 _ rfl
    have h1 : WfC Tryz.prog (d + 4) 24 (([x0, x1, x2, x3, x4, x5, x6, x7].drop 4).take (Tryz.prog.cellsOf 24)) := hf 1 _ rfl
    have h2 : WfC Tryz.prog (d + 4) 3 (([x0, x1, x2, x3, x4, x5, x6, x7].drop 5).take (Tryz.prog.cellsOf 3)) := hf 2 _ rfl
    have h3 : WfC Tryz.prog (d + 4) 3 (([x0, x1, x2, x3, x4, x5, x6, x7].drop 6).take (Tryz.prog.cellsOf 3)) := hf 3 _ rfl
    have h4 : WfC Tryz.prog (d + 4) 27 (([x0, x1, x2, x3, x4, x5, x6, x7].drop 7).take (Tryz.prog.cellsOf 27)) := hf 4 _ rfl
    rw [z26] at h0
    rw [z24] at h1
    rw [z3] at h2 h3
    rw [zBS] at h4
    obtain ⟨hs, k, p, b, e0, ih⟩ := wfHouse (d := d) (show WfC Tryz.prog (d + 4) 26 [x0, x1, x2, x3] from h0)
    obtain ⟨lp, pv, e1, ip⟩ := wfNums (d := d + 2) (show WfC Tryz.prog (d + 4) 24 [x4] from h1)
    obtain ⟨i, rfl, _⟩ := wfI (show WfC Tryz.prog (d + 3 + 1) 3 [x5] from h2)
    obtain ⟨j, rfl, _⟩ := wfI (show WfC Tryz.prog (d + 3 + 1) 3 [x6] from h3)
    obtain ⟨lb, bv, e4, ib, _⟩ := wf_sl (d := d + 3) (enc := Bd.e) (p := fun _ => True) Tryz.underlying27 zBD (fun c hc => wfBid hc) (show WfC Tryz.prog (d + 4) 27 [x7] from h4)
    simp only [List.cons.injEq, and_true, AV.agg.injEq] at e0 e1 e4
    obtain ⟨rfl, rfl, rfl, rfl⟩ := e0
    subst e1; subst e4
    exact ⟨⟨hs, lp, i, j, lb.map Bd.b⟩, x0, x2, x3, x4, x7, _, rfl, ⟨ih, ip, BsIn.of ib⟩⟩
theorem own : ownKnob Tryz.prog.godebug = none := by kernel_rfl
theorem laidOut : laidOutB Tryz.prog = true := by kernel_rfl
def fairW : Value := .agg #[.slice none 0 0, .int .i64 0, .slice none 0 0, .slice none 0 0, .slice none 0 0, .int .i64 0, .int .i64 0, .slice none 0 0]
end Go.Proofs.YtfagcnokdnanpaaGreat.S
/-
The chapter's examples.
-/
namespace Go.Proofs.YtfagcnokdnanpaaGreat.S
open Go Go.Am Go.Proofs.YtfagcnokdnanpaaGreat.T
set_option maxRecDepth 100000
set_option linter.unusedSimpArgs false
set_option linter.unusedVariables false
def exF : Fs := ⟨⟨[⟨3, 10⟩, ⟨5, 4⟩], 2, [⟨0, 10⟩, ⟨0, 15⟩, ⟨1, 8⟩], [40, 20]⟩, [0, 0, 1], 10, 3, [⟨0, [0], 30⟩, ⟨1, [0, 1], 45⟩, ⟨2, [1], 12⟩, ⟨0, [1], 20⟩]⟩
def exG : Fs := exF.on exF.pk 5
theorem exF_ok : ∃ w, FsOk exF (hsK exF) (hsP exF) (hsB exF) (slV 1 intL exF.pk) (resB exF.bids) w := by
  obtain ⟨w, h⟩ := cpF_in exF
  refine ⟨w, h, ⟨h.h, by decide, by decide, by decide⟩, by decide, by decide, ?_⟩
  intro i hi
  have : ∀ i : Fin 4, (exF.bids.getD i default).bs.length ≤ 41 := by decide
  exact this ⟨i, hi⟩
theorem exG_ok : ∃ w, FsOk exG (hsK exG) (hsP exG) (hsB exG) (slV 1 intL exG.pk) (resB exG.bids) w := by
  obtain ⟨w, h⟩ := exF_ok
  exact ⟨w, h.on slV_is h.np 5⟩
theorem xv : exF.valid = true ∧ exG.valid = true := by decide +kernel
theorem x40 : idx (fun i => exG.r i) 4 = [1] := by decide +kernel
theorem x44 : tops exF.bids exF.r = 45 := by decide +kernel
theorem x46 : bV (bsT exF.bids (fun _ => true) (allS exF.r exF.bids)) = slV 1 intL [1] := by
  have : bsT exF.bids (fun _ => true) (allS exF.r exF.bids) = ([1], 45) := by decide +kernel
  rw [this]; rfl
theorem x25 : payF exF.bids exF.r 1 = 42 := by decide +kernel
theorem x49 : needE exF.bids exF.r 0 = false ∧ needF exF.bids exF.r 0 = 33 := by decide +kernel
theorem x55 : (fsB (fun d => tops exF.bids (rdF exF.h exF.pk d)) 21).1 = 10 := by decide +kernel
abbrev exV (d : Int) : AV := .agg [.cs 2 2 [I 3, I 10, I 5, I 4], I 2, .cs 2 3 [I 0, I 10, I 0, I 15, I 1, I 8], .cs 1 2 [I 40, I 20], .cs 1 3 [I 0, I 0, I 1], I d, I 3, .cs 3 4 [I 0, .cs 1 1 [I 0], I 30, I 1, .cs 1 2 [I 0, I 1], I 45, I 2, .cs 1 1 [I 1], I 12, I 0, .cs 1 1 [I 1], I 20]]
set_option maxHeartbeats 1000000 in
theorem t60 : Iso E 60 [] false = some (.tup [exV 10, exV 5]) := by
  obtain ⟨w, H⟩ := exF_ok
  have a : Iso E 93 [exV 10, I 5] false = some (exV 5) := t93 H 5
  refine Iso_of (es _ _ _ _) e60 ?_
  simp only [f60]
  simp only [exV] at a ⊢
  simp (disch := first | assumption | omega | (simp only [az]; done)) only [ru, eq_self, if_true, if_false, BEq.rfl, binI, AO.row?, splice, fillL, mmAll, loadV, storeV, zeros, Am.rowAt, Am.part, addOff, Nat.reduceAdd, Nat.reduceMul, Nat.reduceLeDiff, Nat.reduceSub, Nat.reduceLT, Int.reduceEq, Int.reduceLT, Int.reduceLE, Int.reduceGT, Int.reduceGE, Int.reduceAdd, Int.reduceSub, Int.reduceMul, Int.reduceNeg, Int.reduceToNat, reduceCtorEq, reduceIte, exOp_litS, AV.pureV.go, AV.pureV, Bool.and_true, List.append_assoc, List.cons_append, List.nil_append, a, Bool.and_self]
  refine finG (vs := [exV 10, exV 5]) ?_ |>.mpr ?_
  · rfl
  · simp only [view_tup, List.mapM_cons, List.mapM_nil]; rfl
set_option maxHeartbeats 1000000 in
theorem t15 (st : Bool) : Iso E 15 [] st = some (Bo true) := by
  obtain ⟨w, H⟩ := exF_ok
  obtain ⟨w', H'⟩ := exG_ok
  have a0 := t60
  have a1 := fun st => t40 H' st
  have a2 := fun st => t44 H st
  have a3 := t46 H
  have a4 := fun st => t25 H 1 st
  have a5 := fun st => t49 H 0 st
  have a6 := fun st => t55 H st
  have k1 : inR 1 0 (exF.n - 1) = true := by decide
  have k2 : inR 0 0 (exF.bids.length - 1) = true := by decide
  simp only [xv.1, xv.2, x40, x44, x46, x25, x49.1, x49.2, x55, fE_t, if_true, askF, k1, k2, and_self, Bool.false_eq_true, if_false] at a1 a2 a3 a4 a5 a6
  have r1 : resL [1] = .cs 1 1 [I 1] := rfl
  have r2 : slV 1 intL [1] = .cs 1 1 [I 1] := rfl
  rw [r1] at a1
  rw [r2] at a3
  have b1 : ∀ st, Iso E 40 [exV 5] st = some (.tup [.cs 1 1 [I 1], I 0]) := a1
  have b2 : ∀ st, Iso E 44 [exV 10] st = some (.tup [I 45, I 0]) := a2
  have b3 : Iso E 46 [exV 10] false = some (.tup [.cs 1 1 [I 1], I 0]) := a3
  have b4 : ∀ st, Iso E 25 [exV 10, I 1] st = some (.tup [I 42, I 0]) := a4
  have b5 : ∀ st, Iso E 49 [exV 10, I 0] st = some (.tup [I 33, I 0]) := a5
  have b6 : ∀ st, Iso E 55 [exV 10] st = some (.tup [I 10, I 0]) := a6
  have b7 : ∀ st, Iso E 35 [.cs 1 1 [I 1], .cs 1 1 [I 1]] st = some (Bo true) := fun st => s28 (l := [1]) (.inl rfl) (.inl rfl) (by decide) st
  simp only [exV] at a0 b1 b2 b3 b4 b5 b6
  refine Iso_of (es _ _ _ _) e15 ?_
  simp only [f15]
  simp (disch := first | assumption | omega | (simp only [az]; done)) only [ru, eq_self, if_true, if_false, BEq.rfl, binI, AO.row?, splice, fillL, mmAll, loadV, storeV, zeros, Am.rowAt, Am.part, addOff, Nat.reduceAdd, Nat.reduceMul, Nat.reduceLeDiff, Nat.reduceSub, Nat.reduceLT, Int.reduceEq, Int.reduceLT, Int.reduceLE, Int.reduceGT, Int.reduceGE, Int.reduceAdd, Int.reduceSub, Int.reduceMul, Int.reduceNeg, Int.reduceToNat, reduceCtorEq, reduceIte, a0, b1, b2, b3, b4, b5, b6, b7, exOp_litS, AV.pureV.go, AV.pureV, Bool.and_true, gUn, Bool.and_self]
  done
end Go.Proofs.YtfagcnokdnanpaaGreat.S
/-
Sales as lists with conditions on pairs; their order; what the best come to.
-/
namespace Go.Proofs.YtfagcnokdnanpaaGreat.S
set_option linter.unusedVariables false
set_option linter.unusedSimpArgs false
theorem bAt_set {L : List Bi} {c : Int} {b : Bi} (c0 : 0 ≤ c) (hc : c < L.length) {x : Int} (x0 : 0 ≤ x) : bAt (L.set c.toNat b) x = if x = c then b else bAt L x := by
  simp only [bAt, List.getD_eq_getElem?_getD, List.getElem?_set]
  by_cases h : x = c
  · subst h
    rw [if_pos rfl, if_pos (by omega), if_pos rfl]; rfl
  · rw [if_neg (by omega), if_neg h]
theorem pw_flatMap {α β : Type} {R : β → β → Prop} {f : α → List β} : ∀ {l : List α}, (∀ a ∈ l, (f a).Pairwise R) → l.Pairwise (fun a b => ∀ x ∈ f a, ∀ y ∈ f b, R x y) → (l.flatMap f).Pairwise R
  | [], _, _ => List.Pairwise.nil
  | a :: l, h1, h2 => by
    obtain ⟨p1, p2⟩ := List.pairwise_cons.1 h2
    rw [List.flatMap_cons, List.pairwise_append]
    refine ⟨h1 a (by simp), pw_flatMap (fun b hb => h1 b (by simp [hb])) p2, fun x hx y hy => ?_⟩
    obtain ⟨b, hb, hy⟩ := List.mem_flatMap.1 hy
    exact p1 b hb x hx y hy
section
variable {L : List Bi} {n : Int} {nb : Nat} {r : Int → Bool}
end
end Go.Proofs.YtfagcnokdnanpaaGreat.S
