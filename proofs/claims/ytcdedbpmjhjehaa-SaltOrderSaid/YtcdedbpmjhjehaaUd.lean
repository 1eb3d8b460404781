/-
SaltOrder: the law.
-/
import Derived.Test.YtcdedbpmjhjehaaUc
namespace Go.Proofs.Ytcdedbpmjhjehaa.S
open Go Go.Am Go.Proofs.Ytcdedbpmjhjehaa.T
set_option maxRecDepth 100000
set_option linter.unusedSimpArgs false
set_option linter.unusedVariables false

/-- from a place on, and round -/
def rotL {α : Type} (l : List α) (d : α) (r i : Nat) : List α := ((List.range i).map fun j => l.getD ((j + r) % l.length) d) ++ l.drop i
theorem rotL_zero {α : Type} {l : List α} {d : α} {r : Nat} : rotL l d r 0 = l := by simp [rotL]
theorem rotL_len {α : Type} {l : List α} {d : α} {r i : Nat} (hi : i ≤ l.length) : (rotL l d r i).length = l.length := by
  unfold rotL; rw [List.length_append, List.length_map, List.length_range, List.length_drop]; omega
theorem rotL_set {α : Type} {l : List α} {d : α} {r i : Nat} (hi : i < l.length) : (rotL l d r i).set i (l.getD ((i + r) % l.length) d) = rotL l d r (i + 1) := by
  unfold rotL
  have ll : ((List.range i).map fun j => l.getD ((j + r) % l.length) d).length = i := by simp
  rw [List.set_append_right _ _ (by rw [ll]; exact Nat.le_refl _), ll, Nat.sub_self, List.drop_eq_getElem_cons hi, List.set_cons_zero, List.range_succ, List.map_append, List.append_assoc]
  rfl
theorem rotL_all {α : Type} {l : List α} {d : α} {r : Nat} (hl : 0 < l.length) : rotL l d r l.length = l.drop (r % l.length) ++ l.take (r % l.length) := by
  unfold rotL
  rw [List.drop_length, List.append_nil]
  have hr := Nat.mod_lt r hl
  refine List.ext_getElem (by simp; omega) fun j h1 h2 => ?_
  have hj : j < l.length := by simpa using h1
  simp only [List.getElem_map, List.getElem_range]
  have em : (j + r) % l.length = (j + r % l.length) % l.length := by rw [Nat.add_mod_mod]
  by_cases hc : j + r % l.length < l.length
  · rw [List.getElem_append_left (by rw [List.length_drop]; omega), List.getElem_drop, em, Nat.mod_eq_of_lt hc, List.getD_eq_getElem?_getD, List.getElem?_eq_getElem hc]
    simp only [Option.getD_some, Nat.add_comm]
  · have e2 : (j + r % l.length) % l.length = j + r % l.length - l.length := by
      rw [Nat.mod_eq_sub_mod (by omega), Nat.mod_eq_of_lt (by omega)]
    have l2 : j + r % l.length - l.length < l.length := by omega
    rw [List.getElem_append_right (by rw [List.length_drop]; omega), List.getElem_take, em, e2, List.getD_eq_getElem?_getD, List.getElem?_eq_getElem l2]
    simp only [Option.getD_some, List.length_drop]
    congr 1
    omega
theorem rot_cut {α : Type} (l : List α) (d : α) (r : Nat) : ∃ A B, l = A ++ B ∧ rotL l d r l.length = B ++ A := by
  by_cases h : l.length = 0
  · have : l = [] := List.eq_nil_of_length_eq_zero h
    subst this
    exact ⟨[], [], rfl, rfl⟩
  · exact ⟨l.take (r % l.length), l.drop (r % l.length), (List.take_append_drop _ _).symm, rotL_all (by omega)⟩
section
variable {h : Hs} {k p b : AV}
def Hs.od (h : Hs) (ps : List Pr) (bs : List Int) : Hs := { h with ps := ps, bs := bs }
theorem tr_od {C D : List Pr} {A B T : List Int} (hp : h.ps = C ++ D) (hb : h.bs = A ++ B ++ T) : Tr h (h.od (D ++ C) (B ++ A ++ T)) ∧ Tr (h.od (D ++ C) (B ++ A ++ T)) h := by
  constructor
  · have t1 := tr_bs hb
    have t2 := tr_ps (h := { h with bs := B ++ A ++ T }) (C := C) (D := D) hp
    exact t1.trans t2
  · have t1 := tr_bs (h := h.od (D ++ C) (B ++ A ++ T)) (A := B) (B := A) (T := T) rfl
    have t2 := tr_ps (h := { h.od (D ++ C) (B ++ A ++ T) with bs := A ++ B ++ T }) (C := D) (D := C) rfl
    have := t1.trans t2
    have e : ({ { h.od (D ++ C) (B ++ A ++ T) with bs := A ++ B ++ T } with ps := C ++ D } : Hs) = h := by
      rw [← hp, ← hb]; rfl
    rw [e] at this
    exact this
theorem od_G (G : HG h) {ps : List Pr} {bs : List Int} (hp : ps.Perm h.ps) (hb : bs.Perm h.bs) : HG (h.od ps bs) where
  nk := G.nk
  np := by show ps.length ≤ 6; rw [hp.length_eq]; exact G.np
  nb := by show bs.length ≤ 4; rw [hb.length_eq]; exact G.nb
  g := G.g
  q := by
    have key : ∀ q ∈ h.ps, (0 ≤ q.k ∧ q.k < h.ks.length) ∧ 0 ≤ q.p ∧ q.p ≤ 40 := fun q hq => by
      obtain ⟨i, hi, rfl⟩ := mem_getD (d := default) hq
      exact G.q i hi
    intro j hj
    have hj : j < ps.length := hj
    have hm : ps.getD j default ∈ ps := by
      rw [List.getD_eq_getElem?_getD, List.getElem?_eq_getElem hj]; exact List.getElem_mem hj
    exact key _ (hp.mem_iff.1 hm)
  b := by
    have key : ∀ v ∈ h.bs, 0 ≤ v ∧ v ≤ 99 := fun v hv => by
      obtain ⟨i, hi, rfl⟩ := mem_getD (d := 0) hv
      exact G.b i hi
    intro j hj
    exact key _ (hb.mem_iff.1 (getD_memI hj))
theorem find_congr {α : Type} {p q : α → Bool} : ∀ {l : List α}, (∀ x ∈ l, p x = q x) → l.find? p = l.find? q
  | [], _ => rfl
  | a :: l, h => by
    rw [List.find?_cons, List.find?_cons, h a (by simp), find_congr fun x hx => h x (by simp [hx])]
theorem askE_eq {v q : Bool} {l m : List (List Int)} (h : l ≠ [] ↔ m ≠ []) : askE v q m = askE v q l := by
  unfold askE
  by_cases hl : l = []
  · have hm : m = [] := Decidable.not_not.1 fun hm => h.2 hm hl
    rw [if_pos hl, if_pos hm]
  · rw [if_neg hl, if_neg (h.1 hl)]
theorem buy_od {C D : List Pr} {A B : List Int} (G : HG h) (hp : h.ps = C ++ D) (hb : h.bs = A ++ B) : buyV (h.od (D ++ C) (B ++ A)) = buyV h := by
  have pp : (D ++ C).Perm h.ps := by rw [hp]; exact List.perm_append_comm
  have pb : (B ++ A).Perm h.bs := by rw [hb]; exact List.perm_append_comm
  have Go := od_G G pp pb
  have hv := valid_iff.2 G
  have hvo := valid_iff.2 Go
  obtain ⟨t1, t2⟩ := tr_od (h := h) (T := []) hp (by rw [List.append_nil]; exact hb)
  rw [List.append_nil] at t1 t2
  obtain ⟨ne, _⟩ := Tr.eq G Go t1 t2
  have el : (h.od (D ++ C) (B ++ A)).bs.length = h.bs.length := pb.length_eq
  by_cases h4 : h.bs.length = 4
  · unfold buyV buyE
    rw [hv, hvo, el]
    simp only [h4, Bool.true_and, if_true, ne_eq, not_true_eq_false, decide_false, Bool.and_false, Bool.false_eq_true, if_false]
    by_cases hn : h.pk = []
    · have hm : (h.od (D ++ C) (B ++ A)).pk = [] := Decidable.not_not.1 fun hm => ne.2 hm hn
      simp only [hn, hm]
    · have hm := ne.1 hn
      have hn' : h.pk ≠ [] := hn
      simp only [hn, hm]
  · have nb := G.nb
    have fe : buyF (h.od (D ++ C) (B ++ A)) 100 = buyF h 100 := by
      unfold buyF
      refine find_congr fun s hs => ?_
      have hs := List.mem_range.1 hs
      rw [decide_eq_decide]
      have Gm := more_G G (by omega) (s := (s : Int)) (by omega)
      have Gm' := more_G Go (by rw [el]; omega) (s := (s : Int)) (by omega)
      obtain ⟨u1, u2⟩ := tr_od (h := h.more s) (C := C) (D := D) (A := A) (B := B) (T := [(s : Int)]) hp (by show h.bs ++ [(s : Int)] = _; rw [hb])
      exact (Tr.eq Gm Gm' u1 u2).1.symm
    unfold buyV buyE buyN
    rw [hv, hvo, el, fe]
    by_cases hn : h.pk = []
    · have hm : (h.od (D ++ C) (B ++ A)).pk = [] := Decidable.not_not.1 fun hm => ne.2 hm hn
      simp only [hn, hm]
    · have hm := ne.1 hn
      have hn' : h.pk ≠ [] := hn
      rw [decide_eq_false hm, decide_eq_false hn', if_pos rfl, if_pos rfl, if_pos hm, if_pos hn']
theorem flat_put {l : List Pr} {i : Nat} (hi : i < l.length) (x : Pr) : (l.flatMap Pr.e).take (i * 2) ++ (x.e ++ (l.flatMap Pr.e).drop (i * 2 + 2)) = (l.set i x).flatMap Pr.e := by
  have := fl_put (k := 2) (x := x.e) rfl (L := l.map Pr.e) (i := i) (by intro r hr; obtain ⟨q, _, rfl⟩ := List.mem_map.1 hr; rfl) (by simpa using hi)
  rw [← List.map_set] at this
  simpa only [List.flatMap_def] using this
set_option maxHeartbeats 8000000 in
theorem s11 (H0 : HsIn h k p b) (w x y z : Int) : Iso E 11 [hsV h.fl k p b, .agg [I w, I x, I y, I z]] false = some (Bo true) := by
  have a0 := fun st => s46 H0 st
  simp only [hsV] at a0
  refine Iso_of (es _ _ _ _) e11 ?_
  simp only [f11, hsV]
  cases hr : h.rdy
  · simp (disch := first | assumption | omega | (simp only [az]; done)) only [ru, eq_self, if_true, if_false, BEq.rfl, binI, AO.row?, splice, fillL, mmAll, loadV, storeV, zeros, Am.rowAt, Am.part, addOff, Nat.reduceAdd, Nat.reduceMul, Nat.reduceLeDiff, Nat.reduceSub, Nat.reduceLT, Int.reduceEq, Int.reduceLT, Int.reduceLE, Int.reduceGT, Int.reduceGE, Int.reduceAdd, Int.reduceSub, Int.reduceMul, Int.reduceNeg, Int.reduceToNat, reduceCtorEq, reduceIte, lenV_sl H0.k, lenV_sl H0.p, lenV_sl H0.b, elem_kd H0.k, elem_pr H0.p, elem_in H0.b, view_sl H0.k, view_sl H0.p, view_sl H0.b, scalar_sl H0.k, scalar_sl H0.p, scalar_sl H0.b, cells_sl H0.k, cells_sl H0.p, cells_sl H0.b, pure_sl H0.k, pure_sl H0.p, pure_sl H0.b, Int.toNat_natCast, a0, hr, s16, gUn, Bool.not_false]
  obtain ⟨lo, hlo⟩ : ∃ lo, lo = mmx false w x := ⟨_, rfl⟩
  obtain ⟨hi, hhi⟩ : ∃ hi, hi = mmx true w x := ⟨_, rfl⟩
  by_cases g1 : lo < 0
  · simp (disch := first | assumption | omega | (simp only [az]; done)) only [ru, eq_self, if_true, if_false, BEq.rfl, binI, AO.row?, splice, fillL, mmAll, loadV, storeV, zeros, Am.rowAt, Am.part, addOff, Nat.reduceAdd, Nat.reduceMul, Nat.reduceLeDiff, Nat.reduceSub, Nat.reduceLT, Int.reduceEq, Int.reduceLT, Int.reduceLE, Int.reduceGT, Int.reduceGE, Int.reduceAdd, Int.reduceSub, Int.reduceMul, Int.reduceNeg, Int.reduceToNat, reduceCtorEq, reduceIte, lenV_sl H0.k, lenV_sl H0.p, lenV_sl H0.b, elem_kd H0.k, elem_pr H0.p, elem_in H0.b, view_sl H0.k, view_sl H0.p, view_sl H0.b, scalar_sl H0.k, scalar_sl H0.p, scalar_sl H0.b, cells_sl H0.k, cells_sl H0.p, cells_sl H0.b, pure_sl H0.k, pure_sl H0.p, pure_sl H0.b, Int.toNat_natCast, a0, hr, ← hlo, g1, s16, gUn, Bool.not_true, Bool.not_false, decide_true]
    done
  by_cases g2 : hi > 100
  · simp (disch := first | assumption | omega | (simp only [az]; done)) only [ru, eq_self, if_true, if_false, BEq.rfl, binI, AO.row?, splice, fillL, mmAll, loadV, storeV, zeros, Am.rowAt, Am.part, addOff, Nat.reduceAdd, Nat.reduceMul, Nat.reduceLeDiff, Nat.reduceSub, Nat.reduceLT, Int.reduceEq, Int.reduceLT, Int.reduceLE, Int.reduceGT, Int.reduceGE, Int.reduceAdd, Int.reduceSub, Int.reduceMul, Int.reduceNeg, Int.reduceToNat, reduceCtorEq, reduceIte, lenV_sl H0.k, lenV_sl H0.p, lenV_sl H0.b, elem_kd H0.k, elem_pr H0.p, elem_in H0.b, view_sl H0.k, view_sl H0.p, view_sl H0.b, scalar_sl H0.k, scalar_sl H0.p, scalar_sl H0.b, cells_sl H0.k, cells_sl H0.p, cells_sl H0.b, pure_sl H0.k, pure_sl H0.p, pure_sl H0.b, Int.toNat_natCast, a0, hr, ← hlo, ← hhi, g1, g2, s16, gUn, Bool.not_true, Bool.not_false, decide_true, decide_false]
    done
  have H := rdy_ok H0 hr
  have G := (rdy_iff.1 hr).1
  have np := G.np; have nb := G.nb
  have hb : 0 ≤ w ∧ 0 ≤ x ∧ w ≤ 100 ∧ x ≤ 100 := by
    simp only [mmx, Bool.false_eq_true, if_false, if_true] at hlo hhi
    split at hlo <;> split at hhi <;> omega
  obtain ⟨w', rfl⟩ : ∃ n : Nat, w = n := ⟨w.toNat, by omega⟩
  obtain ⟨x', rfl⟩ : ∃ n : Nat, x = n := ⟨x.toNat, by omega⟩
  have c2 : ∀ {lim : Nat} {pl : Option Nat} {ρ : Opd → AV} {h : List AO} {f : Nat} {args : List Opd}, exOp (R E) lim pl ρ h (.call 2 f args) = C2 E f (args.map ρ) h := exOp_call2
  obtain ⟨ok, op, ob, g, C, fr, lk, CP⟩ := c17 H [.cells [k, I h.fl, p, b] false, .cells [I w', I x', I y, I z] false]
  simp only [List.length_cons, List.length_nil, Nat.zero_add, Nat.reduceAdd, hsV] at lk C
  have x1 := CP.n1; have x2 := CP.n2
  have g0 := fr.at (j := 0) rfl
  have g1' := fr.at (j := 1) rfl
  have lg := (List.getElem?_eq_some_iff.1 CP.b).1
  obtain ⟨h1, eh1⟩ : ∃ h1, h1 = g ++ [AO.cells [msK h ok, I h.fl, msP h op, msB h ob] false] := ⟨_, rfl⟩
  have b0 : h1[0]? = some (.cells [k, I h.fl, p, b] false) := by rw [eh1, at_ap (by omega)]; exact g0
  have b1 : h1[1]? = some (.cells [I w', I x', I y, I z] false) := by rw [eh1, at_ap (by omega)]; exact g1'
  have b3 : h1[g.length]? = some (.cells [msK h ok, I h.fl, msP h op, msB h ob] false) := by rw [eh1]; exact atE
  have bk : h1[ok]? = some (.cells (h.ks.flatMap Kd.e) false) := by rw [eh1, at_ap (by omega)]; exact CP.k
  have bp : h1[op]? = some (.cells (h.ps.flatMap Pr.e) false) := by rw [eh1, at_ap (by omega)]; exact CP.p
  have bb : h1[ob]? = some (.cells (h.bs.flatMap intL) false) := by rw [eh1, at_ap lg]; exact CP.b
  clear fr CP
  simp (disch := first | assumption | omega | (simp only [az]; done)) only [ru, eq_self, if_true, if_false, BEq.rfl, binI, AO.row?, splice, fillL, mmAll, loadV, storeV, zeros, Am.rowAt, Am.part, addOff, Nat.reduceAdd, Nat.reduceMul, Nat.reduceLeDiff, Nat.reduceSub, Nat.reduceLT, Int.reduceEq, Int.reduceLT, Int.reduceLE, Int.reduceGT, Int.reduceGE, Int.reduceAdd, Int.reduceSub, Int.reduceMul, Int.reduceNeg, Int.reduceToNat, reduceCtorEq, reduceIte, lenV_sl H.k, lenV_sl H.p, lenV_sl H.b, elem_kd H.k, elem_pr H.p, elem_in H.b, view_sl H.k, view_sl H.p, view_sl H.b, scalar_sl H.k, scalar_sl H.p, scalar_sl H.b, cells_sl H.k, cells_sl H.p, cells_sl H.b, pure_sl H.k, pure_sl H.p, pure_sl H.b, Int.toNat_natCast, a0, hr, ← hlo, ← hhi, g1, g2, gUn, Bool.not_true, decide_false, c2, C, ← eh1]
  refine G_loop_ind (fun m ts hh mk => ∃ i : Nat, i ≤ h.bs.length ∧ m = h.bs.length - i ∧ hh[0]? = some (.cells [k, I h.fl, p, b] false) ∧ hh[1]? = some (.cells [I w', I x', I y, I z] false) ∧ hh[g.length]? = some (.cells [msK h ok, I h.fl, msP h op, msB h ob] false) ∧ hh[ok]? = some (.cells (h.ks.flatMap Kd.e) false) ∧ hh[op]? = some (.cells (h.ps.flatMap Pr.e) false) ∧ hh[ob]? = some (.cells ((rotL h.bs 0 w' i).flatMap intL) false) ∧ ts.length = 198 ∧ ts.getD 2 .undef = .ptr 0 0 ∧ ts.getD 3 .undef = .ptr 1 0 ∧ ts.getD 5 .undef = .ptr g.length 0 ∧ ts.getD 6 .undef = I i ∧ mk = []) ?_ h.bs.length _ _ _ ?_
  rotate_left
  · exact ⟨0, Nat.zero_le _, rfl, b0, b1, b3, bk, bp, by rw [rotL_zero]; exact bb, rfl, rfl, rfl, rfl, rfl, rfl⟩
  clear b0 b1 b3 bk bp bb
  rintro m ts hh mk ih ⟨i, hi', rfl, b0, b1, b3, bk, bp, bb, hl', q2, q3, q5, q6, rfl⟩
  rw [lit_all hl']
  simp only [lit0, litS, Nat.reduceAdd, q2, q3, q5, q6]
  simp (disch := first | assumption | omega | (simp only [az]; done)) only [ru, eq_self, if_true, if_false, BEq.rfl, binI, AO.row?, splice, fillL, mmAll, loadV, storeV, zeros, Am.rowAt, Am.part, addOff, Nat.reduceAdd, Nat.reduceMul, Nat.reduceLeDiff, Nat.reduceSub, Nat.reduceLT, Int.reduceEq, Int.reduceLT, Int.reduceLE, Int.reduceGT, Int.reduceGE, Int.reduceAdd, Int.reduceSub, Int.reduceMul, Int.reduceNeg, Int.reduceToNat, reduceCtorEq, reduceIte, lenV_sl H.k, lenV_sl H.p, lenV_sl H.b, elem_kd H.k, elem_pr H.p, elem_in H.b, view_sl H.k, view_sl H.p, view_sl H.b, scalar_sl H.k, scalar_sl H.p, scalar_sl H.b, cells_sl H.k, cells_sl H.p, cells_sl H.b, pure_sl H.k, pure_sl H.p, pure_sl H.b, Int.toNat_natCast, b0]
  by_cases hlt : (i : Int) < h.bs.length
  case pos =>
    have hi2 : i < h.bs.length := by omega
    have fl := flat1 (rotL h.bs 0 w' i)
    rw [rotL_len hi'] at fl
    have ip := int_put (l := rotL h.bs 0 w' i) (i := i) (by rw [rotL_len hi']; exact hi2) (h.bs.getD ((i + w') % h.bs.length) 0)
    rw [rotL_set hi2] at ip
    have er : ((i : Int) + (w' : Int)).tmod h.bs.length = (((i + w') % h.bs.length : Nat) : Int) := by
      rw [Int.tmod_eq_emod_of_nonneg (by omega)]; push_cast; rfl
    have nz : ¬ (h.bs.length : Int) = 0 := by omega
    have ml := Nat.mod_lt (i + w') (show 0 < h.bs.length by omega)
    obtain ⟨e, he⟩ : ∃ e, e = (i + w') % h.bs.length := ⟨_, rfl⟩
    rw [← he] at ip er ml
    have e0 : (0 : Int) ≤ e := by omega
    have e1 : (e : Int) < h.bs.length := by omega
    have i0 : (0 : Int) ≤ i := by omega
    have fit : i + 1 ≤ h.bs.length := by omega
    obtain ⟨CB, hCB⟩ : ∃ c, c = (rotL h.bs 0 w' i).flatMap intL := ⟨_, rfl⟩
    obtain ⟨CN, hCN⟩ : ∃ c, c = (rotL h.bs 0 w' (i + 1)).flatMap intL := ⟨_, rfl⟩
    rw [← hCB, ← hCN] at ip
    rw [← hCB] at bb fl
    obtain ⟨v, hv⟩ : ∃ v, v = h.bs.getD e 0 := ⟨_, rfl⟩
    rw [← hv] at ip
    simp (disch := first | assumption | omega | (simp only [az]; done)) only [ru, eq_self, if_true, if_false, BEq.rfl, binI, AO.row?, splice, fillL, mmAll, loadV, storeV, zeros, Am.rowAt, Am.part, addOff, Nat.reduceAdd, Nat.reduceMul, Nat.reduceLeDiff, Nat.reduceSub, Nat.reduceLT, Int.reduceEq, Int.reduceLT, Int.reduceLE, Int.reduceGT, Int.reduceGE, Int.reduceAdd, Int.reduceSub, Int.reduceMul, Int.reduceNeg, Int.reduceToNat, reduceCtorEq, reduceIte, lenV_sl H.k, lenV_sl H.p, lenV_sl H.b, elem_kd H.k, elem_pr H.p, elem_in H.b, view_sl H.k, view_sl H.p, view_sl H.b, scalar_sl H.k, scalar_sl H.p, scalar_sl H.b, cells_sl H.k, cells_sl H.p, cells_sl H.b, pure_sl H.k, pure_sl H.p, pure_sl H.b, Int.toNat_natCast, hlt, b0, b1, b3, bb, er, nz, e0, e1, i0, ← hv, fl, fit, ip, Nat.mul_one, Nat.zero_add]
    refine ih (h.bs.length - (i + 1)) _ _ _ (by omega) ⟨i + 1, by omega, rfl, set_of b0 (by omega), set_of b1 (by omega), set_of b3 (by omega), set_of bk (by omega), set_of bp (by omega), ?_, rfl, rfl, rfl, rfl, rfl, rfl⟩
    rw [← hCN]; exact set_at bb
  obtain rfl : i = h.bs.length := by omega
  clear ih
  simp (disch := first | assumption | omega | (simp only [az]; done)) only [ru, eq_self, if_true, if_false, BEq.rfl, binI, AO.row?, splice, fillL, mmAll, loadV, storeV, zeros, Am.rowAt, Am.part, addOff, Nat.reduceAdd, Nat.reduceMul, Nat.reduceLeDiff, Nat.reduceSub, Nat.reduceLT, Int.reduceEq, Int.reduceLT, Int.reduceLE, Int.reduceGT, Int.reduceGE, Int.reduceAdd, Int.reduceSub, Int.reduceMul, Int.reduceNeg, Int.reduceToNat, reduceCtorEq, reduceIte, hlt]
  clear hl' q2 q3 q5 q6 hlt hi'
  refine G_loop_ind (fun m ts hh mk => ∃ i : Nat, i ≤ h.ps.length ∧ m = h.ps.length - i ∧ hh[0]? = some (.cells [k, I h.fl, p, b] false) ∧ hh[1]? = some (.cells [I w', I x', I y, I z] false) ∧ hh[g.length]? = some (.cells [msK h ok, I h.fl, msP h op, msB h ob] false) ∧ hh[ok]? = some (.cells (h.ks.flatMap Kd.e) false) ∧ hh[op]? = some (.cells ((rotL h.ps default x' i).flatMap Pr.e) false) ∧ hh[ob]? = some (.cells ((rotL h.bs 0 w' h.bs.length).flatMap intL) false) ∧ ts.length = 198 ∧ ts.getD 2 .undef = .ptr 0 0 ∧ ts.getD 3 .undef = .ptr 1 0 ∧ ts.getD 5 .undef = .ptr g.length 0 ∧ ts.getD 7 .undef = I i ∧ mk = []) ?_ h.ps.length _ _ _ ?_
  rotate_left
  · exact ⟨0, Nat.zero_le _, rfl, b0, b1, b3, bk, by rw [rotL_zero]; exact bp, bb, rfl, rfl, rfl, rfl, rfl, rfl⟩
  clear b0 b1 b3 bk bp bb
  rintro m ts hh mk ih ⟨i, hi', rfl, b0, b1, b3, bk, bp, bb, hl', q2, q3, q5, q7, rfl⟩
  rw [lit_all hl']
  simp only [lit0, litS, Nat.reduceAdd, q2, q3, q5, q7]
  simp (disch := first | assumption | omega | (simp only [az]; done)) only [ru, eq_self, if_true, if_false, BEq.rfl, binI, AO.row?, splice, fillL, mmAll, loadV, storeV, zeros, Am.rowAt, Am.part, addOff, Nat.reduceAdd, Nat.reduceMul, Nat.reduceLeDiff, Nat.reduceSub, Nat.reduceLT, Int.reduceEq, Int.reduceLT, Int.reduceLE, Int.reduceGT, Int.reduceGE, Int.reduceAdd, Int.reduceSub, Int.reduceMul, Int.reduceNeg, Int.reduceToNat, reduceCtorEq, reduceIte, lenV_sl H.k, lenV_sl H.p, lenV_sl H.b, elem_kd H.k, elem_pr H.p, elem_in H.b, view_sl H.k, view_sl H.p, view_sl H.b, scalar_sl H.k, scalar_sl H.p, scalar_sl H.b, cells_sl H.k, cells_sl H.p, cells_sl H.b, pure_sl H.k, pure_sl H.p, pure_sl H.b, Int.toNat_natCast, b0]
  by_cases hlt : (i : Int) < h.ps.length
  case pos =>
    have hi2 : i < h.ps.length := by omega
    have fl := flat_len Pr.el (rotL h.ps default x' i)
    rw [rotL_len hi'] at fl
    have ip := flat_put (l := rotL h.ps default x' i) (i := i) (by rw [rotL_len hi']; exact hi2) (h.ps.getD ((i + x') % h.ps.length) default)
    rw [rotL_set hi2] at ip
    have er : ((i : Int) + (x' : Int)).tmod h.ps.length = (((i + x') % h.ps.length : Nat) : Int) := by
      rw [Int.tmod_eq_emod_of_nonneg (by omega)]; push_cast; rfl
    have nz : ¬ (h.ps.length : Int) = 0 := by omega
    have ml := Nat.mod_lt (i + x') (show 0 < h.ps.length by omega)
    obtain ⟨e, he⟩ : ∃ e, e = (i + x') % h.ps.length := ⟨_, rfl⟩
    rw [← he] at ip er ml
    have e0 : (0 : Int) ≤ e := by omega
    have e1 : (e : Int) < h.ps.length := by omega
    have i0 : (0 : Int) ≤ i := by omega
    have fit : i * 2 + 2 ≤ h.ps.length * 2 := by omega
    obtain ⟨CB, hCB⟩ : ∃ c, c = (rotL h.ps default x' i).flatMap Pr.e := ⟨_, rfl⟩
    obtain ⟨CN, hCN⟩ : ∃ c, c = (rotL h.ps default x' (i + 1)).flatMap Pr.e := ⟨_, rfl⟩
    rw [← hCB, ← hCN] at ip
    rw [← hCB] at bp fl
    obtain ⟨v, hv⟩ : ∃ v, v = h.ps.getD e default := ⟨_, rfl⟩
    rw [← hv] at ip
    simp only [Pr.e] at ip
    simp (disch := first | assumption | omega | (simp only [az]; done)) only [ru, eq_self, if_true, if_false, BEq.rfl, binI, AO.row?, splice, fillL, mmAll, loadV, storeV, zeros, Am.rowAt, Am.part, addOff, Nat.reduceAdd, Nat.reduceMul, Nat.reduceLeDiff, Nat.reduceSub, Nat.reduceLT, Int.reduceEq, Int.reduceLT, Int.reduceLE, Int.reduceGT, Int.reduceGE, Int.reduceAdd, Int.reduceSub, Int.reduceMul, Int.reduceNeg, Int.reduceToNat, reduceCtorEq, reduceIte, lenV_sl H.k, lenV_sl H.p, lenV_sl H.b, elem_kd H.k, elem_pr H.p, elem_in H.b, view_sl H.k, view_sl H.p, view_sl H.b, scalar_sl H.k, scalar_sl H.p, scalar_sl H.b, cells_sl H.k, cells_sl H.p, cells_sl H.b, pure_sl H.k, pure_sl H.p, pure_sl H.b, Int.toNat_natCast, hlt, b0, b1, b3, bp, er, nz, e0, e1, i0, ← hv, fl, fit, Nat.zero_add]
    refine ih (h.ps.length - (i + 1)) _ _ _ (by omega) ⟨i + 1, by omega, rfl, set_of b0 (by omega), set_of b1 (by omega), set_of b3 (by omega), set_of bk (by omega), ?_, set_of bb (by omega), rfl, rfl, rfl, rfl, rfl, rfl⟩
    rw [← hCN, ← ip]
    refine (set_at bp).trans ?_
    simp
  obtain rfl : i = h.ps.length := by omega
  clear ih
  obtain ⟨A, B, eb, rb⟩ := rot_cut h.bs 0 w'
  obtain ⟨Cc, D, ep, rp⟩ := rot_cut h.ps default x'
  rw [rb] at bb
  rw [rp] at bp
  have pp : (D ++ Cc).Perm h.ps := by rw [ep]; exact List.perm_append_comm
  have pb : (B ++ A).Perm h.bs := by rw [eb]; exact List.perm_append_comm
  have Go := od_G G pp pb
  obtain ⟨t1, t2⟩ := tr_od (h := h) (T := []) ep (by rw [List.append_nil]; exact eb)
  rw [List.append_nil] at t1 t2
  obtain ⟨ne, q1, qu, qe, qs⟩ := Tr.eq G Go t1 t2
  have qb := buy_od G ep eb
  have vK := fun n => viewK (l := h.ks) bk (st := false) (n := n)
  have vP := fun n => viewP (l := D ++ Cc) bp (st := false) (n := n)
  have vB := fun n => viewB (l := B ++ A) bb (st := false) (n := n)
  rw [pp.length_eq] at vP
  rw [pb.length_eq] at vB
  obtain ⟨kv, hkv⟩ : ∃ v, v = slV 2 Kd.e h.ks := ⟨_, rfl⟩
  obtain ⟨pv, hpv⟩ : ∃ v, v = slV 2 Pr.e (D ++ Cc) := ⟨_, rfl⟩
  obtain ⟨bv, hbv⟩ : ∃ v, v = slV 1 intL (B ++ A) := ⟨_, rfl⟩
  rw [← hkv] at vK
  rw [← hpv] at vP
  rw [← hbv] at vB
  have HO : HsOk (h.od (D ++ Cc) (B ++ A)) kv pv bv := { k := by rw [hkv]; exact slV_is, p := by rw [hpv]; exact slV_is, b := by rw [hbv]; exact slV_is, nk := H.nk, np := by show (D ++ Cc).length ≤ 41; rw [pp.length_eq]; exact H.np, nb := by show (B ++ A).length ≤ 41; rw [pb.length_eq]; exact H.nb }
  have hv := valid_iff.2 G
  have hvo := valid_iff.2 Go
  have fls : (h.od (D ++ Cc) (B ++ A)).fl = h.fl := rfl
  have a49 := fun st => s49 H G st
  have o49 := fun st => s49 HO Go st
  have a38 := fun st => s38 H y st
  have o38 := fun st => s38 HO y st
  have a42 := fun st => s42 H z st
  have o42 := fun st => s42 HO z st
  have a44 := fun st => s44 H st
  have o44 := fun st => s44 HO st
  have ez : decide ((h.od (D ++ Cc) (B ++ A)).pk ≠ []) = decide (h.pk ≠ []) := decide_eq_decide.2 ne.symm
  rw [q1, qu, ez] at o49
  rw [qe, askE_eq ne, hvo, ← hv] at o38
  rw [qs, hvo, ← hv] at o42
  rw [qb] at o44
  simp only [hsV, fls, ansN] at a49 o49 a38 o38 a42 o42 a44 o44
  obtain ⟨v1, hv1⟩ : ∃ v, v = (if askE h.valid (inR y 0 20) h.pk = 0 then mst (h.ea y) h.pk else 0) := ⟨_, rfl⟩
  obtain ⟨v2, hv2⟩ : ∃ v, v = (if askS h.valid (inR z 0 999) = 0 then mst (h.sto z) h.po else 0) := ⟨_, rfl⟩
  rw [← hv1] at a38 o38
  rw [← hv2] at a42 o42
  obtain ⟨v3, hv3⟩ : ∃ v, v = askE h.valid (inR y 0 20) h.pk := ⟨_, rfl⟩
  obtain ⟨v4, hv4⟩ : ∃ v, v = askS h.valid (inR z 0 999) := ⟨_, rfl⟩
  rw [← hv3] at a38 o38
  rw [← hv4] at a42 o42
  obtain ⟨v5, v6, hv5⟩ : ∃ v5 v6, buyV h = .tup [I v5, I v6] := ⟨_, _, rfl⟩
  rw [hv5] at a44 o44
  obtain ⟨z1, hz1⟩ : ∃ z, z = decide (h.pk ≠ []) := ⟨_, rfl⟩
  rw [← hz1] at a49 o49
  simp (disch := first | assumption | omega | (simp only [az]; done)) only [ru, eq_self, if_true, if_false, BEq.rfl, binI, AO.row?, splice, fillL, mmAll, loadV, storeV, zeros, Am.rowAt, Am.part, addOff, Nat.reduceAdd, Nat.reduceMul, Nat.reduceLeDiff, Nat.reduceSub, Nat.reduceLT, Int.reduceEq, Int.reduceLT, Int.reduceLE, Int.reduceGT, Int.reduceGE, Int.reduceAdd, Int.reduceSub, Int.reduceMul, Int.reduceNeg, Int.reduceToNat, reduceCtorEq, reduceIte, lenV_sl H.k, lenV_sl H.p, lenV_sl H.b, elem_kd H.k, elem_pr H.p, elem_in H.b, view_sl H.k, view_sl H.p, view_sl H.b, scalar_sl H.k, scalar_sl H.p, scalar_sl H.b, cells_sl H.k, cells_sl H.p, cells_sl H.b, pure_sl H.k, pure_sl H.p, pure_sl H.b, Int.toNat_natCast, lenV_sl HO.k, lenV_sl HO.p, lenV_sl HO.b, elem_kd HO.k, elem_pr HO.p, elem_in HO.b, view_sl HO.k, view_sl HO.p, view_sl HO.b, scalar_sl HO.k, scalar_sl HO.p, scalar_sl HO.b, cells_sl HO.k, cells_sl HO.p, cells_sl HO.b, pure_sl HO.k, pure_sl HO.p, pure_sl HO.b, Int.toNat_natCast, hlt, b0, b1, b3, vK, vP, vB, a49, o49, a38, o38, a42, o42, a44, o44, gUn, s16, decide_true, Bool.not_true, beq_self_eq_true]
end
end Go.Proofs.Ytcdedbpmjhjehaa.S

