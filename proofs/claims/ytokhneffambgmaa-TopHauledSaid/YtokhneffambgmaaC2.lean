/-
Functions of both sides of stage 7, one after another (C2).
-/
import Derived.Test.YtokhneffambgmaaC1

/-
The least cost of all parts (program): a range over the parts backward.
-/
namespace Go.Proofs.Ytokhneffambgmaa.S
open Go Go.Am Go.Proofs.Ytokhneffambgmaa.T
set_option maxRecDepth 100000
set_option linter.unusedSimpArgs false
set_option linter.unusedVariables false
attribute [local irreducible] Go.Am.G Go.Am.GO Go.Am.GG Go.Am.GC Go.Am.GP Go.Am.GX

/-! rows of rows -/
theorem fl_get {k : Nat} : ∀ {L : List (List AV)} {i : Nat}, (∀ r ∈ L, r.length = k) → (h : i < L.length) → (L.flatten.drop (i * k)).take k = L[i]
  | [], i, _, h => by simp at h
  | a :: L, 0, hk, _ => by
    have := hk a (by simp)
    simp only [Nat.zero_mul, List.drop_zero, List.flatten_cons, List.getElem_cons_zero]
    rw [← this, List.take_left]
  | a :: L, i + 1, hk, h => by
    have ha := hk a (by simp)
    have ih := fl_get (k := k) (L := L) (i := i) (fun r hr => hk r (by simp [hr])) (by simpa using h)
    rw [List.flatten_cons, show (i + 1) * k = a.length + i * k by rw [Nat.succ_mul, ha]; omega, List.drop_append, List.drop_of_length_le (by omega), List.nil_append, show a.length + i * k - a.length = i * k by omega, ih]
    rfl
theorem fl_put {k : Nat} {x : List AV} (hx : x.length = k) : ∀ {L : List (List AV)} {i : Nat}, (∀ r ∈ L, r.length = k) → i < L.length → L.flatten.take (i * k) ++ (x ++ L.flatten.drop (i * k + k)) = (L.set i x).flatten
  | [], i, _, h => by simp at h
  | a :: L, 0, hk, _ => by
    have := hk a (by simp)
    simp only [Nat.zero_mul, List.take_zero, List.nil_append, Nat.zero_add, List.flatten_cons, List.set_cons_zero]
    rw [← this, List.drop_left]
  | a :: L, i + 1, hk, h => by
    have ha := hk a (by simp)
    have ih := fl_put hx (L := L) (i := i) (fun r hr => hk r (by simp [hr])) (by simpa using h)
    have e1 : (i + 1) * k = a.length + i * k := by rw [Nat.succ_mul, ha]; omega
    rw [List.flatten_cons, List.set_cons_succ, List.flatten_cons, ← ih, e1, Nat.add_assoc, List.take_append, List.drop_append, List.take_of_length_le (by omega), List.drop_of_length_le (by omega), List.append_assoc]
    rw [show a.length + i * k - a.length = i * k by omega, show a.length + (i * k + k) - a.length = i * k + k by omega, List.nil_append]
def r8 (F : Nat → List AV) : List (List AV) := (List.range 8).map F
theorem r8_len {F : Nat → List AV} : (r8 F).length = 8 := by simp [r8]
theorem r8_get {F : Nat → List AV} {i : Nat} (h : i < 8) (hl : ∀ p, (F p).length = 31) : ((r8 F).flatten.drop (i * 31)).take 31 = F i := by
  rw [fl_get (by intro r hr; obtain ⟨p, _, rfl⟩ := List.mem_map.1 hr; exact hl p) (by rw [r8_len]; exact h)]
  simp [r8]
theorem r8_put {F F' : Nat → List AV} {i : Nat} (h : i < 8) (hl : ∀ p, (F p).length = 31) {x : List AV} (hx : x.length = 31) (he : ∀ p, F' p = if p = i then x else F p) : (r8 F).flatten.take (i * 31) ++ (x ++ (r8 F).flatten.drop (i * 31 + 31)) = (r8 F').flatten := by
  rw [fl_put hx (by intro r hr; obtain ⟨p, _, rfl⟩ := List.mem_map.1 hr; exact hl p) (by rw [r8_len]; exact h)]
  congr 1
  refine List.ext_getElem (by simp [r8]) fun k h1 h2 => ?_
  simp only [r8, List.getElem_set, List.getElem_map, List.getElem_range, he]
  by_cases e : i = k
  · subst e; simp
  · rw [if_neg e, if_neg (fun h => e h.symm)]
theorem r8_flat {F : Nat → List AV} (hl : ∀ p, (F p).length = 31) : (r8 F).flatten.length = 248 := by
  simp only [r8, List.length_flatten, List.map_map]
  rw [show List.map (List.length ∘ F) (List.range 8) = List.map (fun _ => 31) (List.range 8) from List.map_congr_left fun p _ => hl p]
  rfl
theorem z248 : Z248 = (r8 fun _ => Z31).flatten := by kernel_rfl
theorem z31_len : Z31.length = 31 := by rw [z31, rw_len]

section
variable {t : List Pt} {v : AV}
theorem r126 {h : List AO} {lim : Nat} : ∃ r h', R E (.fn 56) [v] h lim = some (r, h') ∧ r = .fn 71 [] [.ptr h.length 0] ∧ h' = h ++ [.cells v.cells false] := by
  refine R_of (fun r h' => r = .fn 71 [] [.ptr h.length 0] ∧ h' = h ++ [.cells v.cells false]) (es _ _ _ _) e56 ?_
  simp only [f56]
  simp (disch := first | assumption | omega | (simp only [az]; done)) only [ru, eq_self, if_true, if_false, BEq.rfl, binI, AO.row?, splice, fillL, mmAll, loadV, storeV, zeros, Am.rowAt, Am.part, addOff, Nat.reduceAdd, Nat.reduceMul, Nat.reduceLeDiff, Nat.reduceSub, Nat.reduceLT, Int.reduceEq, Int.reduceLT, Int.reduceLE, Int.reduceGT, Int.reduceGE, Int.reduceAdd, Int.reduceSub, Int.reduceMul, Int.reduceNeg, Int.reduceToNat, reduceCtorEq, reduceIte]
theorem r138 (H : TbOk t v) {b o lim : Nat} (P : Nat → List AO → Prop) (hb : ∀ m h, P m h → h[b]? = some (.cells [v] false))
    (step : ∀ m h, m < t.length → P m h → ∀ x, x = t.getD (t.length - (m + 1)) default → ∃ h', R E (.rnd o) [I ((t.length - (m + 1) : Nat)), .agg [I x.of, I x.w.lo, I x.w.hi, I x.s.lo, I x.s.hi, I x.p]] h lim = some (Bo true, h') ∧ P (m + 1) h')
    {h : List AO} (h0 : P 0 h) : ∃ r h', R E (.fn 71) [.yld o, .ptr b 0] h lim = some (r, h') ∧ P t.length h' := by
  have sp := H.n
  refine R_of (fun r h' => P t.length h') (es _ _ _ _) e71 ?_
  simp only [f71]
  have hb0 := hb _ _ h0
  simp (disch := first | assumption | omega | (simp only [az]; done)) only [ru, eq_self, if_true, if_false, BEq.rfl, binI, AO.row?, splice, fillL, mmAll, loadV, storeV, zeros, Am.rowAt, Am.part, addOff, Nat.reduceAdd, Nat.reduceMul, Nat.reduceLeDiff, Nat.reduceSub, Nat.reduceLT, Int.reduceEq, Int.reduceLT, Int.reduceLE, Int.reduceGT, Int.reduceGE, Int.reduceAdd, Int.reduceSub, Int.reduceMul, Int.reduceNeg, Int.reduceToNat, reduceCtorEq, reduceIte, hb0, lenV_sl H.i, elem_pt H.i, view_sl H.i, scalar_sl H.i, cells_sl H.i, pure_sl H.i, Int.toNat_natCast]
  refine G_loop_ind (fun k ts hh mk => ∃ m : Nat, m ≤ t.length ∧ k = t.length - m ∧ ts.length = 19 ∧ ts.getD 0 .undef = .yld o ∧ ts.getD 1 .undef = .ptr b 0 ∧ ts.getD 3 .undef = I ((t.length : Int) - 1 - m) ∧ P m hh ∧ mk = []) ?_ _ _ _ _ ⟨0, Nat.zero_le _, rfl, rfl, rfl, rfl, by simp, h0, rfl⟩
  rintro k ts hh mk ih ⟨m, hm, rfl, hl', q0, q1, q3, hP, rfl⟩
  rw [lit_all hl']
  simp only [lit0, litS, Nat.reduceAdd, q0, q1, q3]
  by_cases hlt : (t.length : Int) - 1 - m ≥ 0
  case neg =>
    obtain rfl : m = t.length := by omega
    simp (disch := first | assumption | omega | (simp only [az]; done)) only [ru, eq_self, if_true, if_false, BEq.rfl, binI, AO.row?, splice, fillL, mmAll, loadV, storeV, zeros, Am.rowAt, Am.part, addOff, Nat.reduceAdd, Nat.reduceMul, Nat.reduceLeDiff, Nat.reduceSub, Nat.reduceLT, Int.reduceEq, Int.reduceLT, Int.reduceLE, Int.reduceGT, Int.reduceGE, Int.reduceAdd, Int.reduceSub, Int.reduceMul, Int.reduceNeg, Int.reduceToNat, reduceCtorEq, reduceIte, hlt, decide_false]
    exact hP
  have hm2 : m < t.length := by omega
  obtain ⟨x, hx⟩ : ∃ x, x = t.getD (t.length - (m + 1)) default := ⟨_, rfl⟩
  obtain ⟨h', hr, hP'⟩ := step m hh hm2 hP x hx
  have e1 : (t.length : Int) - 1 - m = ((t.length - (m + 1) : Nat) : Int) := by omega
  have lt1 : ((t.length - (m + 1) : Nat) : Int) < t.length := by omega
  have hb1 := hb _ _ hP
  rw [e1] at hlt ⊢
  simp (disch := first | assumption | omega | (simp only [az]; done)) only [ru, eq_self, if_true, if_false, BEq.rfl, binI, AO.row?, splice, fillL, mmAll, loadV, storeV, zeros, Am.rowAt, Am.part, addOff, Nat.reduceAdd, Nat.reduceMul, Nat.reduceLeDiff, Nat.reduceSub, Nat.reduceLT, Int.reduceEq, Int.reduceLT, Int.reduceLE, Int.reduceGT, Int.reduceGE, Int.reduceAdd, Int.reduceSub, Int.reduceMul, Int.reduceNeg, Int.reduceToNat, reduceCtorEq, reduceIte, hlt, decide_true, hb1, lenV_sl H.i, elem_pt H.i, view_sl H.i, scalar_sl H.i, cells_sl H.i, pure_sl H.i, Int.toNat_natCast, lt1, nn, ← hx, exOp_callv0, hr, Bool.not_true]
  exact ih (t.length - (m + 1)) _ _ _ (by omega) ⟨m + 1, by omega, rfl, rfl, rfl, rfl, by show I _ = I _; congr 1; omega, hP', rfl⟩

def insF (t : List Pt) (c : Nat → Int → Option Int) (m p : Nat) : List AV := if p < t.length then rwE (ins t c m p) else Z31
theorem insF_len {c : Nat → Int → Option Int} {m p : Nat} : (insF t c m p).length = 31 := by
  unfold insF; split
  · exact rw_len
  · exact z31_len
/-- what is kept while the parts are gone through backward -/
structure Lp (t : List Pt) (c : Nat → Int → Option Int) (v fv : AV) (h0 : List AO) (TS : List AV) (m : Nat) (h : List AO) : Prop where
  fr : Fr h0 h
  a : h[h0.length]? = some (.cells [fv] false)
  b : h[h0.length + 1]? = some (.cells (r8 (insF t c m)).flatten false)
  c : h[h0.length + 2]? = some (.cells [I (En (smS t c m))] false)
  d : h[h0.length + 3]? = some (.cells [v] false)
  e : h[h0.length + 4]? = some .dfr
  f : h[h0.length + 5]? = some (.loop .ready none 44 TS [25, 26] As102 Bd102 (h0.length + 4))

set_option maxHeartbeats 4000000 in
theorem lp_step {c : Nat → Int → Option Int} {fv : AV} {h0 : List AO} {TS : List AV} (T : TG t) (hC : Cost h0 fv t.length c) (hfv : fv.scalar = true ∧ fv.cells = [fv]) (hc : ∀ i b x, c i b = some x → -3000 ≤ x ∧ x ≤ 3000)
    (hl : TS.length = 50) (q3 : TS.getD 3 .undef = .ptr h0.length 0) (q5 : TS.getD 5 .undef = .ptr (h0.length + 1) 0) (q7 : TS.getD 7 .undef = .ptr (h0.length + 2) 0)
    {m : Nat} {h : List AO} (hm : m < t.length) (S : Lp t c v fv h0 TS m h) {x : Pt} (hx : x = t.getD (t.length - (m + 1)) default) :
    ∃ h', R E (.rnd (h0.length + 5)) [I ((t.length - (m + 1) : Nat)), .agg [I x.of, I x.w.lo, I x.w.hi, I x.s.lo, I x.s.hi, I x.p]] h h0.length = some (Bo true, h') ∧ Lp t c v fv h0 TS (m + 1) h' := by
  have t8 := T.n
  obtain ⟨q, hq⟩ : ∃ q, q = t.length - (m + 1) := ⟨_, rfl⟩
  rw [← hq] at hx ⊢
  have hqt : q < t.length := by omega
  have ho := T.of q hqt
  rw [← hx] at ho
  have lf := (List.getElem?_eq_some_iff.1 S.f).1
  have bdI : ∀ m, m ≤ 8 → ∀ p y, Bd 400000000 (ins t c m p y) := fun m hm p y u hu => by
    have := ins_bd (K := 3000) (by omega) hc m p y u hu
    have := pow2_le hm
    have h1 : ((2 : Int) ^ m - 1) * 3000 ≤ 255 * 3000 := Int.mul_le_mul_of_nonneg_right this.1 (by omega)
    omega
  have bdS : ∀ m, m ≤ 8 → Bd 400000000 (smS t c m) := fun m hm u hu => by
    have := smS_bd (K := 3000) (by omega) hc m u hu
    have := pow2_le hm
    have h1 : ((2 : Int) ^ m - 1) * 3000 ≤ 255 * 3000 := Int.mul_le_mul_of_nonneg_right this.1 (by omega)
    omega
  have bdc : ∀ i b, Bd 3000 (c i b) := fun i b u hu => hc i b u hu
  have := R_rnd_of (E := E) (lim := h0.length) (args := [I (q : Nat), .agg [I x.of, I x.w.lo, I x.w.hi, I x.s.lo, I x.s.hi, I x.p]]) (P := fun r h' => r = Bo true ∧ Lp t c v fv h0 TS (m + 1) h') S.f rfl (by omega) ?_
  · obtain ⟨r, h', hr, rfl, hp⟩ := this
    exact ⟨h', hr, hp⟩
  simp only [setAll]
  have hl2 : ((TS.set 25 (I (q : Nat))).set 26 (.agg [I x.of, I x.w.lo, I x.w.hi, I x.s.lo, I x.s.hi, I x.p])).length = 50 := by simp [hl]
  rw [lit_all hl2]
  have g3 : ((TS.set 25 (I (q : Nat))).set 26 (.agg [I x.of, I x.w.lo, I x.w.hi, I x.s.lo, I x.s.hi, I x.p])).getD 3 .undef = .ptr h0.length 0 := by
    rw [List.getD_eq_getElem?_getD, List.getElem?_set_ne (by omega), List.getElem?_set_ne (by omega), ← List.getD_eq_getElem?_getD, q3]
  have g5 : ((TS.set 25 (I (q : Nat))).set 26 (.agg [I x.of, I x.w.lo, I x.w.hi, I x.s.lo, I x.s.hi, I x.p])).getD 5 .undef = .ptr (h0.length + 1) 0 := by
    rw [List.getD_eq_getElem?_getD, List.getElem?_set_ne (by omega), List.getElem?_set_ne (by omega), ← List.getD_eq_getElem?_getD, q5]
  have g7 : ((TS.set 25 (I (q : Nat))).set 26 (.agg [I x.of, I x.w.lo, I x.w.hi, I x.s.lo, I x.s.hi, I x.p])).getD 7 .undef = .ptr (h0.length + 2) 0 := by
    rw [List.getD_eq_getElem?_getD, List.getElem?_set_ne (by omega), List.getElem?_set_ne (by omega), ← List.getD_eq_getElem?_getD, q7]
  have g25 : ((TS.set 25 (I (q : Nat))).set 26 (.agg [I x.of, I x.w.lo, I x.w.hi, I x.s.lo, I x.s.hi, I x.p])).getD 25 .undef = I (q : Nat) := by
    rw [List.getD_eq_getElem?_getD, List.getElem?_set_ne (by omega), List.getElem?_set_self (by omega)]; rfl
  have g26 : ((TS.set 25 (I (q : Nat))).set 26 (.agg [I x.of, I x.w.lo, I x.w.hi, I x.s.lo, I x.s.hi, I x.p])).getD 26 .undef = .agg [I x.of, I x.w.lo, I x.w.hi, I x.s.lo, I x.s.hi, I x.p] := by
    rw [List.getD_eq_getElem?_getD, List.getElem?_set_self (by simp; omega)]; rfl
  obtain ⟨TT, hTT⟩ : ∃ TT, TT = (TS.set 25 (I (q : Nat))).set 26 (.agg [I x.of, I x.w.lo, I x.w.hi, I x.s.lo, I x.s.hi, I x.p]) := ⟨_, rfl⟩
  rw [← hTT] at g3 g5 g7 g25 g26 ⊢
  simp only [lit0, litS, Nat.reduceAdd, g3, g5, g7, g25, g26]
  have hl0 : h0.length ≤ h.length := S.fr.l
  unfold As102
  simp (disch := first | assumption | omega | (simp only [az]; done)) only [ru, eq_self, if_true, if_false, BEq.rfl, binI, AO.row?, splice, fillL, mmAll, loadV, storeV, zeros, Am.rowAt, Am.part, addOff, Nat.reduceAdd, Nat.reduceMul, Nat.reduceLeDiff, Nat.reduceSub, Nat.reduceLT, Int.reduceEq, Int.reduceLT, Int.reduceLE, Int.reduceGT, Int.reduceGE, Int.reduceAdd, Int.reduceSub, Int.reduceMul, Int.reduceNeg, Int.reduceToNat, reduceCtorEq, reduceIte, atE, setE, lenE, hl0]
  -- the part lies behind
  obtain ⟨X, hX⟩ : ∃ X, X = AO.cells [I x.of, I x.w.lo, I x.w.hi, I x.s.lo, I x.s.hi, I x.p] false := ⟨_, rfl⟩
  rw [← hX]
  obtain ⟨h1, hh1⟩ : ∃ h1, h1 = h ++ [X] := ⟨_, rfl⟩
  have l1 : h1.length = h.length + 1 := by rw [hh1]; simp
  have f1 : Fr h h1 := by rw [hh1]; exact Fr.app _ _
  have x1 : h1[h.length]? = some X := by rw [hh1]; exact atE
  rw [← hh1]
  refine ⟨none, 44, TS, [25, 26], As102, Bd102, h0.length + 4, f1.at S.f, ?_⟩
  obtain ⟨h2, hh2⟩ : ∃ h2, h2 = h1.set (h0.length + 5) (AO.loop .busy none 44 TS [25, 26] As102 Bd102 (h0.length + 4)) := ⟨_, rfl⟩
  rw [← hh2]
  have l2 : h2.length = h.length + 1 := by rw [hh2]; simp [l1]
  have ne : ∀ j, j ≠ h0.length + 5 → h2[j]? = h1[j]? := fun j hj => by rw [hh2, List.getElem?_set_ne (by omega)]
  have a2 := (ne h0.length (by omega)).trans (f1.at S.a)
  have b2 := (ne (h0.length + 1) (by omega)).trans (f1.at S.b)
  have c2 := (ne (h0.length + 2) (by omega)).trans (f1.at S.c)
  have d2 := (ne (h0.length + 3) (by omega)).trans (f1.at S.d)
  have e2 := (ne (h0.length + 4) (by omega)).trans (f1.at S.e)
  have x2 := (ne h.length (by omega)).trans x1
  have o2 : h2[h0.length + 5]? = some (AO.loop .busy none 44 TS [25, 26] As102 Bd102 (h0.length + 4)) := by rw [hh2, List.getElem?_set_self (by omega)]
  have fr2 : Fr h0 h2 := ⟨by omega, fun j hj => by rw [ne j (by omega), f1.k j (by omega), S.fr.k j hj]⟩
  -- all of this part
  obtain ⟨C, hCC⟩ : ∃ C, C = (r8 (insF t c m)).flatten := ⟨_, rfl⟩
  have Cl : C.length = 248 := by rw [hCC]; exact r8_flat fun _ => insF_len
  have Cg : ∀ p, p < t.length → (C.drop (p * 31)).take 31 = rwE (ins t c m p) := fun p hp => by
    rw [hCC, r8_get (by omega) fun _ => insF_len]; exact if_pos hp
  have Cp : ∀ p, p < t.length → ∀ f : Int → Option Int, C.take (p * 31) ++ (rwE f ++ C.drop (p * 31 + 31)) = (r8 fun k => if k = p then rwE f else insF t c m k).flatten := fun p hp f => by
    rw [hCC]; exact r8_put (by omega) (fun _ => insF_len) rw_len fun _ => rfl
  rw [← hCC] at b2
  obtain ⟨all, hall⟩ : ∃ all : Int → Option Int, all = fun y => pl (ins t c m q y) (c q y) := ⟨_, rfl⟩
  have ball : ∀ y, Bd 400000000 (all y) := fun y u hu => by
    rw [hall] at hu
    have h1 := ins_bd (t := t) (K := 3000) (by omega) hc m q y
    have h2 := pow2_le (show m ≤ 8 by omega)
    have h3 : ((2 : Int) ^ m - 1) * 3000 ≤ 255 * 3000 := Int.mul_le_mul_of_nonneg_right h2.1 (by omega)
    obtain ⟨y1, y2, e1, e2, rfl⟩ := pl_some.1 hu
    have := h1 _ e1; have := hc _ _ _ e2; omega
  have w127 := fun J => s127 (h := h2 ++ [J]) (c := c) (n := t.length) (fv := fv) (by
    obtain ⟨g, first, cap, e, hg⟩ := hC
    exact ⟨g, first, cap, e, fun h' F => hg h' (fr2.trans ((Fr.app _ _).trans F))⟩) hqt (f := ins t c m q) (fun b => (bdI m (by omega) q b).up (by omega)) (fun b => (bdc q b).up (by omega))
  rw [← hall] at w127
  obtain ⟨A, hA⟩ : ∃ A, A = rwE all := ⟨_, rfl⟩
  have Al : A.length = 31 := by rw [hA]; exact rw_len
  have As : A.all AV.scalar = true := by rw [hA]; exact rw_sc
  have At : A.take 31 = A := by rw [hA]; exact rw_take
  have Cgq := Cg q hqt
  obtain ⟨Q, hQ⟩ : ∃ Q, Q = rwE (ins t c m q) := ⟨_, rfl⟩
  have Ql : Q.length = 31 := by rw [hQ]; exact rw_len
  have w127' : ∀ J, Ro E 57 [.agg Q, I (q : Nat), fv] (h2 ++ [J]) = some (.agg A) := fun J => by rw [hQ, hA]; exact w127 J
  rw [← hQ] at Cgq
  have zl : 31 ≤ Z31.length := by rw [z31_len]; exact Nat.le_refl _
  have zd : Z31.drop 31 = [] := List.drop_of_length_le (by rw [z31_len]; exact Nat.le_refl _)
  have k8 : (q : Int) < 8 := by omega
  have lt0 : ∀ X : AO, (h2 ++ [X])[h0.length]? = h2[h0.length]? := fun X => at_ap (by omega)
  have lt1 : ∀ X : AO, (h2 ++ [X])[h0.length + 1]? = h2[h0.length + 1]? := fun X => at_ap (by omega)
  have lt2 : ∀ X : AO, (h2 ++ [X])[h0.length + 2]? = h2[h0.length + 2]? := fun X => at_ap (by omega)
  have ltx : ∀ X : AO, (h2 ++ [X])[h.length]? = h2[h.length]? := fun X => at_ap (by omega)
  have hle2 : h0.length ≤ h2.length := by omega
  have hle3 : h0.length ≤ h0.length + 2 := by omega
  have hle4 : h0.length ≤ h0.length + 1 := by omega
  rw [hX] at x2
  by_cases c1 : x.of = -1
  · -- a whole fish
    have e1 : smS t c (m + 1) = pl (smS t c m) (lst (fun b => all b) 31) := by
      simp only [smS, ← hq, ← hx, c1, if_true, hall]
    have e2' : insF t c (m + 1) = insF t c m := by
      funext p
      have e3 : ins t c (m + 1) p = ins t c m p := by
        funext y; simp only [ins, ← hq, ← hx, c1]; rw [if_neg (by omega)]
      unfold insF; rw [e3]
    have vw : ∀ st k, view st (h2 ++ [.cells A false]) (k + 1) (.ms 1 h2.length 0 31) = some (slV 1 intL (rng 31 fun b => En (all b))) := fun st k => by
      have := RdC.view (enc := intL) (esz := 1) (l := rng 31 fun b => En (all b)) (h := h2 ++ [.cells A false]) (w := .ms 1 h2.length 0 31) ⟨h2.length, by rw [rng_len], by rw [atE, hA]; rfl⟩ intE intIv (st := st) (k := k)
      exact this
    have sa : sliceAW (h2 ++ [.cells A false]) 31 1 none (.ptr h2.length 0) = some (.ms 1 h2.length 0 31) := by
      simp only [sliceAW, Am.rowAt, atE, Option.bind_some, AO.row?, Al]; rfl
    have m129 := fun st => s129 (f := fun b => all b) (slV_is (esz := 1) (enc := intL) (l := rng 31 fun b => En (all b))) (B := 400000000) (by omega) (fun b => ball b) st
    have p128 := fun st => sPl (B := 400000000) (C := 400000000) (by omega) (by omega) (bdS m (by omega)) (Bd.lst (f := fun b => all b) (k := 31) fun i _ => ball i) st
    obtain ⟨W, hW⟩ : ∃ W, W = slV 1 intL (rng 31 fun b => En (all b)) := ⟨_, rfl⟩
    have vw' : ∀ st, view st (h2 ++ [.cells A false]) 8 (.ms 1 h2.length 0 31) = some W := fun st => by rw [hW]; exact vw st 7
    rw [← hW] at m129
    unfold Bd102
    simp (disch := first | assumption | omega | (simp only [az]; done)) only [ru, eq_self, if_true, if_false, BEq.rfl, binI, AO.row?, splice, fillL, mmAll, loadV, storeV, zeros, Am.rowAt, Am.part, addOff, Nat.reduceAdd, Nat.reduceMul, Nat.reduceLeDiff, Nat.reduceSub, Nat.reduceLT, Int.reduceEq, Int.reduceLT, Int.reduceLE, Int.reduceGT, Int.reduceGE, Int.reduceAdd, Int.reduceSub, Int.reduceMul, Int.reduceNeg, Int.reduceToNat, reduceCtorEq, reduceIte, hideN, hideC, GO_mload, GO_mcall3, setE, atE, lenE, setT, setT0, atT, atT0, lt0, lt1, lt2, ltx, a2, b2, c2, x2, k8, nn, Int.toNat_natCast, Cgq, Ql, hfv.1, hfv.2, w127', Al, As, At, zl, zd, c1, decide_true, List.append_nil, hle2, hle3, exOp_sliceA, sa, vw', m129, p128, Option.map_none]
    refine ⟨.busy, none, 44, TS, [25, 26], As102, Bd102, h0.length + 4, by rw [List.getElem?_set_ne (by omega), at_ap (by omega)]; exact o2, ?_⟩
    refine ⟨⟨by simp; omega, fun j hj => by rw [List.getElem?_set_ne (by omega), List.getElem?_set_ne (by omega), at_ap (by omega), fr2.k j hj]⟩, ?_, ?_, ?_, ?_, ?_, ?_⟩
    · rw [List.getElem?_set_ne (by omega), List.getElem?_set_ne (by omega), at_ap (by omega)]; exact a2
    · rw [List.getElem?_set_ne (by omega), List.getElem?_set_ne (by omega), at_ap (by omega), e2', ← hCC]; exact b2
    · rw [List.getElem?_set_ne (by omega), List.getElem?_set_self (by simp; omega), e1]
    · rw [List.getElem?_set_ne (by omega), List.getElem?_set_ne (by omega), at_ap (by omega)]; exact d2
    · rw [List.getElem?_set_ne (by omega), List.getElem?_set_ne (by omega), at_ap (by omega)]; exact e2
    · rw [List.getElem?_set_self (by simp; omega)]
  · -- a piece
    obtain ⟨r, hr⟩ : ∃ r : Nat, x.of = r := ⟨x.of.toNat, by omega⟩
    have hrt : r < t.length := by omega
    have k9 : (r : Int) < 8 := by omega
    have e1 : smS t c (m + 1) = smS t c m := by
      simp only [smS, ← hq, ← hx]; rw [if_neg c1]
    have e2' : insF t c (m + 1) = fun k => if k = r then rwE (fun y => lst (fun a => pl (ins t c m r a) (all (y - a))) (y.toNat + 1)) else insF t c m k := by
      funext p
      by_cases e : p = r
      · subst e
        rw [if_pos rfl, insF, if_pos hrt]
        refine rwE_congr fun y hy => ?_
        simp only [ins, ← hq, ← hx, hr, if_true]
        rw [hall]
        exact lst_rev (f := ins t c m p) (g := fun b => pl (ins t c m q b) (c q b)) (by omega)
      · rw [if_neg e]
        have e3 : ins t c (m + 1) p = ins t c m p := by
          funext y; simp only [ins, ← hq, ← hx, hr]; rw [if_neg (by omega)]
        unfold insF; rw [e3]
    have Cgr := Cg r hrt
    have m130 := fun st => s130 (f := ins t c m r) (g := all) (B := 400000000) (by omega) (fun b => bdI m (by omega) r b) ball st
    have Cpr := Cp r hrt (fun y => lst (fun a => pl (ins t c m r a) (all (y - a))) (y.toNat + 1))
    obtain ⟨D, hD⟩ : ∃ D, D = rwE (fun y => lst (fun a => pl (ins t c m r a) (all (y - a))) (y.toNat + 1)) := ⟨_, rfl⟩
    have Dl : D.length = 31 := by rw [hD]; exact rw_len
    have Ds : D.all AV.scalar = true := by rw [hD]; exact rw_sc
    obtain ⟨P, hP⟩ : ∃ P, P = rwE (ins t c m r) := ⟨_, rfl⟩
    have Pl : P.length = 31 := by rw [hP]; exact rw_len
    have m130' : ∀ st, Iso E 60 [.agg P, .agg A] st = some (.agg D) := fun st => by rw [hP, hA, hD]; exact m130 st
    have av : ∀ st h k, A.mapM (view st h k) = some A := fun st h k => by rw [hA]; exact rw_view
    have pv : ∀ st h k, P.mapM (view st h k) = some P := fun st h k => by rw [hP]; exact rw_view
    rw [← hP] at Cgr
    rw [← hD] at Cpr e2'
    have fit : r * 31 + 31 ≤ C.length := by omega
    have ap : AV.pureV.go A = true := by rw [hA]; exact rw_pure
    have ppv : AV.pureV.go P = true := by rw [hP]; exact rw_pure
    unfold Bd102
    simp (disch := first | assumption | omega | (simp only [az]; done)) only [ru, eq_self, if_true, if_false, BEq.rfl, binI, AO.row?, splice, fillL, mmAll, loadV, storeV, zeros, Am.rowAt, Am.part, addOff, Nat.reduceAdd, Nat.reduceMul, Nat.reduceLeDiff, Nat.reduceSub, Nat.reduceLT, Int.reduceEq, Int.reduceLT, Int.reduceLE, Int.reduceGT, Int.reduceGE, Int.reduceAdd, Int.reduceSub, Int.reduceMul, Int.reduceNeg, Int.reduceToNat, reduceCtorEq, reduceIte, hideN, hideC, GO_mload, GO_mcall3, setE, atE, lenE, setT, setT0, atT, atT0, lt0, lt1, lt2, ltx, a2, b2, c2, x2, k8, k9, nn, Int.toNat_natCast, Nat.zero_add, Cgq, Ql, hfv.1, hfv.2, w127', Al, As, At, zl, zd, c1, hr, decide_false, List.append_nil, hle2, hle4, Cgr, Pl, view_agg, av, pv, Option.map_some, m130', Dl, Ds, ap, ppv, fit, List.append_assoc, Cpr]
    refine ⟨.busy, none, 44, TS, [25, 26], As102, Bd102, h0.length + 4, by rw [List.getElem?_set_ne (by omega), at_ap (by omega)]; exact o2, ?_⟩
    refine ⟨⟨by simp; omega, fun j hj => by rw [List.getElem?_set_ne (by omega), List.getElem?_set_ne (by omega), at_ap (by omega), fr2.k j hj]⟩, ?_, ?_, ?_, ?_, ?_, ?_⟩
    · rw [List.getElem?_set_ne (by omega), List.getElem?_set_ne (by omega), at_ap (by omega)]; exact a2
    · rw [List.getElem?_set_ne (by omega), List.getElem?_set_self (by simp; omega), e2']
    · rw [List.getElem?_set_ne (by omega), List.getElem?_set_ne (by omega), at_ap (by omega), e1]; exact c2
    · rw [List.getElem?_set_ne (by omega), List.getElem?_set_ne (by omega), at_ap (by omega)]; exact d2
    · rw [List.getElem?_set_ne (by omega), List.getElem?_set_ne (by omega), at_ap (by omega)]; exact e2
    · rw [List.getElem?_set_self (by simp; omega)]

set_option maxHeartbeats 4000000 in
theorem rg102 (H : TbOk t v) (T : TG t) {c : Nat → Int → Option Int} {fv : AV} {h0 : List AO} (hC : Cost h0 fv t.length c) (hfv : fv.scalar = true ∧ fv.cells = [fv]) (hc : ∀ i b x, c i b = some x → -3000 ≤ x ∧ x ≤ 3000)
    {TS : List AV} (hl : TS.length = 50) (q3 : TS.getD 3 .undef = .ptr h0.length 0) (q5 : TS.getD 5 .undef = .ptr (h0.length + 1) 0) (q7 : TS.getD 7 .undef = .ptr (h0.length + 2) 0) (q24 : TS.getD 24 .undef = .fn 71 [] [.ptr (h0.length + 3) 0]) :
    G ⟨E, h0.length, none, 44, Done h0.length [.tmp 4] fun r h' => r = I (En (Lst t c)) ∧ AV.under h0.length (I (En (Lst t c))) = true⟩ (.rangeFunc (.t 24) [25, 26] As102 Bd102) [.block 2, .seq ((ACode.region 0 [oQ 49 (.load false 1 (.t 7)), oP 4 (.move (.t 49))]).seq .ret)] TS (h0 ++ [.cells [fv] false, .cells (r8 (insF t c 0)).flatten false, .cells [I 0] false, .cells [v] false]) [] := by
  obtain ⟨hh, he⟩ : ∃ hh, hh = h0 ++ [.cells [fv] false, .cells (r8 (insF t c 0)).flatten false, .cells [I 0] false, .cells [v] false] := ⟨_, rfl⟩
  rw [← he]
  have ln : hh.length = h0.length + 4 := by rw [he]; simp
  have fr : Fr h0 hh := by rw [he]; exact Fr.app _ _
  have a0 : hh[h0.length]? = some (.cells [fv] false) := by rw [he, atT0]; rfl
  have a1 : hh[h0.length + 1]? = some (.cells (r8 (insF t c 0)).flatten false) := by rw [he, atT]; rfl
  have a2 : hh[h0.length + 2]? = some (.cells [I 0] false) := by rw [he, atT]; rfl
  have a3 : hh[h0.length + 3]? = some (.cells [v] false) := by rw [he, atT]; rfl
  obtain ⟨LO, hLO⟩ : ∃ LO, LO = AO.loop .ready none 44 TS [25, 26] As102 Bd102 (h0.length + 4) := ⟨_, rfl⟩
  obtain ⟨r, h3, hr, S⟩ := r138 H (o := h0.length + 5) (b := h0.length + 3) (lim := h0.length) (Lp t c v fv h0 TS) (fun m h S => S.d) (fun m h hm S x hx => lp_step T hC hfv hc hl q3 q5 q7 hm S hx) (h := hh ++ [.dfr, LO])
    ⟨fr.trans (Fr.app _ _), (Fr.app _ _).at a0, (Fr.app _ _).at a1, (Fr.app _ _).at a2, (Fr.app _ _).at a3, by rw [← ln, atT0]; rfl, by rw [show h0.length + 5 = hh.length + 1 by omega, atT, hLO]; rfl⟩
  refine G_range_of rfl (show Opd.ev TS (.t 24) = _ from q24) ?_
  rw [hLO] at hr
  refine ⟨r, h3, .ready, none, 44, TS, [25, 26], As102, Bd102, h0.length + 4, by rw [ln]; exact hr, by rw [ln]; exact S.f, .inl rfl, ?_⟩
  rw [ln]
  simp only [Option.getD_none, GE_nrm]
  obtain ⟨h4, hh4⟩ : ∃ h4, h4 = h3.set (h0.length + 4 + 1) (AO.loop .exhausted none 44 TS [25, 26] As102 Bd102 (h0.length + 4)) := ⟨_, rfl⟩
  rw [← hh4, lit_all hl]
  simp only [lit0, litS, Nat.reduceAdd, q3, q5, q7, q24]
  have c4 : h4[h0.length + 2]? = some (.cells [I (En (smS t c t.length))] false) := by rw [hh4, List.getElem?_set_ne (by omega)]; exact S.c
  have d4 : h4[h0.length + 4]? = some .dfr := by rw [hh4, List.getElem?_set_ne (by omega)]; exact S.e
  simp (disch := first | assumption | omega | (simp only [az]; done)) only [ru, eq_self, if_true, if_false, BEq.rfl, binI, AO.row?, splice, fillL, mmAll, loadV, storeV, zeros, Am.rowAt, Am.part, addOff, Nat.reduceAdd, Nat.reduceMul, Nat.reduceLeDiff, Nat.reduceSub, Nat.reduceLT, Int.reduceEq, Int.reduceLT, Int.reduceLE, Int.reduceGT, Int.reduceGE, Int.reduceAdd, Int.reduceSub, Int.reduceMul, Int.reduceNeg, Int.reduceToNat, reduceCtorEq, reduceIte, c4]
  refine finM (h' := h4.set (h0.length + 4) .tomb) (vs := [I (En (Lst t c))]) (.inr rfl) (by simp) ?_ rfl ?_
  · simp only [takeMarks, d4]
  · exact ⟨rfl, rfl⟩

set_option maxHeartbeats 4000000 in
theorem s102 (H : TbOk t v) (T : TG t) {c : Nat → Int → Option Int} {fv : AV} {h0 : List AO} (hC : Cost h0 fv t.length c) (hfv : fv.scalar = true ∧ fv.cells = [fv]) (hc : ∀ i b x, c i b = some x → -3000 ≤ x ∧ x ≤ 3000) :
    Ro E 44 [v, fv] h0 = some (I (En (Lst t c))) := by
  have t8 := T.n
  refine Ro_of (es _ _ _ _) e44 ?_
  simp only [fg102, g102]
  simp (disch := first | assumption | omega | (simp only [az]; done)) only [ru, eq_self, if_true, if_false, BEq.rfl, binI, AO.row?, splice, fillL, mmAll, loadV, storeV, zeros, Am.rowAt, Am.part, addOff, Nat.reduceAdd, Nat.reduceMul, Nat.reduceLeDiff, Nat.reduceSub, Nat.reduceLT, Int.reduceEq, Int.reduceLT, Int.reduceLE, Int.reduceGT, Int.reduceGE, Int.reduceAdd, Int.reduceSub, Int.reduceMul, Int.reduceNeg, Int.reduceToNat, reduceCtorEq, reduceIte, hfv.1, hfv.2, lenV_sl H.i, elem_pt H.i, view_sl H.i, scalar_sl H.i, cells_sl H.i, pure_sl H.i, Int.toNat_natCast]
  have hz : ∀ j, (∀ p, ((if p < j then rwE (ins t c 0 p) else Z31 : List AV)).length = 31) := fun j p => by
    split
    · exact rw_len
    · exact z31_len
  refine G_loop_ind (fun m ts hh mk => ∃ j : Nat, j ≤ t.length ∧ m = t.length - j ∧ ts.length = 50 ∧ ts.getD 0 .undef = v ∧ ts.getD 3 .undef = .ptr h0.length 0 ∧ ts.getD 5 .undef = .ptr (h0.length + 1) 0 ∧ ts.getD 12 .undef = I t.length ∧ ts.getD 13 .undef = I j ∧
    hh = h0 ++ [.cells [fv] false, .cells (r8 fun p => if p < j then rwE (ins t c 0 p) else Z31).flatten false] ∧ mk = []) ?_ _ _ _ _
    ⟨0, Nat.zero_le _, rfl, rfl, rfl, rfl, by simp (disch := first | assumption | omega | (simp only [az]; done)) only [ru, eq_self, if_true, if_false, BEq.rfl, binI, AO.row?, splice, fillL, mmAll, loadV, storeV, zeros, Am.rowAt, Am.part, addOff, Nat.reduceAdd, Nat.reduceMul, Nat.reduceLeDiff, Nat.reduceSub, Nat.reduceLT, Int.reduceEq, Int.reduceLT, Int.reduceLE, Int.reduceGT, Int.reduceGE, Int.reduceAdd, Int.reduceSub, Int.reduceMul, Int.reduceNeg, Int.reduceToNat, reduceCtorEq, reduceIte, lenE], rfl, rfl, by rw [z248]; simp (disch := first | assumption | omega | (simp only [az]; done)) only [ru, eq_self, if_true, if_false, BEq.rfl, binI, AO.row?, splice, fillL, mmAll, loadV, storeV, zeros, Am.rowAt, Am.part, addOff, Nat.reduceAdd, Nat.reduceMul, Nat.reduceLeDiff, Nat.reduceSub, Nat.reduceLT, Int.reduceEq, Int.reduceLT, Int.reduceLE, Int.reduceGT, Int.reduceGE, Int.reduceAdd, Int.reduceSub, Int.reduceMul, Int.reduceNeg, Int.reduceToNat, reduceCtorEq, reduceIte, List.append_assoc] ; rfl, rfl⟩
  rintro m ts hh mk ih ⟨j, hj, rfl, hl', q0, q3, q5, q12, q13, rfl, rfl⟩
  rw [lit_all hl']
  simp only [lit0, litS, Nat.reduceAdd, q0, q3, q5, q12, q13]
  by_cases hlt : (j : Int) < t.length
  case pos =>
    have hj2 : j < t.length := by omega
    have k8 : (j : Int) < 8 := by omega
    obtain ⟨C, hCC⟩ : ∃ C, C = (r8 fun p => if p < j then rwE (ins t c 0 p) else Z31).flatten := ⟨_, rfl⟩
    have Cl : C.length = 248 := by rw [hCC]; exact r8_flat (hz j)
    have fit : j * 31 + 31 ≤ C.length := by omega
    have Cp : C.take (j * 31) ++ (rwE (ins t c 0 j) ++ C.drop (j * 31 + 31)) = (r8 fun p => if p < j + 1 then rwE (ins t c 0 p) else Z31).flatten := by
      rw [hCC]
      refine r8_put (by omega) (hz j) rw_len fun p => ?_
      by_cases e : p = j
      · subst e; rw [if_pos rfl, if_pos (by omega)]
      · rw [if_neg e]; by_cases e2 : p < j
        · rw [if_pos e2, if_pos (by omega)]
        · rw [if_neg e2, if_neg (by omega)]
    have g107 := fun st => s107 H hj2 st
    have g125 := fun st => s125 (wst t j).lo (wst t j).hi st
    have ei : (fun y => if (wst t j).lo ≤ y ∧ y ≤ (wst t j).hi then some 0 else none) = ins t c 0 j := rfl
    rw [ei] at g125
    obtain ⟨D, hD⟩ : ∃ D, D = rwE (ins t c 0 j) := ⟨_, rfl⟩
    have Dl : D.length = 31 := by rw [hD]; exact rw_len
    have Ds : D.all AV.scalar = true := by rw [hD]; exact rw_sc
    have g125' : ∀ st, Iso E 54 [.agg [I (wst t j).lo, I (wst t j).hi]] st = some (.agg D) := fun st => by rw [hD]; exact g125 st
    rw [← hD] at Cp
    rw [← hCC]
    have hle : h0.length ≤ h0.length + 1 := by omega
    simp (disch := first | assumption | omega | (simp only [az]; done)) only [ru, eq_self, if_true, if_false, BEq.rfl, binI, AO.row?, splice, fillL, mmAll, loadV, storeV, zeros, Am.rowAt, Am.part, addOff, Nat.reduceAdd, Nat.reduceMul, Nat.reduceLeDiff, Nat.reduceSub, Nat.reduceLT, Int.reduceEq, Int.reduceLT, Int.reduceLE, Int.reduceGT, Int.reduceGE, Int.reduceAdd, Int.reduceSub, Int.reduceMul, Int.reduceNeg, Int.reduceToNat, reduceCtorEq, reduceIte, hlt, decide_true, lenV_sl H.i, elem_pt H.i, view_sl H.i, scalar_sl H.i, cells_sl H.i, pure_sl H.i, Int.toNat_natCast, g107, g125', k8, nn, Nat.zero_add, List.append_assoc, lenE, setT, setT0, atT, atT0, getT, getT0, Dl, Ds, fit, hle, Cp]
    exact ih (t.length - (j + 1)) _ _ _ (by omega) ⟨j + 1, by omega, rfl, rfl, rfl, rfl, rfl, rfl, rfl, rfl, rfl⟩
  obtain rfl : j = t.length := by omega
  clear ih
  obtain ⟨r, h1, hr, rfl, rfl⟩ := r126 (v := v) (h := h0 ++ [.cells [fv] false, .cells (r8 fun p => if p < t.length then rwE (ins t c 0 p) else Z31).flatten false, .cells [I 0] false]) (lim := h0.length)
  have e0 : (fun p => if p < t.length then rwE (ins t c 0 p) else Z31) = insF t c 0 := rfl
  rw [e0] at hr ⊢
  obtain ⟨C, hCC⟩ : ∃ C, C = (r8 (insF t c 0)).flatten := ⟨_, rfl⟩
  rw [← hCC] at hr ⊢
  have hle : h0.length ≤ h0.length + 2 := by omega
  simp only [cells_sl H.i, List.append_assoc, lenE, lenS, len0, Nat.zero_add, Nat.reduceAdd, apC, apN] at hr
  simp (disch := first | assumption | omega | (simp only [az]; done)) only [ru, eq_self, if_true, if_false, BEq.rfl, binI, AO.row?, splice, fillL, mmAll, loadV, storeV, zeros, Am.rowAt, Am.part, addOff, Nat.reduceAdd, Nat.reduceMul, Nat.reduceLeDiff, Nat.reduceSub, Nat.reduceLT, Int.reduceEq, Int.reduceLT, Int.reduceLE, Int.reduceGT, Int.reduceGE, Int.reduceAdd, Int.reduceSub, Int.reduceMul, Int.reduceNeg, Int.reduceToNat, reduceCtorEq, reduceIte, hlt, decide_false, lenV_sl H.i, elem_pt H.i, view_sl H.i, scalar_sl H.i, cells_sl H.i, pure_sl H.i, Int.toNat_natCast, List.append_assoc, lenE, setT, setT0, atT, atT0, hle, exOp_call0, hr]
  rw [hCC]
  exact rg102 H T hC hfv hc rfl rfl rfl rfl rfl
end
end Go.Proofs.Ytokhneffambgmaa.S

/-
What the program asks of the least cost: weights, sums, prices.
-/
namespace Go.Proofs.Ytokhneffambgmaa.S
open Go Go.Am Go.Proofs.Ytokhneffambgmaa.T
set_option maxRecDepth 100000
set_option linter.unusedSimpArgs false
set_option linter.unusedVariables false

abbrev ag8 (r : Nat → Int) : AV := .agg (rw_ 8 r)
theorem z8 : [I 0, I 0, I 0, I 0, I 0, I 0, I 0, I 0] = rw_ 8 fun _ => 0 := by kernel_rfl
theorem mul_bd {a b : Int} (ha : -100 ≤ a ∧ a ≤ 100) (hb : 0 ≤ b ∧ b ≤ 30) : -3000 ≤ a * b ∧ a * b ≤ 3000 := by
  have h1 : a * b ≤ 100 * b := Int.mul_le_mul_of_nonneg_right ha.2 hb.1
  have h2 : (-100) * b ≤ a * b := Int.mul_le_mul_of_nonneg_right ha.1 hb.1
  omega
def RB (r : Nat → Int) : Prop := ∀ i, i < 8 → -100 ≤ r i ∧ r i ≤ 100
theorem cT_bd {t : List Pt} (T : TW t) {r : Nat → Int} (hr : RB r) : ∀ i b x, cT t r i b = some x → -3000 ≤ x ∧ x ≤ 3000 := by
  intro i b x h
  simp only [cT] at h
  split at h
  · rename_i hb
    cases h
    by_cases hi : i < t.length
    · have := T.w i hi; have := T.n
      exact mul_bd (hr i (by omega)) (by omega)
    · rw [show t.getD i default = default by simp [List.getD_eq_getElem?_getD, List.getElem?_eq_none (show t.length ≤ i by omega)]] at hb
      have : b = 0 := by
        have h0 : (default : Pt).w.lo = 0 := rfl
        have h1 : (default : Pt).w.hi = 0 := rfl
        omega
      rw [this, Int.mul_zero]; omega
  · cases h
section
variable {t : List Pt} {v : AV}
theorem s104 {r : Nat → Int} (hr : RB r) {i w : Nat} (hi : i < 8) (hw : w < 31) {h : List AO} : Ro E 46 [ag8 r, I i, I w] h = some (I (r i * w)) := by
  have b := mul_bd (hr i hi) (b := (w : Int)) (by omega)
  have hd := rw_head (f := r) hi
  obtain ⟨R, hR⟩ : ∃ R, R = rw_ 8 r := ⟨_, rfl⟩
  rw [← hR] at hd
  have i8 : (i : Int) < 8 := by omega
  show Ro E 46 [.agg (rw_ 8 r), I i, I w] h = _
  rw [← hR]
  refine Ro_of (es _ _ _ _) e46 ?_
  simp only [f46]
  simp (disch := first | assumption | omega | (simp only [az]; done)) only [ru, eq_self, if_true, if_false, BEq.rfl, binI, AO.row?, splice, fillL, mmAll, loadV, storeV, zeros, Am.rowAt, Am.part, addOff, Nat.reduceAdd, Nat.reduceMul, Nat.reduceLeDiff, Nat.reduceSub, Nat.reduceLT, Int.reduceEq, Int.reduceLT, Int.reduceLE, Int.reduceGT, Int.reduceGE, Int.reduceAdd, Int.reduceSub, Int.reduceMul, Int.reduceNeg, Int.reduceToNat, reduceCtorEq, reduceIte, atE, i8, nn, Int.toNat_natCast, Nat.mul_one, Nat.zero_add, hd]
  rfl
theorem cost131 (H : TbOk t v) (T : TW t) {r : Nat → Int} (hr : RB r) {h : List AO} {a b : Nat} (ha : h[a]? = some (.cells [v] false)) (hb : h[b]? = some (.cells [.fn 46 [ag8 r] []] false)) : Cost h (.fn 61 [] [.ptr a 0, .ptr b 0]) t.length (cT t r) := by
  refine ⟨61, [], [.ptr a 0, .ptr b 0], rfl, fun h' F i hi w hw => ?_⟩
  have t8 := T.n
  have ha' := F.at ha
  have hb' := F.at hb
  have g := fun st => s118 H T hi (w : Int) (by omega) st
  have g2 := s104 hr (i := i) (w := w) (by omega) hw (h := h')
  show Ro E 61 [I i, I w, .ptr a 0, .ptr b 0] h' = _
  obtain ⟨z, hz⟩ : ∃ z, z = awy (t.getD i default).w w := ⟨_, rfl⟩
  have z0 : 0 ≤ z := by rw [hz]; exact awy_nn
  rw [← hz] at g
  have ec : En (cT t r i w) = if z = 0 then r i * w else 9223372036854775807 := by
    simp only [cT, ← awy_zero, ← hz]
    split <;> rfl
  rw [ec]
  refine Ro_of (es _ _ _ _) e61 ?_
  simp only [f61]
  by_cases c : z = 0
  · have c' : ¬ z > 0 := by omega
    simp (disch := first | assumption | omega | (simp only [az]; done)) only [ru, eq_self, if_true, if_false, BEq.rfl, binI, AO.row?, splice, fillL, mmAll, loadV, storeV, zeros, Am.rowAt, Am.part, addOff, Nat.reduceAdd, Nat.reduceMul, Nat.reduceLeDiff, Nat.reduceSub, Nat.reduceLT, Int.reduceEq, Int.reduceLT, Int.reduceLE, Int.reduceGT, Int.reduceGE, Int.reduceAdd, Int.reduceSub, Int.reduceMul, Int.reduceNeg, Int.reduceToNat, reduceCtorEq, reduceIte, lenV_sl H.i, elem_pt H.i, view_sl H.i, scalar_sl H.i, cells_sl H.i, pure_sl H.i, Int.toNat_natCast, ha', hb', g, c', c, decide_false, exOp_callv1, List.append_nil, g2]
    rfl
  · have c' : z > 0 := by omega
    simp (disch := first | assumption | omega | (simp only [az]; done)) only [ru, eq_self, if_true, if_false, BEq.rfl, binI, AO.row?, splice, fillL, mmAll, loadV, storeV, zeros, Am.rowAt, Am.part, addOff, Nat.reduceAdd, Nat.reduceMul, Nat.reduceLeDiff, Nat.reduceSub, Nat.reduceLT, Int.reduceEq, Int.reduceLT, Int.reduceLE, Int.reduceGT, Int.reduceGE, Int.reduceAdd, Int.reduceSub, Int.reduceMul, Int.reduceNeg, Int.reduceToNat, reduceCtorEq, reduceIte, lenV_sl H.i, elem_pt H.i, view_sl H.i, scalar_sl H.i, cells_sl H.i, pure_sl H.i, Int.toNat_natCast, ha', hb', g, c', c, decide_true]
    rfl
theorem r103 {w : AV} (hw : w.cells = [w]) (hv : v.cells = [v]) {h : List AO} {lim : Nat} : ∃ r h', R E (.fn 45) [v, w] h lim = some (r, h') ∧ r = .fn 61 [] [.ptr h.length 0, .ptr (h.length + 1) 0] ∧ h' = h ++ [.cells [v] false, .cells [w] false] := by
  refine R_of (fun r h' => r = .fn 61 [] [.ptr h.length 0, .ptr (h.length + 1) 0] ∧ h' = h ++ [.cells [v] false, .cells [w] false]) (es _ _ _ _) e45 ?_
  simp only [f45]
  simp (disch := first | assumption | omega | (simp only [az]; done)) only [ru, eq_self, if_true, if_false, BEq.rfl, binI, AO.row?, splice, fillL, mmAll, loadV, storeV, zeros, Am.rowAt, Am.part, addOff, Nat.reduceAdd, Nat.reduceMul, Nat.reduceLeDiff, Nat.reduceSub, Nat.reduceLT, Int.reduceEq, Int.reduceLT, Int.reduceLE, Int.reduceGT, Int.reduceGE, Int.reduceAdd, Int.reduceSub, Int.reduceMul, Int.reduceNeg, Int.reduceToNat, reduceCtorEq, reduceIte, hw, hv, List.append_assoc, lenE]
set_option maxHeartbeats 1000000 in
theorem s74 {a b : Nat → Int} (ha : RB a) (hb : RB b) (st : Bool) : Iso E 47 [ag8 a, ag8 b] st = some (ag8 fun i => a i - b i) := by
  obtain ⟨B, hB⟩ : ∃ B, B = rw_ 8 b := ⟨_, rfl⟩
  have bh : ∀ i, i < 8 → (B.drop i).head? = some (I (b i)) := fun i hi => by rw [hB]; exact rw_head hi
  show Iso E 47 [.agg (rw_ 8 a), .agg (rw_ 8 b)] st = some (.agg (rw_ 8 fun i => a i - b i))
  rw [← hB]
  refine Iso_of (es _ _ _ _) e47 ?_
  simp only [f47]
  simp (disch := first | assumption | omega | (simp only [az]; done)) only [ru, eq_self, if_true, if_false, BEq.rfl, binI, AO.row?, splice, fillL, mmAll, loadV, storeV, zeros, Am.rowAt, Am.part, addOff, Nat.reduceAdd, Nat.reduceMul, Nat.reduceLeDiff, Nat.reduceSub, Nat.reduceLT, Int.reduceEq, Int.reduceLT, Int.reduceLE, Int.reduceGT, Int.reduceGE, Int.reduceAdd, Int.reduceSub, Int.reduceMul, Int.reduceNeg, Int.reduceToNat, reduceCtorEq, reduceIte]
  refine G_loop_ind (fun m ts hh mk => ∃ j : Nat, j ≤ 8 ∧ m = 8 - j ∧ ts.length = 19 ∧ ts.getD 2 .undef = .ptr 0 0 ∧ ts.getD 3 .undef = .ptr 1 0 ∧ ts.getD 4 .undef = .ptr 2 0 ∧ ts.getD 6 .undef = I j ∧ hh = [.cells (rw_ 8 fun i => if i < j then a i - b i else a i) false, .cells B false, .cells [I 0, I 0, I 0, I 0, I 0, I 0, I 0, I 0] false] ∧ mk = []) ?_ _ _ _ _
    ⟨0, by omega, rfl, rfl, rfl, rfl, rfl, rfl, rfl, rfl⟩
  rintro m ts hh mk ih ⟨j, hj', rfl, hl', q2, q3, q4, q6, rfl, rfl⟩
  rw [lit_all hl']
  simp only [lit0, litS, Nat.reduceAdd, q2, q3, q4, q6]
  by_cases hlt : (j : Int) < 8
  case neg =>
    obtain rfl : j = 8 := by omega
    have e : (rw_ 8 fun i => if i < 8 then a i - b i else a i) = rw_ 8 fun i => a i - b i := rw_congr fun i hi => if_pos hi
    rw [e]
    obtain ⟨R, hR⟩ : ∃ R, R = rw_ 8 fun i => a i - b i := ⟨_, rfl⟩
    have vt : R.take 8 = R := by rw [hR]; exact rw_take
    have vl : R.length = 8 := by rw [hR]; exact rw_len
    have vs : R.all AV.scalar = true := by rw [hR]; exact rw_sc
    have vv : ∀ st h k, R.mapM (view st h k) = some R := fun st h k => by rw [hR]; exact rw_view
    rw [← hR]
    simp (disch := first | assumption | omega | (simp only [az]; done)) only [ru, eq_self, if_true, if_false, BEq.rfl, binI, AO.row?, splice, fillL, mmAll, loadV, storeV, zeros, Am.rowAt, Am.part, addOff, Nat.reduceAdd, Nat.reduceMul, Nat.reduceLeDiff, Nat.reduceSub, Nat.reduceLT, Int.reduceEq, Int.reduceLT, Int.reduceLE, Int.reduceGT, Int.reduceGE, Int.reduceAdd, Int.reduceSub, Int.reduceMul, Int.reduceNeg, Int.reduceToNat, reduceCtorEq, reduceIte, hlt, decide_false, vt, vl, vs, List.append_nil, finC, getRes, Option.some.injEq, exists_eq_left', view_agg, vv, Option.map_some]
  have hj2 : j < 8 := by omega
  obtain ⟨R, hR⟩ : ∃ R, R = rw_ 8 fun i => if i < j then a i - b i else a i := ⟨_, rfl⟩
  have rh : (R.drop j).head? = some (I (a j)) := by rw [hR, rw_head hj2, if_neg (by omega)]
  have rp : R.take j ++ [I (a j - b j)] ++ R.drop (j + 1) = rw_ 8 fun i => if i < j + 1 then a i - b i else a i := by
    rw [hR]
    refine rw_put hj2 fun i hi => ?_
    by_cases e : i = j
    · subst e; rw [if_pos rfl, if_pos (by omega)]
    · rw [if_neg e]; by_cases e2 : i < j
      · rw [if_pos e2, if_pos (by omega)]
      · rw [if_neg e2, if_neg (by omega)]
  have rl : R.length = 8 := by rw [hR, rw_len]
  have fit : j + 1 ≤ R.length := by omega
  have h1 := ha j hj2; have h2 := hb j hj2
  have bj := bh j hj2
  rw [← hR]
  simp (disch := first | assumption | omega | (simp only [az]; done)) only [ru, eq_self, if_true, if_false, BEq.rfl, binI, AO.row?, splice, fillL, mmAll, loadV, storeV, zeros, Am.rowAt, Am.part, addOff, Nat.reduceAdd, Nat.reduceMul, Nat.reduceLeDiff, Nat.reduceSub, Nat.reduceLT, Int.reduceEq, Int.reduceLT, Int.reduceLE, Int.reduceGT, Int.reduceGE, Int.reduceAdd, Int.reduceSub, Int.reduceMul, Int.reduceNeg, Int.reduceToNat, reduceCtorEq, reduceIte, hlt, decide_true, nn, Int.toNat_natCast, Nat.mul_one, Nat.zero_add, rh, bj, fit, rp]
  exact ih (8 - (j + 1)) _ _ _ (by omega) ⟨j + 1, by omega, rfl, rfl, rfl, rfl, rfl, rfl, rfl, rfl⟩

def rW (t : List Pt) : Nat → Int := fun i => if i < t.length ∧ (t.getD i default).of = -1 then 1 else 0
theorem rW_b : RB (rW t) := fun i _ => by unfold rW; split <;> omega
set_option maxHeartbeats 1000000 in
theorem s67 (H : TbOk t v) (n8 : t.length ≤ 8) (st : Bool) : Iso E 28 [v] st = some (ag8 (rW t)) := by
  show Iso E 28 [v] st = some (.agg (rw_ 8 (rW t)))
  refine Iso_of (es _ _ _ _) e28 ?_
  simp only [f28]
  obtain ⟨Z, hZ⟩ : ∃ Z, Z = [I 0, I 0, I 0, I 0, I 0, I 0, I 0, I 0] := ⟨_, rfl⟩
  have zl : Z.length = 8 := by rw [hZ]; rfl
  have zd : Z.drop 8 = [] := List.drop_of_length_le (by omega)
  have fz : 8 ≤ Z.length := by omega
  simp only [← hZ]
  simp (disch := first | assumption | omega | (simp only [az]; done)) only [ru, eq_self, if_true, if_false, BEq.rfl, binI, AO.row?, splice, fillL, mmAll, loadV, storeV, zeros, Am.rowAt, Am.part, addOff, Nat.reduceAdd, Nat.reduceMul, Nat.reduceLeDiff, Nat.reduceSub, Nat.reduceLT, Int.reduceEq, Int.reduceLT, Int.reduceLE, Int.reduceGT, Int.reduceGE, Int.reduceAdd, Int.reduceSub, Int.reduceMul, Int.reduceNeg, Int.reduceToNat, reduceCtorEq, reduceIte, lenV_sl H.i, elem_pt H.i, view_sl H.i, scalar_sl H.i, cells_sl H.i, pure_sl H.i, Int.toNat_natCast]
  refine G_loop_ind (fun m ts hh mk => ∃ (j : Nat) (J : List AO), j ≤ t.length ∧ m = t.length - j ∧ ts.length = 20 ∧ ts.getD 2 .undef = .ptr 0 0 ∧ ts.getD 3 .undef = .ptr 1 0 ∧ ts.getD 6 .undef = v ∧ ts.getD 7 .undef = I t.length ∧ ts.getD 8 .undef = I j ∧ hh = .cells Z false :: .cells (rw_ 8 fun i => if i < j then rW t i else 0) false :: J ∧ mk = []) ?_ _ _ _ _
    ⟨0, [], by omega, rfl, rfl, rfl, rfl, rfl, rfl, rfl, by rw [hZ, z8]; rfl, rfl⟩
  rintro m ts hh mk ih ⟨j, J, hj', rfl, hl', q2, q3, q6, q7, q8, rfl, rfl⟩
  rw [lit_all hl']
  simp only [lit0, litS, Nat.reduceAdd, q2, q3, q6, q7, q8]
  by_cases hlt : (j : Int) < t.length
  case neg =>
    obtain rfl : j = t.length := by omega
    have e : (rw_ 8 fun i => if i < t.length then rW t i else 0) = rw_ 8 (rW t) := rw_congr fun i hi => by
      by_cases c : i < t.length
      · rw [if_pos c]
      · rw [if_neg c, rW, if_neg (fun h => c h.1)]
    rw [e]
    obtain ⟨R, hR⟩ : ∃ R, R = rw_ 8 (rW t) := ⟨_, rfl⟩
    have vt : R.take 8 = R := by rw [hR]; exact rw_take
    have vl : R.length = 8 := by rw [hR]; exact rw_len
    have vs : R.all AV.scalar = true := by rw [hR]; exact rw_sc
    have vv : ∀ st h k, R.mapM (view st h k) = some R := fun st h k => by rw [hR]; exact rw_view
    rw [← hR]
    simp (disch := first | assumption | omega | (simp only [az]; done)) only [ru, eq_self, if_true, if_false, BEq.rfl, binI, AO.row?, splice, fillL, mmAll, loadV, storeV, zeros, Am.rowAt, Am.part, addOff, Nat.reduceAdd, Nat.reduceMul, Nat.reduceLeDiff, Nat.reduceSub, Nat.reduceLT, Int.reduceEq, Int.reduceLT, Int.reduceLE, Int.reduceGT, Int.reduceGE, Int.reduceAdd, Int.reduceSub, Int.reduceMul, Int.reduceNeg, Int.reduceToNat, reduceCtorEq, reduceIte, hlt, decide_false, vt, vl, vs, zl, zd, fz, List.append_nil, finC, getRes, Option.some.injEq, exists_eq_left', view_agg, vv, Option.map_some]
  have hj2 : j < t.length := by omega
  obtain ⟨x, hx⟩ : ∃ x, x = t.getD j default := ⟨_, rfl⟩
  have n1 : (J ++ [AO.cells [I x.of, I x.w.lo, I x.w.hi, I x.s.lo, I x.s.hi, I x.p] false])[J.length]? = some (.cells [I x.of, I x.w.lo, I x.w.hi, I x.s.lo, I x.s.hi, I x.p] false) := atE
  have j8 : (j : Int) < 8 := by omega
  by_cases c : x.of = -1
  · obtain ⟨R, hR⟩ : ∃ R, R = rw_ 8 fun i => if i < j then rW t i else 0 := ⟨_, rfl⟩
    have rp : R.take j ++ [I 1] ++ R.drop (j + 1) = rw_ 8 fun i => if i < j + 1 then rW t i else 0 := by
      rw [hR]
      refine rw_put (by omega) fun i hi => ?_
      by_cases e : i = j
      · subst e; rw [if_pos rfl, if_pos (by omega), rW, if_pos ⟨hj2, by rw [← hx]; exact c⟩]
      · rw [if_neg e]; by_cases e2 : i < j
        · rw [if_pos e2, if_pos (by omega)]
        · rw [if_neg e2, if_neg (by omega)]
    have rl : R.length = 8 := by rw [hR, rw_len]
    have fit : j + 1 ≤ R.length := by omega
    rw [← hR]
    simp (disch := first | assumption | omega | (simp only [az]; done)) only [ru, eq_self, if_true, if_false, BEq.rfl, binI, AO.row?, splice, fillL, mmAll, loadV, storeV, zeros, Am.rowAt, Am.part, addOff, Nat.reduceAdd, Nat.reduceMul, Nat.reduceLeDiff, Nat.reduceSub, Nat.reduceLT, Int.reduceEq, Int.reduceLT, Int.reduceLE, Int.reduceGT, Int.reduceGE, Int.reduceAdd, Int.reduceSub, Int.reduceMul, Int.reduceNeg, Int.reduceToNat, reduceCtorEq, reduceIte, hlt, decide_true, lenV_sl H.i, elem_pt H.i, view_sl H.i, scalar_sl H.i, cells_sl H.i, pure_sl H.i, Int.toNat_natCast, ← hx, n1, setE, c, j8, nn, Nat.mul_one, Nat.zero_add, fit, rp]
    exact ih (t.length - (j + 1)) _ _ _ (by omega) ⟨j + 1, _, by omega, rfl, rfl, rfl, rfl, rfl, rfl, rfl, rfl, rfl⟩
  · have rp : (rw_ 8 fun i => if i < j then rW t i else 0) = rw_ 8 fun i => if i < j + 1 then rW t i else 0 := by
      refine rw_congr fun i hi => ?_
      by_cases e : i = j
      · subst e; rw [if_neg (by omega), if_pos (by omega), rW, if_neg (by rw [← hx]; exact fun h => c h.2)]
      · by_cases e2 : i < j
        · rw [if_pos e2, if_pos (by omega)]
        · rw [if_neg e2, if_neg (by omega)]
    rw [rp]
    simp (disch := first | assumption | omega | (simp only [az]; done)) only [ru, eq_self, if_true, if_false, BEq.rfl, binI, AO.row?, splice, fillL, mmAll, loadV, storeV, zeros, Am.rowAt, Am.part, addOff, Nat.reduceAdd, Nat.reduceMul, Nat.reduceLeDiff, Nat.reduceSub, Nat.reduceLT, Int.reduceEq, Int.reduceLT, Int.reduceLE, Int.reduceGT, Int.reduceGE, Int.reduceAdd, Int.reduceSub, Int.reduceMul, Int.reduceNeg, Int.reduceToNat, reduceCtorEq, reduceIte, hlt, decide_true, lenV_sl H.i, elem_pt H.i, view_sl H.i, scalar_sl H.i, cells_sl H.i, pure_sl H.i, Int.toNat_natCast, ← hx, n1, setE, c, decide_false]
    exact ih (t.length - (j + 1)) _ _ _ (by omega) ⟨j + 1, _, by omega, rfl, rfl, rfl, rfl, rfl, rfl, rfl, rfl, rfl⟩

/-- between what sums of weights are -/
def btw (t : List Pt) (r : Nat → Int) : AV := if is1 t then .tup [.agg [I (loV t r), I (hiV t r)], I 0] else .tup [.agg [I 0, I 0], I 3]
set_option maxHeartbeats 2000000 in
theorem s66 (H : TbOk t v) (T : TW t) {r : Nat → Int} (hr : RB r) (st : Bool) : Iso E 27 [v, ag8 r] st = some (btw t r) := by
  have hr2 : RB fun i => 0 - r i := fun i hi => by have := hr i hi; show -100 ≤ 0 - r i ∧ 0 - r i ≤ 100; omega
  have g74 := fun st => s74 (a := fun _ => 0) (b := r) (fun _ _ => by show -100 ≤ (0 : Int) ∧ (0 : Int) ≤ 100; omega) hr st
  obtain ⟨RR, hR⟩ : ∃ RR, RR = rw_ 8 r := ⟨_, rfl⟩
  obtain ⟨Q, hQ⟩ : ∃ Q, Q = rw_ 8 fun i => 0 - r i := ⟨_, rfl⟩
  have Rl : RR.length = 8 := by rw [hR]; exact rw_len
  have Rt : RR.take 8 = RR := by rw [hR]; exact rw_take
  have Rv : ∀ st h k, RR.mapM (view st h k) = some RR := fun st h k => by rw [hR]; exact rw_view
  have g74' : ∀ st, Iso E 47 [.agg [I 0, I 0, I 0, I 0, I 0, I 0, I 0, I 0], .agg RR] st = some (.agg Q) := fun st => by rw [hR, hQ, z8]; exact g74 st
  have sgn : ∀ (h : List AO) (r : Nat → Int), RB r → ∃ h', R E (.fn 45) [v, .fn 46 [ag8 r] []] h 0 = some (.fn 61 [] [.ptr h.length 0, .ptr (h.length + 1) 0], h ++ h') ∧ h'.length = 2 ∧ Ro E 44 [v, .fn 61 [] [.ptr h.length 0, .ptr (h.length + 1) 0]] (h ++ h') = some (I (En (Lst t (cT t r)))) := by
    intro h r hr
    obtain ⟨x, h', h1, rfl, rfl⟩ := r103 (v := v) (w := .fn 46 [ag8 r] []) rfl (cells_sl H.i) (h := h) (lim := 0)
    exact ⟨_, h1, rfl, s102 H T.toTG (cost131 H T hr (by rw [atT0]; rfl) (by rw [atT]; rfl)) ⟨rfl, rfl⟩ (cT_bd T hr)⟩
  obtain ⟨h1, a1, a2, a3⟩ := sgn [.cells RR false, .cells [I 0, I 0] false] r hr
  obtain ⟨h2, b1, b2, b3⟩ := sgn ([.cells RR false, .cells [I 0, I 0] false] ++ h1) (fun i => 0 - r i) hr2
  show Iso E 27 [v, .agg (rw_ 8 r)] st = some (btw t r)
  have a1' : R E (.fn 45) [v, .fn 46 [.agg RR] []] [.cells RR false, .cells [I 0, I 0] false] 0 = some (.fn 61 [] [.ptr 2 0, .ptr 3 0], [.cells RR false, .cells [I 0, I 0] false] ++ h1) := by rw [hR] at a1 ⊢; exact a1
  have ln : ([AO.cells RR false, .cells [I 0, I 0] false] ++ h1).length = 4 := by simp [a2]
  rw [ln] at b1 b3
  have b1' : R E (.fn 45) [v, .fn 46 [.agg Q] []] ([.cells RR false, .cells [I 0, I 0] false] ++ h1) 0 = some (.fn 61 [] [.ptr 4 0, .ptr 5 0], [.cells RR false, .cells [I 0, I 0] false] ++ h1 ++ h2) := by rw [hQ]; exact b1
  simp only [apC, apN, lenS, len0, Nat.reduceAdd, Nat.zero_add] at a1' a3 b1' b3
  have e1 := LstT_isSome (r := r) T.toTG
  rw [← hR]
  refine Iso_of (es _ _ _ _) e27 ?_
  simp only [f27, btw]
  cases hc : is1 t
  · have n1 : Lst t (cT t r) = none := LstT_none T.toTG hc
    rw [n1] at a3
    have en : En none = 9223372036854775807 := rfl
    rw [en] at a3
    simp (disch := first | assumption | omega | (simp only [az]; done)) only [ru, eq_self, if_true, if_false, BEq.rfl, binI, AO.row?, splice, fillL, mmAll, loadV, storeV, zeros, Am.rowAt, Am.part, addOff, Nat.reduceAdd, Nat.reduceMul, Nat.reduceLeDiff, Nat.reduceSub, Nat.reduceLT, Int.reduceEq, Int.reduceLT, Int.reduceLE, Int.reduceGT, Int.reduceGE, Int.reduceAdd, Int.reduceSub, Int.reduceMul, Int.reduceNeg, Int.reduceToNat, reduceCtorEq, reduceIte, lenV_sl H.i, elem_pt H.i, view_sl H.i, scalar_sl H.i, cells_sl H.i, pure_sl H.i, Int.toNat_natCast, Rl, Rt, exOp_call0, a1', exOp_call3, a3, decide_true, finC2, getRes, Option.some.injEq, exists_eq_left', Bool.false_eq_true]
  · obtain ⟨x, hx⟩ := LstT_some (r := r) T.toTG hc
    obtain ⟨y, hy⟩ := LstT_some (r := fun i => 0 - r i) T.toTG hc
    rw [hx] at a3
    rw [hy] at b3
    have ex : En (some x) = x := rfl
    have ey : En (some y) = y := rfl
    rw [ex] at a3
    rw [ey] at b3
    have lx : loV t r = x := by rw [loV, hx]; rfl
    have ly : hiV t r = 0 - y := by rw [hiV, hy]; rfl
    have bx := smS_bd (K := 3000) (by omega) (cT_bd T hr) t.length x hx
    have by_ := smS_bd (K := 3000) (by omega) (cT_bd T hr2) t.length y hy
    have pw := pow2_le T.n
    have p3 : ((2 : Int) ^ t.length - 1) * 3000 ≤ 255 * 3000 := Int.mul_le_mul_of_nonneg_right pw.1 (by omega)
    have xn : ¬ x = 9223372036854775807 := by omega
    simp (disch := first | assumption | omega | (simp only [az]; done)) only [ru, eq_self, if_true, if_false, BEq.rfl, binI, AO.row?, splice, fillL, mmAll, loadV, storeV, zeros, Am.rowAt, Am.part, addOff, Nat.reduceAdd, Nat.reduceMul, Nat.reduceLeDiff, Nat.reduceSub, Nat.reduceLT, Int.reduceEq, Int.reduceLT, Int.reduceLE, Int.reduceGT, Int.reduceGE, Int.reduceAdd, Int.reduceSub, Int.reduceMul, Int.reduceNeg, Int.reduceToNat, reduceCtorEq, reduceIte, lenV_sl H.i, elem_pt H.i, view_sl H.i, scalar_sl H.i, cells_sl H.i, pure_sl H.i, Int.toNat_natCast, Rl, Rt, Rv, view_agg, Option.map_some, exOp_call0, a1', exOp_call3, a3, xn, decide_false, g74', b1', b3, lx, ly, finC2, getRes, Option.some.injEq, exists_eq_left']
end
end Go.Proofs.Ytokhneffambgmaa.S

/-
The program's answers: weights, prices, changes.
-/
namespace Go.Proofs.Ytokhneffambgmaa.S
open Go Go.Am Go.Proofs.Ytokhneffambgmaa.T
set_option maxRecDepth 100000
set_option linter.unusedSimpArgs false
set_option linter.unusedVariables false

theorem OutE.fr {α : Type} {enc : α → List AV} {esz b : Nat} {h h' : List AO} {v : AV} {l : List α} (H : OutE enc esz b h v l) (F : Fr h h') : OutE enc esz b h' v l := by
  rcases H with h1 | ⟨hne, o, hb, e, hc⟩
  · exact .inl h1
  · exact .inr ⟨hne, o, hb, e, F.at hc⟩
def erR (e : Int) : AV := .tup [.agg [I 0, I 0], I e]
def askR (t : List Pt) (q : Bool) (r : Nat → Int) : AV := if tval t then (if q then btw t r else erR 1) else erR 70
section
variable {t : List Pt} {v : AV}
theorem s20 (H : TbOk t v) (st : Bool) : Iso E 9 [v] st = some (askR t true (rW t)) := by
  refine Iso_of (es _ _ _ _) e9 ?_
  simp only [f9, askR, erR]
  cases hv : tval t
  · simp (disch := first | assumption | omega | (simp only [az]; done)) only [ru, eq_self, if_true, if_false, BEq.rfl, binI, AO.row?, splice, fillL, mmAll, loadV, storeV, zeros, Am.rowAt, Am.part, addOff, Nat.reduceAdd, Nat.reduceMul, Nat.reduceLeDiff, Nat.reduceSub, Nat.reduceLT, Int.reduceEq, Int.reduceLT, Int.reduceLE, Int.reduceGT, Int.reduceGE, Int.reduceAdd, Int.reduceSub, Int.reduceMul, Int.reduceNeg, Int.reduceToNat, reduceCtorEq, reduceIte, lenV_sl H.i, elem_pt H.i, view_sl H.i, scalar_sl H.i, cells_sl H.i, pure_sl H.i, Int.toNat_natCast, s52 H, hv, decide_false, decide_true, Bool.not_false, finC2, getRes, Option.some.injEq, exists_eq_left', Bool.false_eq_true]
  have T := tval_W hv
  have g2 := fun st => s67 H T.n st
  have g3 := fun st => s66 H T (rW_b (t := t)) st
  obtain ⟨B, hB⟩ : ∃ B, B = rw_ 8 (rW t) := ⟨_, rfl⟩
  have g2' : ∀ st, Iso E 28 [v] st = some (.agg B) := fun st => by rw [hB]; exact g2 st
  have g3' : ∀ st, Iso E 27 [v, .agg B] st = some (btw t (rW t)) := fun st => by rw [hB]; exact g3 st
  have Bv : ∀ st h k, B.mapM (view st h k) = some B := fun st h k => by rw [hB]; exact rw_view
  simp only [btw] at g3' ⊢
  cases h1 : is1 t
  · simp only [h1, Bool.false_eq_true, if_false] at g3'
    simp (disch := first | assumption | omega | (simp only [az]; done)) only [ru, eq_self, if_true, if_false, BEq.rfl, binI, AO.row?, splice, fillL, mmAll, loadV, storeV, zeros, Am.rowAt, Am.part, addOff, Nat.reduceAdd, Nat.reduceMul, Nat.reduceLeDiff, Nat.reduceSub, Nat.reduceLT, Int.reduceEq, Int.reduceLT, Int.reduceLE, Int.reduceGT, Int.reduceGE, Int.reduceAdd, Int.reduceSub, Int.reduceMul, Int.reduceNeg, Int.reduceToNat, reduceCtorEq, reduceIte, lenV_sl H.i, elem_pt H.i, view_sl H.i, scalar_sl H.i, cells_sl H.i, pure_sl H.i, Int.toNat_natCast, s52 H, hv, decide_false, decide_true, Bool.not_true, g2', view_agg, Bv, Option.map_some, g3', finC2, getRes, Option.some.injEq, exists_eq_left', Bool.false_eq_true]
  · simp only [h1, if_true] at g3'
    simp (disch := first | assumption | omega | (simp only [az]; done)) only [ru, eq_self, if_true, if_false, BEq.rfl, binI, AO.row?, splice, fillL, mmAll, loadV, storeV, zeros, Am.rowAt, Am.part, addOff, Nat.reduceAdd, Nat.reduceMul, Nat.reduceLeDiff, Nat.reduceSub, Nat.reduceLT, Int.reduceEq, Int.reduceLT, Int.reduceLE, Int.reduceGT, Int.reduceGE, Int.reduceAdd, Int.reduceSub, Int.reduceMul, Int.reduceNeg, Int.reduceToNat, reduceCtorEq, reduceIte, lenV_sl H.i, elem_pt H.i, view_sl H.i, scalar_sl H.i, cells_sl H.i, pure_sl H.i, Int.toNat_natCast, s52 H, hv, decide_false, decide_true, Bool.not_true, g2', view_agg, Bv, Option.map_some, g3', finC2, getRes, Option.some.injEq, exists_eq_left']

end
end Go.Proofs.Ytokhneffambgmaa.S

/-
Truths (program), and changes: the least change of a parting, the first such parting, and who is changed.
-/
namespace Go.Proofs.Ytokhneffambgmaa.S
open Go Go.Am Go.Proofs.Ytokhneffambgmaa.T
set_option maxRecDepth 100000
set_option linter.unusedSimpArgs false
set_option linter.unusedVariables false

/-! mathematics of changes -/
section
variable {t : List Pt} {v : AV}
end
end Go.Proofs.Ytokhneffambgmaa.S

/-
The program's Fix and Holds.
-/
namespace Go.Proofs.Ytokhneffambgmaa.S
open Go Go.Am Go.Proofs.Ytokhneffambgmaa.T
set_option maxRecDepth 100000
set_option linter.unusedSimpArgs false
set_option linter.unusedVariables false

section
variable {t : List Pt} {v : AV}
/-! truths -/
end
end Go.Proofs.Ytokhneffambgmaa.S

/-
Cuts, one after the other, and the one that surely pays the most (program).
-/
namespace Go.Proofs.Ytokhneffambgmaa.S
open Go Go.Am Go.Proofs.Ytokhneffambgmaa.T
set_option maxRecDepth 100000
set_option linter.unusedSimpArgs false
set_option linter.unusedVariables false

section
variable {q : List Int → Int → Bool} {k : Nat}
end

attribute [local irreducible] Go.Am.G Go.Am.GO Go.Am.GG Go.Am.GC Go.Am.GP Go.Am.GX
section
variable {t : List Pt} {v : AV}
end
end Go.Proofs.Ytokhneffambgmaa.S

/-
The cut that surely pays the most, and what a penny more brings (program).
-/
namespace Go.Proofs.Ytokhneffambgmaa.S
open Go Go.Am Go.Proofs.Ytokhneffambgmaa.T
set_option maxRecDepth 100000
set_option linter.unusedSimpArgs false
set_option linter.unusedVariables false
attribute [local irreducible] Go.Am.G Go.Am.GO Go.Am.GG Go.Am.GC Go.Am.GP Go.Am.GX

section
variable {t : List Pt} {v : AV}
end
end Go.Proofs.Ytokhneffambgmaa.S

/-
Costs as rows of numbers in a heap (specification).
-/
namespace Go.Proofs.Ytokhneffambgmaa.S
open Go Go.Am Go.Proofs.Ytokhneffambgmaa.T
set_option maxRecDepth 100000
set_option linter.unusedSimpArgs false
set_option linter.unusedVariables false

section
variable {t : List Pt} {v : AV}
end
end Go.Proofs.Ytokhneffambgmaa.S

/-
Costs of words and of changes, and of two things together (specification).
-/
namespace Go.Proofs.Ytokhneffambgmaa.S
open Go Go.Am Go.Proofs.Ytokhneffambgmaa.T
set_option maxRecDepth 100000
set_option linter.unusedSimpArgs false
set_option linter.unusedVariables false

section
variable {t : List Pt} {v : AV}
end

/-! two things together -/
end Go.Proofs.Ytokhneffambgmaa.S

/-
The least cost (specification): part by part, from the last one on.
-/
namespace Go.Proofs.Ytokhneffambgmaa.S
open Go Go.Am Go.Proofs.Ytokhneffambgmaa.T
set_option maxRecDepth 100000
set_option linter.unusedSimpArgs false
set_option linter.unusedVariables false

section
variable {t : List Pt} {v : AV}
end
end Go.Proofs.Ytokhneffambgmaa.S

/-
Is there a truth? Tables that are changed a little (specification). The helpers of the laws.
-/
namespace Go.Proofs.Ytokhneffambgmaa.S
open Go Go.Am Go.Proofs.Ytokhneffambgmaa.T
set_option maxRecDepth 100000
set_option linter.unusedSimpArgs false
set_option linter.unusedVariables false

section
variable {t : List Pt} {v : AV}
end
end Go.Proofs.Ytokhneffambgmaa.S

/-
The helpers of the laws.
-/
namespace Go.Proofs.Ytokhneffambgmaa.S
open Go Go.Am Go.Proofs.Ytokhneffambgmaa.T
set_option maxRecDepth 100000
set_option linter.unusedSimpArgs false
set_option linter.unusedVariables false

/-! what the least list of weights is -/
section
variable {t : List Pt}
theorem loV_eq {r : Nat → Int} (T : TG t) {x : Int} (u : Nat → Int) (hu : TruF t u) (e : lin r u t.length = x) (h : ∀ w, TruF t w → x ≤ lin r w t.length) : loV t r = x := by
  have h1 : is1 t = true := (is1_iff T).2 ⟨u, hu⟩
  obtain ⟨⟨w, hw, e2⟩, h3⟩ := loV_spec (r := r) T h1
  have := h3 u hu; have := h w hw; omega
theorem hiV_eq {r : Nat → Int} (T : TG t) {x : Int} (u : Nat → Int) (hu : TruF t u) (e : lin r u t.length = x) (h : ∀ w, TruF t w → lin r w t.length ≤ x) : hiV t r = x := by
  have h1 : is1 t = true := (is1_iff T).2 ⟨u, hu⟩
  obtain ⟨⟨w, hw, e2⟩, h3⟩ := hiV_spec (r := r) T h1
  have := h3 u hu; have := h w hw; omega
end

end Go.Proofs.Ytokhneffambgmaa.S

/-
The chapter's examples.
-/
namespace Go.Proofs.Ytokhneffambgmaa.S
open Go Go.Am Go.Proofs.Ytokhneffambgmaa.T
set_option maxRecDepth 100000
set_option linter.unusedSimpArgs false
set_option linter.unusedVariables false

/-! the chapter's examples -/
def exT : List Pt := [⟨-1, ⟨20, 24⟩, ⟨1, 3⟩, 2⟩, ⟨0, ⟨8, 12⟩, ⟨0, 2⟩, 3⟩, ⟨0, ⟨9, 10⟩, ⟨0, 0⟩, 4⟩, ⟨1, ⟨6, 7⟩, ⟨0, 0⟩, 6⟩, ⟨1, ⟨0, 30⟩, ⟨0, 0⟩, 1⟩]
def exU : List Pt := [⟨-1, ⟨20, 24⟩, ⟨1, 3⟩, 2⟩, ⟨0, ⟨0, 5⟩, ⟨0, 2⟩, 3⟩, ⟨0, ⟨9, 10⟩, ⟨0, 0⟩, 4⟩, ⟨1, ⟨6, 7⟩, ⟨0, 0⟩, 6⟩, ⟨1, ⟨0, 30⟩, ⟨0, 0⟩, 1⟩]
theorem exT_v : tval exT = true := by decide +kernel
theorem exT_W : TW exT := tval_W exT_v
theorem exT_par {u : Nat → Int} (h : PartF exT u) : 1 ≤ u 0 - (u 1 + u 2) ∧ u 0 - (u 1 + u 2) ≤ 3 ∧ 0 ≤ u 1 - (u 3 + u 4) ∧ u 1 - (u 3 + u 4) ≤ 2 ∧ 0 ≤ u 2 ∧ 0 ≤ u 3 ∧ 0 ≤ u 4 := by
  have h0 := (h 0 (by decide)).2
  have h1 := (h 1 (by decide)).2
  have h2 := (h 2 (by decide)).1
  have h3 := (h 3 (by decide)).1
  have h4 := (h 4 (by decide)).1
  have a0 : 1 ≤ u 0 - (0 + 0 + u 1 + u 2 + 0 + 0) ∧ u 0 - (0 + 0 + u 1 + u 2 + 0 + 0) ≤ 3 := h0
  have a1 : 0 ≤ u 1 - (0 + 0 + 0 + 0 + u 3 + u 4) ∧ u 1 - (0 + 0 + 0 + 0 + u 3 + u 4) ≤ 2 := h1
  omega
theorem exT_tru {u : Nat → Int} (h : TruF exT u) : (20 ≤ u 0 ∧ u 0 ≤ 24) ∧ (8 ≤ u 1 ∧ u 1 ≤ 12) ∧ (9 ≤ u 2 ∧ u 2 ≤ 10) ∧ (6 ≤ u 3 ∧ u 3 ≤ 7) ∧ (0 ≤ u 4 ∧ u 4 ≤ 30) := ⟨h.2 0 (by decide), h.2 1 (by decide), h.2 2 (by decide), h.2 3 (by decide), h.2 4 (by decide)⟩
theorem tru_list {t : List Pt} (T : TW t) {l : List Int} (h : truB t l = true) : TruF t (fu l) := ((truB_iff T).1 h).2
theorem exT_1 : is1 exT = true := (is1_iff exT_W.toTG).2 ⟨_, tru_list exT_W (l := [20, 8, 9, 6, 0]) (by decide +kernel)⟩
theorem s101 (a b c d e f : Int) (st : Bool) : Iso E 42 [I a, I b, I c, I d, I e, I f] st = some (.agg [I a, I b, I c, I d, I e, I f]) := by
  refine Iso_of (es _ _ _ _) e42 ?_
  simp only [f42]
  simp (disch := first | assumption | omega | (simp only [az]; done)) only [ru, eq_self, if_true, if_false, BEq.rfl, binI, AO.row?, splice, fillL, mmAll, loadV, storeV, zeros, Am.rowAt, Am.part, addOff, Nat.reduceAdd, Nat.reduceMul, Nat.reduceLeDiff, Nat.reduceSub, Nat.reduceLT, Int.reduceEq, Int.reduceLT, Int.reduceLE, Int.reduceGT, Int.reduceGE, Int.reduceAdd, Int.reduceSub, Int.reduceMul, Int.reduceNeg, Int.reduceToNat, reduceCtorEq, reduceIte, finC, getRes, Option.some.injEq, exists_eq_left', view_agg, List.mapM_cons, List.mapM_nil, view_int, Option.bind_eq_bind, Option.pure_def, Option.bind_some, Option.map_some]
abbrev exTv : AV := slV 6 Pt.e exT
abbrev exUv : AV := slV 6 Pt.e exU
theorem exT_ok : TbOk exT exTv := ⟨slV_is, by decide⟩
theorem s65 : Iso E 25 [] false = some (.tup [exTv, exUv]) := by
  have eT : AV.cs 6 5 (exT.flatMap Pt.e) = exTv := rfl
  obtain ⟨o, h', A, fr, ho, hc⟩ := cpyO (eb := 48) (lim := 0) (h := ([] : List AO)) (slV_is (esz := 6) (enc := Pt.e) (l := exT)) Pt.el Pt.sc (by decide) (by omega) (Nat.zero_le _)
  simp only [apN, len0, List.nil_append, List.length_nil] at A
  have tl : exT.length = 5 := rfl
  rw [tl] at A
  have ol := (List.getElem?_eq_some_iff.1 hc).1
  have hcl : (exT.flatMap Pt.e).length = 30 := rfl
  have fin : (exT.flatMap Pt.e).take (1 * 6) ++ [I 0, I 0, I 5, I 0, I 2, I 3] ++ (exT.flatMap Pt.e).drop (1 * 6 + 6) = exU.flatMap Pt.e := rfl
  have fin2 : (exT.flatMap Pt.e).take 6 ++ I 0 :: I 0 :: I 5 :: I 0 :: I 2 :: I 3 :: (exT.flatMap Pt.e).drop 12 = exU.flatMap Pt.e := rfl
  have vw := RdC.view (enc := Pt.e) (esz := 6) (l := exU) (h := h'.set o (.cells (exU.flatMap Pt.e) false)) (w := .ms 6 o 0 5) ⟨o, rfl, by rw [List.getElem?_set_self ol]⟩ Pt.el Pt.iv (st := false) (k := 6)
  have lt1 : (1 : Int) < ((5 : Nat) : Int) := by decide
  have fit : 1 * 6 + 6 ≤ (exT.flatMap Pt.e).length := by decide
  have fit2 : 12 ≤ (exT.flatMap Pt.e).length := by decide
  obtain ⟨Z, hZ⟩ : ∃ Z, Z = exT.flatMap Pt.e := ⟨_, rfl⟩
  have lz : [I (-1), I 20, I 24, I 1, I 3, I 2, I 0, I 8, I 12, I 0, I 2, I 3, I 0, I 9, I 10, I 0, I 0, I 4, I 1, I 6, I 7, I 0, I 0, I 6, I 1, I 0, I 30, I 0, I 0, I 1] = Z := by rw [hZ]; rfl
  have eT2 : AV.cs 6 5 Z = exTv := by rw [hZ]; rfl
  rw [← hZ] at hc fit2 fin2
  have A2 : appV 0 [AO.cells [] false] 6 48 (.ms 6 0 0 0) (.cs 6 5 Z) = some (.ms 6 o 0 5, h') := by rw [eT2]; exact A
  have i1 : (1 : Int).toNat * 6 = 6 := rfl
  have vT : ∀ h : List AO, view false h 7 exTv = some exTv := fun h => by rw [← eT, view_cs]
  have pz : AV.pureV.go Z = true := by rw [hZ]; rfl
  refine Iso_of (es _ _ _ _) e25 ?_
  simp only [f25]
  simp (disch := first | assumption | omega | (simp only [az]; done)) only [ru, eq_self, if_true, if_false, BEq.rfl, binI, AO.row?, splice, fillL, mmAll, loadV, storeV, zeros, Am.rowAt, Am.part, addOff, Nat.reduceAdd, Nat.reduceMul, Nat.reduceLeDiff, Nat.reduceSub, Nat.reduceLT, Int.reduceEq, Int.reduceLT, Int.reduceLE, Int.reduceGT, Int.reduceGE, Int.reduceAdd, Int.reduceSub, Int.reduceMul, Int.reduceNeg, Int.reduceToNat, reduceCtorEq, reduceIte, s101, exOp_litS, AV.pureV.go, AV.pureV, Bool.and_true, lz, pz, A, elemAt_ms, lt1, i1, Nat.zero_add, hc, fit2, List.append_assoc, fin2, vw, view_tup, List.mapM_cons, List.mapM_nil, Option.bind_eq_bind, Option.pure_def, Option.bind_some, Option.map_some, vT, eT2]
end Go.Proofs.Ytokhneffambgmaa.S

