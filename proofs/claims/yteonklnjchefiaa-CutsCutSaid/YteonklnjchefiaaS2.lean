/-
The mathematics and the functions, one after another (S2).
-/
import Derived.Test.YteonklnjchefiaaS1

/-
The least cost of all parts (program): a range over the parts backward.
-/
namespace Go.Proofs.Yteonklnjchefiaa.S
open Go Go.Am Go.Proofs.Yteonklnjchefiaa.T
set_option maxRecDepth 100000
set_option linter.unusedSimpArgs false
set_option linter.unusedVariables false
attribute [local irreducible] Go.Am.G Go.Am.GO Go.Am.GG Go.Am.GC Go.Am.GP Go.Am.GX

/-! rows of rows -/
theorem fl_get {k : Nat} : ∀ {L : List (List AV)} {i : Nat}, (∀ r ∈ L, r.length = k) → (h : i < L.length) → (L.flatten.drop (i * k)).take k = L[i]
  | [], i, _, h => by simp at h
  | a :: L, 0, hk, _ => by
    have := hk a (by simp)
    simp only [Nat.zero_mul, List.drop_zero, List.flatten_cons, List.getElem_cons_zero]
    rw [← this, List.take_left]
  | a :: L, i + 1, hk, h => by
    have ha := hk a (by simp)
    have ih := fl_get (k := k) (L := L) (i := i) (fun r hr => hk r (by simp [hr])) (by simpa using h)
    rw [List.flatten_cons, show (i + 1) * k = a.length + i * k by rw [Nat.succ_mul, ha]; omega, List.drop_append, List.drop_of_length_le (by omega), List.nil_append, show a.length + i * k - a.length = i * k by omega, ih]
    rfl
theorem fl_put {k : Nat} {x : List AV} (hx : x.length = k) : ∀ {L : List (List AV)} {i : Nat}, (∀ r ∈ L, r.length = k) → i < L.length → L.flatten.take (i * k) ++ (x ++ L.flatten.drop (i * k + k)) = (L.set i x).flatten
  | [], i, _, h => by simp at h
  | a :: L, 0, hk, _ => by
    have := hk a (by simp)
    simp only [Nat.zero_mul, List.take_zero, List.nil_append, Nat.zero_add, List.flatten_cons, List.set_cons_zero]
    rw [← this, List.drop_left]
  | a :: L, i + 1, hk, h => by
    have ha := hk a (by simp)
    have ih := fl_put hx (L := L) (i := i) (fun r hr => hk r (by simp [hr])) (by simpa using h)
    have e1 : (i + 1) * k = a.length + i * k := by rw [Nat.succ_mul, ha]; omega
    rw [List.flatten_cons, List.set_cons_succ, List.flatten_cons, ← ih, e1, Nat.add_assoc, List.take_append, List.drop_append, List.take_of_length_le (by omega), List.drop_of_length_le (by omega), List.append_assoc]
    rw [show a.length + i * k - a.length = i * k by omega, show a.length + (i * k + k) - a.length = i * k + k by omega, List.nil_append]
def r8 (F : Nat → List AV) : List (List AV) := (List.range 8).map F
theorem r8_len {F : Nat → List AV} : (r8 F).length = 8 := by simp [r8]
theorem r8_get {F : Nat → List AV} {i : Nat} (h : i < 8) (hl : ∀ p, (F p).length = 31) : ((r8 F).flatten.drop (i * 31)).take 31 = F i := by
  rw [fl_get (by intro r hr; obtain ⟨p, _, rfl⟩ := List.mem_map.1 hr; exact hl p) (by rw [r8_len]; exact h)]
  simp [r8]
theorem r8_put {F F' : Nat → List AV} {i : Nat} (h : i < 8) (hl : ∀ p, (F p).length = 31) {x : List AV} (hx : x.length = 31) (he : ∀ p, F' p = if p = i then x else F p) : (r8 F).flatten.take (i * 31) ++ (x ++ (r8 F).flatten.drop (i * 31 + 31)) = (r8 F').flatten := by
  rw [fl_put hx (by intro r hr; obtain ⟨p, _, rfl⟩ := List.mem_map.1 hr; exact hl p) (by rw [r8_len]; exact h)]
  congr 1
  refine List.ext_getElem (by simp [r8]) fun k h1 h2 => ?_
  simp only [r8, List.getElem_set, List.getElem_map, List.getElem_range, he]
  by_cases e : i = k
  · subst e; simp
  · rw [if_neg e, if_neg (fun h => e h.symm)]
theorem r8_flat {F : Nat → List AV} (hl : ∀ p, (F p).length = 31) : (r8 F).flatten.length = 248 := by
  simp only [r8, List.length_flatten, List.map_map]
  rw [show List.map (List.length ∘ F) (List.range 8) = List.map (fun _ => 31) (List.range 8) from List.map_congr_left fun p _ => hl p]
  rfl
theorem z248 : Z248 = (r8 fun _ => Z31).flatten := by kernel_rfl
theorem z31_len : Z31.length = 31 := by rw [z31, rw_len]

section
variable {t : List Pt} {v : AV}
theorem r126 {h : List AO} {lim : Nat} : ∃ r h', R E (.fn 126) [v] h lim = some (r, h') ∧ r = .fn 138 [] [.ptr h.length 0] ∧ h' = h ++ [.cells v.cells false] := by
  refine R_of (fun r h' => r = .fn 138 [] [.ptr h.length 0] ∧ h' = h ++ [.cells v.cells false]) (es _ _ _ _) e126 ?_
  simp only [f126]
  simp (disch := first | assumption | omega | (simp only [az]; done)) only [ru, eq_self, if_true, if_false, BEq.rfl, binI, AO.row?, splice, fillL, mmAll, loadV, storeV, zeros, Am.rowAt, Am.part, addOff, Nat.reduceAdd, Nat.reduceMul, Nat.reduceLeDiff, Nat.reduceSub, Nat.reduceLT, Int.reduceEq, Int.reduceLT, Int.reduceLE, Int.reduceGT, Int.reduceGE, Int.reduceAdd, Int.reduceSub, Int.reduceMul, Int.reduceNeg, Int.reduceToNat, reduceCtorEq, reduceIte]
theorem r138 (H : TbOk t v) {b o lim : Nat} (P : Nat → List AO → Prop) (hb : ∀ m h, P m h → h[b]? = some (.cells [v] false))
    (step : ∀ m h, m < t.length → P m h → ∀ x, x = t.getD (t.length - (m + 1)) default → ∃ h', R E (.rnd o) [I ((t.length - (m + 1) : Nat)), .agg [I x.of, I x.w.lo, I x.w.hi, I x.s.lo, I x.s.hi, I x.p]] h lim = some (Bo true, h') ∧ P (m + 1) h')
    {h : List AO} (h0 : P 0 h) : ∃ r h', R E (.fn 138) [.yld o, .ptr b 0] h lim = some (r, h') ∧ P t.length h' := by
  have sp := H.n
  refine R_of (fun r h' => P t.length h') (es _ _ _ _) e138 ?_
  simp only [f138]
  have hb0 := hb _ _ h0
  simp (disch := first | assumption | omega | (simp only [az]; done)) only [ru, eq_self, if_true, if_false, BEq.rfl, binI, AO.row?, splice, fillL, mmAll, loadV, storeV, zeros, Am.rowAt, Am.part, addOff, Nat.reduceAdd, Nat.reduceMul, Nat.reduceLeDiff, Nat.reduceSub, Nat.reduceLT, Int.reduceEq, Int.reduceLT, Int.reduceLE, Int.reduceGT, Int.reduceGE, Int.reduceAdd, Int.reduceSub, Int.reduceMul, Int.reduceNeg, Int.reduceToNat, reduceCtorEq, reduceIte, hb0, lenV_sl H.i, elem_pt H.i, view_sl H.i, scalar_sl H.i, cells_sl H.i, pure_sl H.i, Int.toNat_natCast]
  refine G_loop_ind (fun k ts hh mk => ∃ m : Nat, m ≤ t.length ∧ k = t.length - m ∧ ts.length = 19 ∧ ts.getD 0 .undef = .yld o ∧ ts.getD 1 .undef = .ptr b 0 ∧ ts.getD 3 .undef = I ((t.length : Int) - 1 - m) ∧ P m hh ∧ mk = []) ?_ _ _ _ _ ⟨0, Nat.zero_le _, rfl, rfl, rfl, rfl, by simp, h0, rfl⟩
  rintro k ts hh mk ih ⟨m, hm, rfl, hl', q0, q1, q3, hP, rfl⟩
  rw [lit_all hl']
  simp only [lit0, litS, Nat.reduceAdd, q0, q1, q3]
  by_cases hlt : (t.length : Int) - 1 - m ≥ 0
  case neg =>
    obtain rfl : m = t.length := by omega
    simp (disch := first | assumption | omega | (simp only [az]; done)) only [ru, eq_self, if_true, if_false, BEq.rfl, binI, AO.row?, splice, fillL, mmAll, loadV, storeV, zeros, Am.rowAt, Am.part, addOff, Nat.reduceAdd, Nat.reduceMul, Nat.reduceLeDiff, Nat.reduceSub, Nat.reduceLT, Int.reduceEq, Int.reduceLT, Int.reduceLE, Int.reduceGT, Int.reduceGE, Int.reduceAdd, Int.reduceSub, Int.reduceMul, Int.reduceNeg, Int.reduceToNat, reduceCtorEq, reduceIte, hlt, decide_false]
    exact hP
  have hm2 : m < t.length := by omega
  obtain ⟨x, hx⟩ : ∃ x, x = t.getD (t.length - (m + 1)) default := ⟨_, rfl⟩
  obtain ⟨h', hr, hP'⟩ := step m hh hm2 hP x hx
  have e1 : (t.length : Int) - 1 - m = ((t.length - (m + 1) : Nat) : Int) := by omega
  have lt1 : ((t.length - (m + 1) : Nat) : Int) < t.length := by omega
  have hb1 := hb _ _ hP
  rw [e1] at hlt ⊢
  simp (disch := first | assumption | omega | (simp only [az]; done)) only [ru, eq_self, if_true, if_false, BEq.rfl, binI, AO.row?, splice, fillL, mmAll, loadV, storeV, zeros, Am.rowAt, Am.part, addOff, Nat.reduceAdd, Nat.reduceMul, Nat.reduceLeDiff, Nat.reduceSub, Nat.reduceLT, Int.reduceEq, Int.reduceLT, Int.reduceLE, Int.reduceGT, Int.reduceGE, Int.reduceAdd, Int.reduceSub, Int.reduceMul, Int.reduceNeg, Int.reduceToNat, reduceCtorEq, reduceIte, hlt, decide_true, hb1, lenV_sl H.i, elem_pt H.i, view_sl H.i, scalar_sl H.i, cells_sl H.i, pure_sl H.i, Int.toNat_natCast, lt1, nn, ← hx, exOp_callv0, hr, Bool.not_true]
  exact ih (t.length - (m + 1)) _ _ _ (by omega) ⟨m + 1, by omega, rfl, rfl, rfl, rfl, by show I _ = I _; congr 1; omega, hP', rfl⟩

def insF (t : List Pt) (c : Nat → Int → Option Int) (m p : Nat) : List AV := if p < t.length then rwE (ins t c m p) else Z31
theorem insF_len {c : Nat → Int → Option Int} {m p : Nat} : (insF t c m p).length = 31 := by
  unfold insF; split
  · exact rw_len
  · exact z31_len
/-- what is kept while the parts are gone through backward -/
structure Lp (t : List Pt) (c : Nat → Int → Option Int) (v fv : AV) (h0 : List AO) (TS : List AV) (m : Nat) (h : List AO) : Prop where
  fr : Fr h0 h
  a : h[h0.length]? = some (.cells [fv] false)
  b : h[h0.length + 1]? = some (.cells (r8 (insF t c m)).flatten false)
  c : h[h0.length + 2]? = some (.cells [I (En (smS t c m))] false)
  d : h[h0.length + 3]? = some (.cells [v] false)
  e : h[h0.length + 4]? = some .dfr
  f : h[h0.length + 5]? = some (.loop .ready none 102 TS [25, 26] As102 Bd102 (h0.length + 4))

set_option maxHeartbeats 4000000 in
theorem lp_step {c : Nat → Int → Option Int} {fv : AV} {h0 : List AO} {TS : List AV} (T : TG t) (hC : Cost h0 fv t.length c) (hfv : fv.scalar = true ∧ fv.cells = [fv]) (hc : ∀ i b x, c i b = some x → -3000 ≤ x ∧ x ≤ 3000)
    (hl : TS.length = 50) (q3 : TS.getD 3 .undef = .ptr h0.length 0) (q5 : TS.getD 5 .undef = .ptr (h0.length + 1) 0) (q7 : TS.getD 7 .undef = .ptr (h0.length + 2) 0)
    {m : Nat} {h : List AO} (hm : m < t.length) (S : Lp t c v fv h0 TS m h) {x : Pt} (hx : x = t.getD (t.length - (m + 1)) default) :
    ∃ h', R E (.rnd (h0.length + 5)) [I ((t.length - (m + 1) : Nat)), .agg [I x.of, I x.w.lo, I x.w.hi, I x.s.lo, I x.s.hi, I x.p]] h h0.length = some (Bo true, h') ∧ Lp t c v fv h0 TS (m + 1) h' := by
  have t8 := T.n
  obtain ⟨q, hq⟩ : ∃ q, q = t.length - (m + 1) := ⟨_, rfl⟩
  rw [← hq] at hx ⊢
  have hqt : q < t.length := by omega
  have ho := T.of q hqt
  rw [← hx] at ho
  have lf := (List.getElem?_eq_some_iff.1 S.f).1
  have bdI : ∀ m, m ≤ 8 → ∀ p y, Bd 400000000 (ins t c m p y) := fun m hm p y u hu => by
    have := ins_bd (K := 3000) (by omega) hc m p y u hu
    have := pow2_le hm
    have h1 : ((2 : Int) ^ m - 1) * 3000 ≤ 255 * 3000 := Int.mul_le_mul_of_nonneg_right this.1 (by omega)
    omega
  have bdS : ∀ m, m ≤ 8 → Bd 400000000 (smS t c m) := fun m hm u hu => by
    have := smS_bd (K := 3000) (by omega) hc m u hu
    have := pow2_le hm
    have h1 : ((2 : Int) ^ m - 1) * 3000 ≤ 255 * 3000 := Int.mul_le_mul_of_nonneg_right this.1 (by omega)
    omega
  have bdc : ∀ i b, Bd 3000 (c i b) := fun i b u hu => hc i b u hu
  have := R_rnd_of (E := E) (lim := h0.length) (args := [I (q : Nat), .agg [I x.of, I x.w.lo, I x.w.hi, I x.s.lo, I x.s.hi, I x.p]]) (P := fun r h' => r = Bo true ∧ Lp t c v fv h0 TS (m + 1) h') S.f rfl (by omega) ?_
  · obtain ⟨r, h', hr, rfl, hp⟩ := this
    exact ⟨h', hr, hp⟩
  simp only [setAll]
  have hl2 : ((TS.set 25 (I (q : Nat))).set 26 (.agg [I x.of, I x.w.lo, I x.w.hi, I x.s.lo, I x.s.hi, I x.p])).length = 50 := by simp [hl]
  rw [lit_all hl2]
  have g3 : ((TS.set 25 (I (q : Nat))).set 26 (.agg [I x.of, I x.w.lo, I x.w.hi, I x.s.lo, I x.s.hi, I x.p])).getD 3 .undef = .ptr h0.length 0 := by
    rw [List.getD_eq_getElem?_getD, List.getElem?_set_ne (by omega), List.getElem?_set_ne (by omega), ← List.getD_eq_getElem?_getD, q3]
  have g5 : ((TS.set 25 (I (q : Nat))).set 26 (.agg [I x.of, I x.w.lo, I x.w.hi, I x.s.lo, I x.s.hi, I x.p])).getD 5 .undef = .ptr (h0.length + 1) 0 := by
    rw [List.getD_eq_getElem?_getD, List.getElem?_set_ne (by omega), List.getElem?_set_ne (by omega), ← List.getD_eq_getElem?_getD, q5]
  have g7 : ((TS.set 25 (I (q : Nat))).set 26 (.agg [I x.of, I x.w.lo, I x.w.hi, I x.s.lo, I x.s.hi, I x.p])).getD 7 .undef = .ptr (h0.length + 2) 0 := by
    rw [List.getD_eq_getElem?_getD, List.getElem?_set_ne (by omega), List.getElem?_set_ne (by omega), ← List.getD_eq_getElem?_getD, q7]
  have g25 : ((TS.set 25 (I (q : Nat))).set 26 (.agg [I x.of, I x.w.lo, I x.w.hi, I x.s.lo, I x.s.hi, I x.p])).getD 25 .undef = I (q : Nat) := by
    rw [List.getD_eq_getElem?_getD, List.getElem?_set_ne (by omega), List.getElem?_set_self (by omega)]; rfl
  have g26 : ((TS.set 25 (I (q : Nat))).set 26 (.agg [I x.of, I x.w.lo, I x.w.hi, I x.s.lo, I x.s.hi, I x.p])).getD 26 .undef = .agg [I x.of, I x.w.lo, I x.w.hi, I x.s.lo, I x.s.hi, I x.p] := by
    rw [List.getD_eq_getElem?_getD, List.getElem?_set_self (by simp; omega)]; rfl
  obtain ⟨TT, hTT⟩ : ∃ TT, TT = (TS.set 25 (I (q : Nat))).set 26 (.agg [I x.of, I x.w.lo, I x.w.hi, I x.s.lo, I x.s.hi, I x.p]) := ⟨_, rfl⟩
  rw [← hTT] at g3 g5 g7 g25 g26 ⊢
  simp only [lit0, litS, Nat.reduceAdd, g3, g5, g7, g25, g26]
  have hl0 : h0.length ≤ h.length := S.fr.l
  unfold As102
  simp (disch := first | assumption | omega | (simp only [az]; done)) only [ru, eq_self, if_true, if_false, BEq.rfl, binI, AO.row?, splice, fillL, mmAll, loadV, storeV, zeros, Am.rowAt, Am.part, addOff, Nat.reduceAdd, Nat.reduceMul, Nat.reduceLeDiff, Nat.reduceSub, Nat.reduceLT, Int.reduceEq, Int.reduceLT, Int.reduceLE, Int.reduceGT, Int.reduceGE, Int.reduceAdd, Int.reduceSub, Int.reduceMul, Int.reduceNeg, Int.reduceToNat, reduceCtorEq, reduceIte, atE, setE, lenE, hl0]
  -- the part lies behind
  obtain ⟨X, hX⟩ : ∃ X, X = AO.cells [I x.of, I x.w.lo, I x.w.hi, I x.s.lo, I x.s.hi, I x.p] false := ⟨_, rfl⟩
  rw [← hX]
  obtain ⟨h1, hh1⟩ : ∃ h1, h1 = h ++ [X] := ⟨_, rfl⟩
  have l1 : h1.length = h.length + 1 := by rw [hh1]; simp
  have f1 : Fr h h1 := by rw [hh1]; exact Fr.app _ _
  have x1 : h1[h.length]? = some X := by rw [hh1]; exact atE
  rw [← hh1]
  refine ⟨none, 102, TS, [25, 26], As102, Bd102, h0.length + 4, f1.at S.f, ?_⟩
  obtain ⟨h2, hh2⟩ : ∃ h2, h2 = h1.set (h0.length + 5) (AO.loop .busy none 102 TS [25, 26] As102 Bd102 (h0.length + 4)) := ⟨_, rfl⟩
  rw [← hh2]
  have l2 : h2.length = h.length + 1 := by rw [hh2]; simp [l1]
  have ne : ∀ j, j ≠ h0.length + 5 → h2[j]? = h1[j]? := fun j hj => by rw [hh2, List.getElem?_set_ne (by omega)]
  have a2 := (ne h0.length (by omega)).trans (f1.at S.a)
  have b2 := (ne (h0.length + 1) (by omega)).trans (f1.at S.b)
  have c2 := (ne (h0.length + 2) (by omega)).trans (f1.at S.c)
  have d2 := (ne (h0.length + 3) (by omega)).trans (f1.at S.d)
  have e2 := (ne (h0.length + 4) (by omega)).trans (f1.at S.e)
  have x2 := (ne h.length (by omega)).trans x1
  have o2 : h2[h0.length + 5]? = some (AO.loop .busy none 102 TS [25, 26] As102 Bd102 (h0.length + 4)) := by rw [hh2, List.getElem?_set_self (by omega)]
  have fr2 : Fr h0 h2 := ⟨by omega, fun j hj => by rw [ne j (by omega), f1.k j (by omega), S.fr.k j hj]⟩
  -- all of this part
  obtain ⟨C, hCC⟩ : ∃ C, C = (r8 (insF t c m)).flatten := ⟨_, rfl⟩
  have Cl : C.length = 248 := by rw [hCC]; exact r8_flat fun _ => insF_len
  have Cg : ∀ p, p < t.length → (C.drop (p * 31)).take 31 = rwE (ins t c m p) := fun p hp => by
    rw [hCC, r8_get (by omega) fun _ => insF_len]; exact if_pos hp
  have Cp : ∀ p, p < t.length → ∀ f : Int → Option Int, C.take (p * 31) ++ (rwE f ++ C.drop (p * 31 + 31)) = (r8 fun k => if k = p then rwE f else insF t c m k).flatten := fun p hp f => by
    rw [hCC]; exact r8_put (by omega) (fun _ => insF_len) rw_len fun _ => rfl
  rw [← hCC] at b2
  obtain ⟨all, hall⟩ : ∃ all : Int → Option Int, all = fun y => pl (ins t c m q y) (c q y) := ⟨_, rfl⟩
  have ball : ∀ y, Bd 400000000 (all y) := fun y u hu => by
    rw [hall] at hu
    have h1 := ins_bd (t := t) (K := 3000) (by omega) hc m q y
    have h2 := pow2_le (show m ≤ 8 by omega)
    have h3 : ((2 : Int) ^ m - 1) * 3000 ≤ 255 * 3000 := Int.mul_le_mul_of_nonneg_right h2.1 (by omega)
    obtain ⟨y1, y2, e1, e2, rfl⟩ := pl_some.1 hu
    have := h1 _ e1; have := hc _ _ _ e2; omega
  have w127 := fun J => s127 (h := h2 ++ [J]) (c := c) (n := t.length) (fv := fv) (by
    obtain ⟨g, first, cap, e, hg⟩ := hC
    exact ⟨g, first, cap, e, fun h' F => hg h' (fr2.trans ((Fr.app _ _).trans F))⟩) hqt (f := ins t c m q) (fun b => (bdI m (by omega) q b).up (by omega)) (fun b => (bdc q b).up (by omega))
  rw [← hall] at w127
  obtain ⟨A, hA⟩ : ∃ A, A = rwE all := ⟨_, rfl⟩
  have Al : A.length = 31 := by rw [hA]; exact rw_len
  have As : A.all AV.scalar = true := by rw [hA]; exact rw_sc
  have At : A.take 31 = A := by rw [hA]; exact rw_take
  have Cgq := Cg q hqt
  obtain ⟨Q, hQ⟩ : ∃ Q, Q = rwE (ins t c m q) := ⟨_, rfl⟩
  have Ql : Q.length = 31 := by rw [hQ]; exact rw_len
  have w127' : ∀ J, Ro E 127 [.agg Q, I (q : Nat), fv] (h2 ++ [J]) = some (.agg A) := fun J => by rw [hQ, hA]; exact w127 J
  rw [← hQ] at Cgq
  have zl : 31 ≤ Z31.length := by rw [z31_len]; exact Nat.le_refl _
  have zd : Z31.drop 31 = [] := List.drop_of_length_le (by rw [z31_len]; exact Nat.le_refl _)
  have k8 : (q : Int) < 8 := by omega
  have lt0 : ∀ X : AO, (h2 ++ [X])[h0.length]? = h2[h0.length]? := fun X => at_ap (by omega)
  have lt1 : ∀ X : AO, (h2 ++ [X])[h0.length + 1]? = h2[h0.length + 1]? := fun X => at_ap (by omega)
  have lt2 : ∀ X : AO, (h2 ++ [X])[h0.length + 2]? = h2[h0.length + 2]? := fun X => at_ap (by omega)
  have ltx : ∀ X : AO, (h2 ++ [X])[h.length]? = h2[h.length]? := fun X => at_ap (by omega)
  have hle2 : h0.length ≤ h2.length := by omega
  have hle3 : h0.length ≤ h0.length + 2 := by omega
  have hle4 : h0.length ≤ h0.length + 1 := by omega
  rw [hX] at x2
  by_cases c1 : x.of = -1
  · -- a whole fish
    have e1 : smS t c (m + 1) = pl (smS t c m) (lst (fun b => all b) 31) := by
      simp only [smS, ← hq, ← hx, c1, if_true, hall]
    have e2' : insF t c (m + 1) = insF t c m := by
      funext p
      have e3 : ins t c (m + 1) p = ins t c m p := by
        funext y; simp only [ins, ← hq, ← hx, c1]; rw [if_neg (by omega)]
      unfold insF; rw [e3]
    have vw : ∀ st k, view st (h2 ++ [.cells A false]) (k + 1) (.ms 1 h2.length 0 31) = some (slV 1 intL (rng 31 fun b => En (all b))) := fun st k => by
      have := RdC.view (enc := intL) (esz := 1) (l := rng 31 fun b => En (all b)) (h := h2 ++ [.cells A false]) (w := .ms 1 h2.length 0 31) ⟨h2.length, by rw [rng_len], by rw [atE, hA]; rfl⟩ intE intIv (st := st) (k := k)
      exact this
    have sa : sliceAW (h2 ++ [.cells A false]) 31 1 none (.ptr h2.length 0) = some (.ms 1 h2.length 0 31) := by
      simp only [sliceAW, Am.rowAt, atE, Option.bind_some, AO.row?, Al]; rfl
    have m129 := fun st => s129 (f := fun b => all b) (slV_is (esz := 1) (enc := intL) (l := rng 31 fun b => En (all b))) (B := 400000000) (by omega) (fun b => ball b) st
    have p128 := fun st => sPl (B := 400000000) (C := 400000000) (by omega) (by omega) (bdS m (by omega)) (Bd.lst (f := fun b => all b) (k := 31) fun i _ => ball i) st
    obtain ⟨W, hW⟩ : ∃ W, W = slV 1 intL (rng 31 fun b => En (all b)) := ⟨_, rfl⟩
    have vw' : ∀ st, view st (h2 ++ [.cells A false]) 8 (.ms 1 h2.length 0 31) = some W := fun st => by rw [hW]; exact vw st 7
    rw [← hW] at m129
    unfold Bd102
    simp (disch := first | assumption | omega | (simp only [az]; done)) only [ru, eq_self, if_true, if_false, BEq.rfl, binI, AO.row?, splice, fillL, mmAll, loadV, storeV, zeros, Am.rowAt, Am.part, addOff, Nat.reduceAdd, Nat.reduceMul, Nat.reduceLeDiff, Nat.reduceSub, Nat.reduceLT, Int.reduceEq, Int.reduceLT, Int.reduceLE, Int.reduceGT, Int.reduceGE, Int.reduceAdd, Int.reduceSub, Int.reduceMul, Int.reduceNeg, Int.reduceToNat, reduceCtorEq, reduceIte, hideN, hideC, GO_mload, GO_mcall3, setE, atE, lenE, setT, setT0, atT, atT0, lt0, lt1, lt2, ltx, a2, b2, c2, x2, k8, nn, Int.toNat_natCast, Cgq, Ql, hfv.1, hfv.2, w127', Al, As, At, zl, zd, c1, decide_true, List.append_nil, hle2, hle3, exOp_sliceA, sa, vw', m129, p128, Option.map_none]
    refine ⟨.busy, none, 102, TS, [25, 26], As102, Bd102, h0.length + 4, by rw [List.getElem?_set_ne (by omega), at_ap (by omega)]; exact o2, ?_⟩
    refine ⟨⟨by simp; omega, fun j hj => by rw [List.getElem?_set_ne (by omega), List.getElem?_set_ne (by omega), at_ap (by omega), fr2.k j hj]⟩, ?_, ?_, ?_, ?_, ?_, ?_⟩
    · rw [List.getElem?_set_ne (by omega), List.getElem?_set_ne (by omega), at_ap (by omega)]; exact a2
    · rw [List.getElem?_set_ne (by omega), List.getElem?_set_ne (by omega), at_ap (by omega), e2', ← hCC]; exact b2
    · rw [List.getElem?_set_ne (by omega), List.getElem?_set_self (by simp; omega), e1]
    · rw [List.getElem?_set_ne (by omega), List.getElem?_set_ne (by omega), at_ap (by omega)]; exact d2
    · rw [List.getElem?_set_ne (by omega), List.getElem?_set_ne (by omega), at_ap (by omega)]; exact e2
    · rw [List.getElem?_set_self (by simp; omega)]
  · -- a piece
    obtain ⟨r, hr⟩ : ∃ r : Nat, x.of = r := ⟨x.of.toNat, by omega⟩
    have hrt : r < t.length := by omega
    have k9 : (r : Int) < 8 := by omega
    have e1 : smS t c (m + 1) = smS t c m := by
      simp only [smS, ← hq, ← hx]; rw [if_neg c1]
    have e2' : insF t c (m + 1) = fun k => if k = r then rwE (fun y => lst (fun a => pl (ins t c m r a) (all (y - a))) (y.toNat + 1)) else insF t c m k := by
      funext p
      by_cases e : p = r
      · subst e
        rw [if_pos rfl, insF, if_pos hrt]
        refine rwE_congr fun y hy => ?_
        simp only [ins, ← hq, ← hx, hr, if_true]
        rw [hall]
        exact lst_rev (f := ins t c m p) (g := fun b => pl (ins t c m q b) (c q b)) (by omega)
      · rw [if_neg e]
        have e3 : ins t c (m + 1) p = ins t c m p := by
          funext y; simp only [ins, ← hq, ← hx, hr]; rw [if_neg (by omega)]
        unfold insF; rw [e3]
    have Cgr := Cg r hrt
    have m130 := fun st => s130 (f := ins t c m r) (g := all) (B := 400000000) (by omega) (fun b => bdI m (by omega) r b) ball st
    have Cpr := Cp r hrt (fun y => lst (fun a => pl (ins t c m r a) (all (y - a))) (y.toNat + 1))
    obtain ⟨D, hD⟩ : ∃ D, D = rwE (fun y => lst (fun a => pl (ins t c m r a) (all (y - a))) (y.toNat + 1)) := ⟨_, rfl⟩
    have Dl : D.length = 31 := by rw [hD]; exact rw_len
    have Ds : D.all AV.scalar = true := by rw [hD]; exact rw_sc
    obtain ⟨P, hP⟩ : ∃ P, P = rwE (ins t c m r) := ⟨_, rfl⟩
    have Pl : P.length = 31 := by rw [hP]; exact rw_len
    have m130' : ∀ st, Iso E 130 [.agg P, .agg A] st = some (.agg D) := fun st => by rw [hP, hA, hD]; exact m130 st
    have av : ∀ st h k, A.mapM (view st h k) = some A := fun st h k => by rw [hA]; exact rw_view
    have pv : ∀ st h k, P.mapM (view st h k) = some P := fun st h k => by rw [hP]; exact rw_view
    rw [← hP] at Cgr
    rw [← hD] at Cpr e2'
    have fit : r * 31 + 31 ≤ C.length := by omega
    have ap : AV.pureV.go A = true := by rw [hA]; exact rw_pure
    have ppv : AV.pureV.go P = true := by rw [hP]; exact rw_pure
    unfold Bd102
    simp (disch := first | assumption | omega | (simp only [az]; done)) only [ru, eq_self, if_true, if_false, BEq.rfl, binI, AO.row?, splice, fillL, mmAll, loadV, storeV, zeros, Am.rowAt, Am.part, addOff, Nat.reduceAdd, Nat.reduceMul, Nat.reduceLeDiff, Nat.reduceSub, Nat.reduceLT, Int.reduceEq, Int.reduceLT, Int.reduceLE, Int.reduceGT, Int.reduceGE, Int.reduceAdd, Int.reduceSub, Int.reduceMul, Int.reduceNeg, Int.reduceToNat, reduceCtorEq, reduceIte, hideN, hideC, GO_mload, GO_mcall3, setE, atE, lenE, setT, setT0, atT, atT0, lt0, lt1, lt2, ltx, a2, b2, c2, x2, k8, k9, nn, Int.toNat_natCast, Nat.zero_add, Cgq, Ql, hfv.1, hfv.2, w127', Al, As, At, zl, zd, c1, hr, decide_false, List.append_nil, hle2, hle4, Cgr, Pl, view_agg, av, pv, Option.map_some, m130', Dl, Ds, ap, ppv, fit, List.append_assoc, Cpr]
    refine ⟨.busy, none, 102, TS, [25, 26], As102, Bd102, h0.length + 4, by rw [List.getElem?_set_ne (by omega), at_ap (by omega)]; exact o2, ?_⟩
    refine ⟨⟨by simp; omega, fun j hj => by rw [List.getElem?_set_ne (by omega), List.getElem?_set_ne (by omega), at_ap (by omega), fr2.k j hj]⟩, ?_, ?_, ?_, ?_, ?_, ?_⟩
    · rw [List.getElem?_set_ne (by omega), List.getElem?_set_ne (by omega), at_ap (by omega)]; exact a2
    · rw [List.getElem?_set_ne (by omega), List.getElem?_set_self (by simp; omega), e2']
    · rw [List.getElem?_set_ne (by omega), List.getElem?_set_ne (by omega), at_ap (by omega), e1]; exact c2
    · rw [List.getElem?_set_ne (by omega), List.getElem?_set_ne (by omega), at_ap (by omega)]; exact d2
    · rw [List.getElem?_set_ne (by omega), List.getElem?_set_ne (by omega), at_ap (by omega)]; exact e2
    · rw [List.getElem?_set_self (by simp; omega)]

set_option maxHeartbeats 4000000 in
theorem rg102 (H : TbOk t v) (T : TG t) {c : Nat → Int → Option Int} {fv : AV} {h0 : List AO} (hC : Cost h0 fv t.length c) (hfv : fv.scalar = true ∧ fv.cells = [fv]) (hc : ∀ i b x, c i b = some x → -3000 ≤ x ∧ x ≤ 3000)
    {TS : List AV} (hl : TS.length = 50) (q3 : TS.getD 3 .undef = .ptr h0.length 0) (q5 : TS.getD 5 .undef = .ptr (h0.length + 1) 0) (q7 : TS.getD 7 .undef = .ptr (h0.length + 2) 0) (q24 : TS.getD 24 .undef = .fn 138 [] [.ptr (h0.length + 3) 0]) :
    G ⟨E, h0.length, none, 102, Done h0.length [.tmp 4] fun r h' => r = I (En (Lst t c)) ∧ AV.under h0.length (I (En (Lst t c))) = true⟩ (.rangeFunc (.t 24) [25, 26] As102 Bd102) [.block 2, .seq ((ACode.region 0 [oQ 49 (.load false 1 (.t 7)), oP 4 (.move (.t 49))]).seq .ret)] TS (h0 ++ [.cells [fv] false, .cells (r8 (insF t c 0)).flatten false, .cells [I 0] false, .cells [v] false]) [] := by
  obtain ⟨hh, he⟩ : ∃ hh, hh = h0 ++ [.cells [fv] false, .cells (r8 (insF t c 0)).flatten false, .cells [I 0] false, .cells [v] false] := ⟨_, rfl⟩
  rw [← he]
  have ln : hh.length = h0.length + 4 := by rw [he]; simp
  have fr : Fr h0 hh := by rw [he]; exact Fr.app _ _
  have a0 : hh[h0.length]? = some (.cells [fv] false) := by rw [he, atT0]; rfl
  have a1 : hh[h0.length + 1]? = some (.cells (r8 (insF t c 0)).flatten false) := by rw [he, atT]; rfl
  have a2 : hh[h0.length + 2]? = some (.cells [I 0] false) := by rw [he, atT]; rfl
  have a3 : hh[h0.length + 3]? = some (.cells [v] false) := by rw [he, atT]; rfl
  obtain ⟨LO, hLO⟩ : ∃ LO, LO = AO.loop .ready none 102 TS [25, 26] As102 Bd102 (h0.length + 4) := ⟨_, rfl⟩
  obtain ⟨r, h3, hr, S⟩ := r138 H (o := h0.length + 5) (b := h0.length + 3) (lim := h0.length) (Lp t c v fv h0 TS) (fun m h S => S.d) (fun m h hm S x hx => lp_step T hC hfv hc hl q3 q5 q7 hm S hx) (h := hh ++ [.dfr, LO])
    ⟨fr.trans (Fr.app _ _), (Fr.app _ _).at a0, (Fr.app _ _).at a1, (Fr.app _ _).at a2, (Fr.app _ _).at a3, by rw [← ln, atT0]; rfl, by rw [show h0.length + 5 = hh.length + 1 by omega, atT, hLO]; rfl⟩
  refine G_range_of rfl (show Opd.ev TS (.t 24) = _ from q24) ?_
  rw [hLO] at hr
  refine ⟨r, h3, .ready, none, 102, TS, [25, 26], As102, Bd102, h0.length + 4, by rw [ln]; exact hr, by rw [ln]; exact S.f, .inl rfl, ?_⟩
  rw [ln]
  simp only [Option.getD_none, GE_nrm]
  obtain ⟨h4, hh4⟩ : ∃ h4, h4 = h3.set (h0.length + 4 + 1) (AO.loop .exhausted none 102 TS [25, 26] As102 Bd102 (h0.length + 4)) := ⟨_, rfl⟩
  rw [← hh4, lit_all hl]
  simp only [lit0, litS, Nat.reduceAdd, q3, q5, q7, q24]
  have c4 : h4[h0.length + 2]? = some (.cells [I (En (smS t c t.length))] false) := by rw [hh4, List.getElem?_set_ne (by omega)]; exact S.c
  have d4 : h4[h0.length + 4]? = some .dfr := by rw [hh4, List.getElem?_set_ne (by omega)]; exact S.e
  simp (disch := first | assumption | omega | (simp only [az]; done)) only [ru, eq_self, if_true, if_false, BEq.rfl, binI, AO.row?, splice, fillL, mmAll, loadV, storeV, zeros, Am.rowAt, Am.part, addOff, Nat.reduceAdd, Nat.reduceMul, Nat.reduceLeDiff, Nat.reduceSub, Nat.reduceLT, Int.reduceEq, Int.reduceLT, Int.reduceLE, Int.reduceGT, Int.reduceGE, Int.reduceAdd, Int.reduceSub, Int.reduceMul, Int.reduceNeg, Int.reduceToNat, reduceCtorEq, reduceIte, c4]
  refine finM (h' := h4.set (h0.length + 4) .tomb) (vs := [I (En (Lst t c))]) (.inr rfl) (by simp) ?_ rfl ?_
  · simp only [takeMarks, d4]
  · exact ⟨rfl, rfl⟩

set_option maxHeartbeats 4000000 in
theorem s102 (H : TbOk t v) (T : TG t) {c : Nat → Int → Option Int} {fv : AV} {h0 : List AO} (hC : Cost h0 fv t.length c) (hfv : fv.scalar = true ∧ fv.cells = [fv]) (hc : ∀ i b x, c i b = some x → -3000 ≤ x ∧ x ≤ 3000) :
    Ro E 102 [v, fv] h0 = some (I (En (Lst t c))) := by
  have t8 := T.n
  refine Ro_of (es _ _ _ _) e102 ?_
  simp only [fg102, g102]
  simp (disch := first | assumption | omega | (simp only [az]; done)) only [ru, eq_self, if_true, if_false, BEq.rfl, binI, AO.row?, splice, fillL, mmAll, loadV, storeV, zeros, Am.rowAt, Am.part, addOff, Nat.reduceAdd, Nat.reduceMul, Nat.reduceLeDiff, Nat.reduceSub, Nat.reduceLT, Int.reduceEq, Int.reduceLT, Int.reduceLE, Int.reduceGT, Int.reduceGE, Int.reduceAdd, Int.reduceSub, Int.reduceMul, Int.reduceNeg, Int.reduceToNat, reduceCtorEq, reduceIte, hfv.1, hfv.2, lenV_sl H.i, elem_pt H.i, view_sl H.i, scalar_sl H.i, cells_sl H.i, pure_sl H.i, Int.toNat_natCast]
  have hz : ∀ j, (∀ p, ((if p < j then rwE (ins t c 0 p) else Z31 : List AV)).length = 31) := fun j p => by
    split
    · exact rw_len
    · exact z31_len
  refine G_loop_ind (fun m ts hh mk => ∃ j : Nat, j ≤ t.length ∧ m = t.length - j ∧ ts.length = 50 ∧ ts.getD 0 .undef = v ∧ ts.getD 3 .undef = .ptr h0.length 0 ∧ ts.getD 5 .undef = .ptr (h0.length + 1) 0 ∧ ts.getD 12 .undef = I t.length ∧ ts.getD 13 .undef = I j ∧
    hh = h0 ++ [.cells [fv] false, .cells (r8 fun p => if p < j then rwE (ins t c 0 p) else Z31).flatten false] ∧ mk = []) ?_ _ _ _ _
    ⟨0, Nat.zero_le _, rfl, rfl, rfl, rfl, by simp (disch := first | assumption | omega | (simp only [az]; done)) only [ru, eq_self, if_true, if_false, BEq.rfl, binI, AO.row?, splice, fillL, mmAll, loadV, storeV, zeros, Am.rowAt, Am.part, addOff, Nat.reduceAdd, Nat.reduceMul, Nat.reduceLeDiff, Nat.reduceSub, Nat.reduceLT, Int.reduceEq, Int.reduceLT, Int.reduceLE, Int.reduceGT, Int.reduceGE, Int.reduceAdd, Int.reduceSub, Int.reduceMul, Int.reduceNeg, Int.reduceToNat, reduceCtorEq, reduceIte, lenE], rfl, rfl, by rw [z248]; simp (disch := first | assumption | omega | (simp only [az]; done)) only [ru, eq_self, if_true, if_false, BEq.rfl, binI, AO.row?, splice, fillL, mmAll, loadV, storeV, zeros, Am.rowAt, Am.part, addOff, Nat.reduceAdd, Nat.reduceMul, Nat.reduceLeDiff, Nat.reduceSub, Nat.reduceLT, Int.reduceEq, Int.reduceLT, Int.reduceLE, Int.reduceGT, Int.reduceGE, Int.reduceAdd, Int.reduceSub, Int.reduceMul, Int.reduceNeg, Int.reduceToNat, reduceCtorEq, reduceIte, List.append_assoc] ; rfl, rfl⟩
  rintro m ts hh mk ih ⟨j, hj, rfl, hl', q0, q3, q5, q12, q13, rfl, rfl⟩
  rw [lit_all hl']
  simp only [lit0, litS, Nat.reduceAdd, q0, q3, q5, q12, q13]
  by_cases hlt : (j : Int) < t.length
  case pos =>
    have hj2 : j < t.length := by omega
    have k8 : (j : Int) < 8 := by omega
    obtain ⟨C, hCC⟩ : ∃ C, C = (r8 fun p => if p < j then rwE (ins t c 0 p) else Z31).flatten := ⟨_, rfl⟩
    have Cl : C.length = 248 := by rw [hCC]; exact r8_flat (hz j)
    have fit : j * 31 + 31 ≤ C.length := by omega
    have Cp : C.take (j * 31) ++ (rwE (ins t c 0 j) ++ C.drop (j * 31 + 31)) = (r8 fun p => if p < j + 1 then rwE (ins t c 0 p) else Z31).flatten := by
      rw [hCC]
      refine r8_put (by omega) (hz j) rw_len fun p => ?_
      by_cases e : p = j
      · subst e; rw [if_pos rfl, if_pos (by omega)]
      · rw [if_neg e]; by_cases e2 : p < j
        · rw [if_pos e2, if_pos (by omega)]
        · rw [if_neg e2, if_neg (by omega)]
    have g107 := fun st => s107 H hj2 st
    have g125 := fun st => s125 (wst t j).lo (wst t j).hi st
    have ei : (fun y => if (wst t j).lo ≤ y ∧ y ≤ (wst t j).hi then some 0 else none) = ins t c 0 j := rfl
    rw [ei] at g125
    obtain ⟨D, hD⟩ : ∃ D, D = rwE (ins t c 0 j) := ⟨_, rfl⟩
    have Dl : D.length = 31 := by rw [hD]; exact rw_len
    have Ds : D.all AV.scalar = true := by rw [hD]; exact rw_sc
    have g125' : ∀ st, Iso E 125 [.agg [I (wst t j).lo, I (wst t j).hi]] st = some (.agg D) := fun st => by rw [hD]; exact g125 st
    rw [← hD] at Cp
    rw [← hCC]
    have hle : h0.length ≤ h0.length + 1 := by omega
    simp (disch := first | assumption | omega | (simp only [az]; done)) only [ru, eq_self, if_true, if_false, BEq.rfl, binI, AO.row?, splice, fillL, mmAll, loadV, storeV, zeros, Am.rowAt, Am.part, addOff, Nat.reduceAdd, Nat.reduceMul, Nat.reduceLeDiff, Nat.reduceSub, Nat.reduceLT, Int.reduceEq, Int.reduceLT, Int.reduceLE, Int.reduceGT, Int.reduceGE, Int.reduceAdd, Int.reduceSub, Int.reduceMul, Int.reduceNeg, Int.reduceToNat, reduceCtorEq, reduceIte, hlt, decide_true, lenV_sl H.i, elem_pt H.i, view_sl H.i, scalar_sl H.i, cells_sl H.i, pure_sl H.i, Int.toNat_natCast, g107, g125', k8, nn, Nat.zero_add, List.append_assoc, lenE, setT, setT0, atT, atT0, getT, getT0, Dl, Ds, fit, hle, Cp]
    exact ih (t.length - (j + 1)) _ _ _ (by omega) ⟨j + 1, by omega, rfl, rfl, rfl, rfl, rfl, rfl, rfl, rfl, rfl⟩
  obtain rfl : j = t.length := by omega
  clear ih
  obtain ⟨r, h1, hr, rfl, rfl⟩ := r126 (v := v) (h := h0 ++ [.cells [fv] false, .cells (r8 fun p => if p < t.length then rwE (ins t c 0 p) else Z31).flatten false, .cells [I 0] false]) (lim := h0.length)
  have e0 : (fun p => if p < t.length then rwE (ins t c 0 p) else Z31) = insF t c 0 := rfl
  rw [e0] at hr ⊢
  obtain ⟨C, hCC⟩ : ∃ C, C = (r8 (insF t c 0)).flatten := ⟨_, rfl⟩
  rw [← hCC] at hr ⊢
  have hle : h0.length ≤ h0.length + 2 := by omega
  simp only [cells_sl H.i, List.append_assoc, lenE, lenS, len0, Nat.zero_add, Nat.reduceAdd, apC, apN] at hr
  simp (disch := first | assumption | omega | (simp only [az]; done)) only [ru, eq_self, if_true, if_false, BEq.rfl, binI, AO.row?, splice, fillL, mmAll, loadV, storeV, zeros, Am.rowAt, Am.part, addOff, Nat.reduceAdd, Nat.reduceMul, Nat.reduceLeDiff, Nat.reduceSub, Nat.reduceLT, Int.reduceEq, Int.reduceLT, Int.reduceLE, Int.reduceGT, Int.reduceGE, Int.reduceAdd, Int.reduceSub, Int.reduceMul, Int.reduceNeg, Int.reduceToNat, reduceCtorEq, reduceIte, hlt, decide_false, lenV_sl H.i, elem_pt H.i, view_sl H.i, scalar_sl H.i, cells_sl H.i, pure_sl H.i, Int.toNat_natCast, List.append_assoc, lenE, setT, setT0, atT, atT0, hle, exOp_call0, hr]
  rw [hCC]
  exact rg102 H T hC hfv hc rfl rfl rfl rfl rfl
end
end Go.Proofs.Yteonklnjchefiaa.S

/-
What the program asks of the least cost: weights, sums, prices.
-/
namespace Go.Proofs.Yteonklnjchefiaa.S
open Go Go.Am Go.Proofs.Yteonklnjchefiaa.T
set_option maxRecDepth 100000
set_option linter.unusedSimpArgs false
set_option linter.unusedVariables false

abbrev ag8 (r : Nat → Int) : AV := .agg (rw_ 8 r)
theorem z8 : [I 0, I 0, I 0, I 0, I 0, I 0, I 0, I 0] = rw_ 8 fun _ => 0 := by kernel_rfl
theorem mul_bd {a b : Int} (ha : -100 ≤ a ∧ a ≤ 100) (hb : 0 ≤ b ∧ b ≤ 30) : -3000 ≤ a * b ∧ a * b ≤ 3000 := by
  have h1 : a * b ≤ 100 * b := Int.mul_le_mul_of_nonneg_right ha.2 hb.1
  have h2 : (-100) * b ≤ a * b := Int.mul_le_mul_of_nonneg_right ha.1 hb.1
  omega
def RB (r : Nat → Int) : Prop := ∀ i, i < 8 → -100 ≤ r i ∧ r i ≤ 100
theorem cT_bd {t : List Pt} (T : TW t) {r : Nat → Int} (hr : RB r) : ∀ i b x, cT t r i b = some x → -3000 ≤ x ∧ x ≤ 3000 := by
  intro i b x h
  simp only [cT] at h
  split at h
  · rename_i hb
    cases h
    by_cases hi : i < t.length
    · have := T.w i hi; have := T.n
      exact mul_bd (hr i (by omega)) (by omega)
    · rw [show t.getD i default = default by simp [List.getD_eq_getElem?_getD, List.getElem?_eq_none (show t.length ≤ i by omega)]] at hb
      have : b = 0 := by
        have h0 : (default : Pt).w.lo = 0 := rfl
        have h1 : (default : Pt).w.hi = 0 := rfl
        omega
      rw [this, Int.mul_zero]; omega
  · cases h
section
variable {t : List Pt} {v : AV}
theorem s104 {r : Nat → Int} (hr : RB r) {i w : Nat} (hi : i < 8) (hw : w < 31) {h : List AO} : Ro E 104 [ag8 r, I i, I w] h = some (I (r i * w)) := by
  have b := mul_bd (hr i hi) (b := (w : Int)) (by omega)
  have hd := rw_head (f := r) hi
  obtain ⟨R, hR⟩ : ∃ R, R = rw_ 8 r := ⟨_, rfl⟩
  rw [← hR] at hd
  have i8 : (i : Int) < 8 := by omega
  show Ro E 104 [.agg (rw_ 8 r), I i, I w] h = _
  rw [← hR]
  refine Ro_of (es _ _ _ _) e104 ?_
  simp only [f104]
  simp (disch := first | assumption | omega | (simp only [az]; done)) only [ru, eq_self, if_true, if_false, BEq.rfl, binI, AO.row?, splice, fillL, mmAll, loadV, storeV, zeros, Am.rowAt, Am.part, addOff, Nat.reduceAdd, Nat.reduceMul, Nat.reduceLeDiff, Nat.reduceSub, Nat.reduceLT, Int.reduceEq, Int.reduceLT, Int.reduceLE, Int.reduceGT, Int.reduceGE, Int.reduceAdd, Int.reduceSub, Int.reduceMul, Int.reduceNeg, Int.reduceToNat, reduceCtorEq, reduceIte, atE, i8, nn, Int.toNat_natCast, Nat.mul_one, Nat.zero_add, hd]
  rfl
theorem cost131 (H : TbOk t v) (T : TW t) {r : Nat → Int} (hr : RB r) {h : List AO} {a b : Nat} (ha : h[a]? = some (.cells [v] false)) (hb : h[b]? = some (.cells [.fn 104 [ag8 r] []] false)) : Cost h (.fn 131 [] [.ptr a 0, .ptr b 0]) t.length (cT t r) := by
  refine ⟨131, [], [.ptr a 0, .ptr b 0], rfl, fun h' F i hi w hw => ?_⟩
  have t8 := T.n
  have ha' := F.at ha
  have hb' := F.at hb
  have g := fun st => s118 H T hi (w : Int) (by omega) st
  have g2 := s104 hr (i := i) (w := w) (by omega) hw (h := h')
  show Ro E 131 [I i, I w, .ptr a 0, .ptr b 0] h' = _
  obtain ⟨z, hz⟩ : ∃ z, z = awy (t.getD i default).w w := ⟨_, rfl⟩
  have z0 : 0 ≤ z := by rw [hz]; exact awy_nn
  rw [← hz] at g
  have ec : En (cT t r i w) = if z = 0 then r i * w else 9223372036854775807 := by
    simp only [cT, ← awy_zero, ← hz]
    split <;> rfl
  rw [ec]
  refine Ro_of (es _ _ _ _) e131 ?_
  simp only [f131]
  by_cases c : z = 0
  · have c' : ¬ z > 0 := by omega
    simp (disch := first | assumption | omega | (simp only [az]; done)) only [ru, eq_self, if_true, if_false, BEq.rfl, binI, AO.row?, splice, fillL, mmAll, loadV, storeV, zeros, Am.rowAt, Am.part, addOff, Nat.reduceAdd, Nat.reduceMul, Nat.reduceLeDiff, Nat.reduceSub, Nat.reduceLT, Int.reduceEq, Int.reduceLT, Int.reduceLE, Int.reduceGT, Int.reduceGE, Int.reduceAdd, Int.reduceSub, Int.reduceMul, Int.reduceNeg, Int.reduceToNat, reduceCtorEq, reduceIte, lenV_sl H.i, elem_pt H.i, view_sl H.i, scalar_sl H.i, cells_sl H.i, pure_sl H.i, Int.toNat_natCast, ha', hb', g, c', c, decide_false, exOp_callv1, List.append_nil, g2]
    rfl
  · have c' : z > 0 := by omega
    simp (disch := first | assumption | omega | (simp only [az]; done)) only [ru, eq_self, if_true, if_false, BEq.rfl, binI, AO.row?, splice, fillL, mmAll, loadV, storeV, zeros, Am.rowAt, Am.part, addOff, Nat.reduceAdd, Nat.reduceMul, Nat.reduceLeDiff, Nat.reduceSub, Nat.reduceLT, Int.reduceEq, Int.reduceLT, Int.reduceLE, Int.reduceGT, Int.reduceGE, Int.reduceAdd, Int.reduceSub, Int.reduceMul, Int.reduceNeg, Int.reduceToNat, reduceCtorEq, reduceIte, lenV_sl H.i, elem_pt H.i, view_sl H.i, scalar_sl H.i, cells_sl H.i, pure_sl H.i, Int.toNat_natCast, ha', hb', g, c', c, decide_true]
    rfl
theorem r103 {w : AV} (hw : w.cells = [w]) (hv : v.cells = [v]) {h : List AO} {lim : Nat} : ∃ r h', R E (.fn 103) [v, w] h lim = some (r, h') ∧ r = .fn 131 [] [.ptr h.length 0, .ptr (h.length + 1) 0] ∧ h' = h ++ [.cells [v] false, .cells [w] false] := by
  refine R_of (fun r h' => r = .fn 131 [] [.ptr h.length 0, .ptr (h.length + 1) 0] ∧ h' = h ++ [.cells [v] false, .cells [w] false]) (es _ _ _ _) e103 ?_
  simp only [f103]
  simp (disch := first | assumption | omega | (simp only [az]; done)) only [ru, eq_self, if_true, if_false, BEq.rfl, binI, AO.row?, splice, fillL, mmAll, loadV, storeV, zeros, Am.rowAt, Am.part, addOff, Nat.reduceAdd, Nat.reduceMul, Nat.reduceLeDiff, Nat.reduceSub, Nat.reduceLT, Int.reduceEq, Int.reduceLT, Int.reduceLE, Int.reduceGT, Int.reduceGE, Int.reduceAdd, Int.reduceSub, Int.reduceMul, Int.reduceNeg, Int.reduceToNat, reduceCtorEq, reduceIte, hw, hv, List.append_assoc, lenE]
set_option maxHeartbeats 1000000 in
theorem s74 {a b : Nat → Int} (ha : RB a) (hb : RB b) (st : Bool) : Iso E 74 [ag8 a, ag8 b] st = some (ag8 fun i => a i - b i) := by
  obtain ⟨B, hB⟩ : ∃ B, B = rw_ 8 b := ⟨_, rfl⟩
  have bh : ∀ i, i < 8 → (B.drop i).head? = some (I (b i)) := fun i hi => by rw [hB]; exact rw_head hi
  show Iso E 74 [.agg (rw_ 8 a), .agg (rw_ 8 b)] st = some (.agg (rw_ 8 fun i => a i - b i))
  rw [← hB]
  refine Iso_of (es _ _ _ _) e74 ?_
  simp only [f74]
  simp (disch := first | assumption | omega | (simp only [az]; done)) only [ru, eq_self, if_true, if_false, BEq.rfl, binI, AO.row?, splice, fillL, mmAll, loadV, storeV, zeros, Am.rowAt, Am.part, addOff, Nat.reduceAdd, Nat.reduceMul, Nat.reduceLeDiff, Nat.reduceSub, Nat.reduceLT, Int.reduceEq, Int.reduceLT, Int.reduceLE, Int.reduceGT, Int.reduceGE, Int.reduceAdd, Int.reduceSub, Int.reduceMul, Int.reduceNeg, Int.reduceToNat, reduceCtorEq, reduceIte]
  refine G_loop_ind (fun m ts hh mk => ∃ j : Nat, j ≤ 8 ∧ m = 8 - j ∧ ts.length = 19 ∧ ts.getD 2 .undef = .ptr 0 0 ∧ ts.getD 3 .undef = .ptr 1 0 ∧ ts.getD 4 .undef = .ptr 2 0 ∧ ts.getD 6 .undef = I j ∧ hh = [.cells (rw_ 8 fun i => if i < j then a i - b i else a i) false, .cells B false, .cells [I 0, I 0, I 0, I 0, I 0, I 0, I 0, I 0] false] ∧ mk = []) ?_ _ _ _ _
    ⟨0, by omega, rfl, rfl, rfl, rfl, rfl, rfl, rfl, rfl⟩
  rintro m ts hh mk ih ⟨j, hj', rfl, hl', q2, q3, q4, q6, rfl, rfl⟩
  rw [lit_all hl']
  simp only [lit0, litS, Nat.reduceAdd, q2, q3, q4, q6]
  by_cases hlt : (j : Int) < 8
  case neg =>
    obtain rfl : j = 8 := by omega
    have e : (rw_ 8 fun i => if i < 8 then a i - b i else a i) = rw_ 8 fun i => a i - b i := rw_congr fun i hi => if_pos hi
    rw [e]
    obtain ⟨R, hR⟩ : ∃ R, R = rw_ 8 fun i => a i - b i := ⟨_, rfl⟩
    have vt : R.take 8 = R := by rw [hR]; exact rw_take
    have vl : R.length = 8 := by rw [hR]; exact rw_len
    have vs : R.all AV.scalar = true := by rw [hR]; exact rw_sc
    have vv : ∀ st h k, R.mapM (view st h k) = some R := fun st h k => by rw [hR]; exact rw_view
    rw [← hR]
    simp (disch := first | assumption | omega | (simp only [az]; done)) only [ru, eq_self, if_true, if_false, BEq.rfl, binI, AO.row?, splice, fillL, mmAll, loadV, storeV, zeros, Am.rowAt, Am.part, addOff, Nat.reduceAdd, Nat.reduceMul, Nat.reduceLeDiff, Nat.reduceSub, Nat.reduceLT, Int.reduceEq, Int.reduceLT, Int.reduceLE, Int.reduceGT, Int.reduceGE, Int.reduceAdd, Int.reduceSub, Int.reduceMul, Int.reduceNeg, Int.reduceToNat, reduceCtorEq, reduceIte, hlt, decide_false, vt, vl, vs, List.append_nil, finC, getRes, Option.some.injEq, exists_eq_left', view_agg, vv, Option.map_some]
  have hj2 : j < 8 := by omega
  obtain ⟨R, hR⟩ : ∃ R, R = rw_ 8 fun i => if i < j then a i - b i else a i := ⟨_, rfl⟩
  have rh : (R.drop j).head? = some (I (a j)) := by rw [hR, rw_head hj2, if_neg (by omega)]
  have rp : R.take j ++ [I (a j - b j)] ++ R.drop (j + 1) = rw_ 8 fun i => if i < j + 1 then a i - b i else a i := by
    rw [hR]
    refine rw_put hj2 fun i hi => ?_
    by_cases e : i = j
    · subst e; rw [if_pos rfl, if_pos (by omega)]
    · rw [if_neg e]; by_cases e2 : i < j
      · rw [if_pos e2, if_pos (by omega)]
      · rw [if_neg e2, if_neg (by omega)]
  have rl : R.length = 8 := by rw [hR, rw_len]
  have fit : j + 1 ≤ R.length := by omega
  have h1 := ha j hj2; have h2 := hb j hj2
  have bj := bh j hj2
  rw [← hR]
  simp (disch := first | assumption | omega | (simp only [az]; done)) only [ru, eq_self, if_true, if_false, BEq.rfl, binI, AO.row?, splice, fillL, mmAll, loadV, storeV, zeros, Am.rowAt, Am.part, addOff, Nat.reduceAdd, Nat.reduceMul, Nat.reduceLeDiff, Nat.reduceSub, Nat.reduceLT, Int.reduceEq, Int.reduceLT, Int.reduceLE, Int.reduceGT, Int.reduceGE, Int.reduceAdd, Int.reduceSub, Int.reduceMul, Int.reduceNeg, Int.reduceToNat, reduceCtorEq, reduceIte, hlt, decide_true, nn, Int.toNat_natCast, Nat.mul_one, Nat.zero_add, rh, bj, fit, rp]
  exact ih (8 - (j + 1)) _ _ _ (by omega) ⟨j + 1, by omega, rfl, rfl, rfl, rfl, rfl, rfl, rfl, rfl⟩

def rA (p : Nat) : Nat → Int := fun i => if i = p then 1 else 0
theorem s77 {p : Nat} (hp : p < 8) (st : Bool) : Iso E 77 [I p] st = some (ag8 (rA p)) := by
  have p8 : (p : Int) < 8 := by omega
  obtain ⟨Z, hZ⟩ : ∃ Z, Z = rw_ 8 fun _ => 0 := ⟨_, rfl⟩
  have zl : Z.length = 8 := by rw [hZ]; exact rw_len
  have zp : Z.take p ++ [I 1] ++ Z.drop (p + 1) = rw_ 8 (rA p) := by rw [hZ]; exact rw_put hp fun i hi => rfl
  obtain ⟨R, hR⟩ : ∃ R, R = rw_ 8 (rA p) := ⟨_, rfl⟩
  have vt : R.take 8 = R := by rw [hR]; exact rw_take
  have vl : R.length = 8 := by rw [hR]; exact rw_len
  have vs : R.all AV.scalar = true := by rw [hR]; exact rw_sc
  have vv : ∀ st h k, R.mapM (view st h k) = some R := fun st h k => by rw [hR]; exact rw_view
  have fit : p + 1 ≤ Z.length := by omega
  have zd : Z.drop 8 = [] := List.drop_of_length_le (by omega)
  have fz : 8 ≤ Z.length := by omega
  show Iso E 77 [I p] st = some (.agg (rw_ 8 (rA p)))
  rw [← hR] at zp ⊢
  refine Iso_of (es _ _ _ _) e77 ?_
  simp only [f77, z8, ← hZ]
  simp (disch := first | assumption | omega | (simp only [az]; done)) only [ru, eq_self, if_true, if_false, BEq.rfl, binI, AO.row?, splice, fillL, mmAll, loadV, storeV, zeros, Am.rowAt, Am.part, addOff, Nat.reduceAdd, Nat.reduceMul, Nat.reduceLeDiff, Nat.reduceSub, Nat.reduceLT, Int.reduceEq, Int.reduceLT, Int.reduceLE, Int.reduceGT, Int.reduceGE, Int.reduceAdd, Int.reduceSub, Int.reduceMul, Int.reduceNeg, Int.reduceToNat, reduceCtorEq, reduceIte, p8, nn, Int.toNat_natCast, Nat.mul_one, Nat.zero_add, fit, fz, zp, vt, vl, vs, zd, List.append_nil, finC, getRes, Option.some.injEq, exists_eq_left', view_agg, vv, Option.map_some]

def rS (t : List Pt) (l : List Int) : Nat → Int := fun i => if i < t.length ∧ thr t l i = true ∧ (i : Int) ∉ l then (t.getD i default).p else 0
theorem rA_b (p : Nat) : RB (rA p) := fun i _ => by unfold rA; split <;> omega
theorem rS_b (T : TW t) {l : List Int} : RB (rS t l) := fun i _ => by
  unfold rS; split
  · rename_i h; have := T.p i h.1; omega
  · omega

set_option maxHeartbeats 1000000 in
theorem s73 (H : TbOk t v) (n8 : t.length ≤ 8) {l : List Int} {w : AV} (V : IsSl 1 intL l w) (hl : l.length ≤ 1000) (st : Bool) : Iso E 73 [v, w] st = some (ag8 (rS t l)) := by
  show Iso E 73 [v, w] st = some (.agg (rw_ 8 (rS t l)))
  refine Iso_of (es _ _ _ _) e73 ?_
  simp only [f73]
  obtain ⟨Z, hZ⟩ : ∃ Z, Z = [I 0, I 0, I 0, I 0, I 0, I 0, I 0, I 0] := ⟨_, rfl⟩
  have zl : Z.length = 8 := by rw [hZ]; rfl
  have zd : Z.drop 8 = [] := List.drop_of_length_le (by omega)
  have fz : 8 ≤ Z.length := by omega
  simp only [← hZ]
  simp (disch := first | assumption | omega | (simp only [az]; done)) only [ru, eq_self, if_true, if_false, BEq.rfl, binI, AO.row?, splice, fillL, mmAll, loadV, storeV, zeros, Am.rowAt, Am.part, addOff, Nat.reduceAdd, Nat.reduceMul, Nat.reduceLeDiff, Nat.reduceSub, Nat.reduceLT, Int.reduceEq, Int.reduceLT, Int.reduceLE, Int.reduceGT, Int.reduceGE, Int.reduceAdd, Int.reduceSub, Int.reduceMul, Int.reduceNeg, Int.reduceToNat, reduceCtorEq, reduceIte, lenV_sl H.i, elem_pt H.i, view_sl H.i, scalar_sl H.i, cells_sl H.i, pure_sl H.i, Int.toNat_natCast]
  refine G_loop_ind (fun m ts hh mk => ∃ (j : Nat) (J : List AO), j ≤ t.length ∧ m = t.length - j ∧ ts.length = 31 ∧ ts.getD 0 .undef = v ∧ ts.getD 1 .undef = w ∧ ts.getD 4 .undef = .ptr 0 0 ∧ ts.getD 5 .undef = .ptr 1 0 ∧ ts.getD 8 .undef = v ∧ ts.getD 9 .undef = I t.length ∧ ts.getD 10 .undef = I j ∧ hh = .cells Z false :: .cells (rw_ 8 fun i => if i < j then rS t l i else 0) false :: J ∧ mk = []) ?_ _ _ _ _
    ⟨0, [], by omega, rfl, rfl, rfl, rfl, rfl, rfl, rfl, rfl, rfl, by rw [hZ, z8]; rfl, rfl⟩
  rintro m ts hh mk ih ⟨j, J, hj', rfl, hl', q0, q1, q4, q5, q8, q9, q10, rfl, rfl⟩
  rw [lit_all hl']
  simp only [lit0, litS, Nat.reduceAdd, q0, q1, q4, q5, q8, q9, q10]
  by_cases hlt : (j : Int) < t.length
  case neg =>
    obtain rfl : j = t.length := by omega
    have e : (rw_ 8 fun i => if i < t.length then rS t l i else 0) = rw_ 8 (rS t l) := rw_congr fun i hi => by
      by_cases c : i < t.length
      · rw [if_pos c]
      · rw [if_neg c, rS, if_neg (fun h => c h.1)]
    rw [e]
    obtain ⟨R, hR⟩ : ∃ R, R = rw_ 8 (rS t l) := ⟨_, rfl⟩
    have vt : R.take 8 = R := by rw [hR]; exact rw_take
    have vl : R.length = 8 := by rw [hR]; exact rw_len
    have vs : R.all AV.scalar = true := by rw [hR]; exact rw_sc
    have vv : ∀ st h k, R.mapM (view st h k) = some R := fun st h k => by rw [hR]; exact rw_view
    rw [← hR]
    simp (disch := first | assumption | omega | (simp only [az]; done)) only [ru, eq_self, if_true, if_false, BEq.rfl, binI, AO.row?, splice, fillL, mmAll, loadV, storeV, zeros, Am.rowAt, Am.part, addOff, Nat.reduceAdd, Nat.reduceMul, Nat.reduceLeDiff, Nat.reduceSub, Nat.reduceLT, Int.reduceEq, Int.reduceLT, Int.reduceLE, Int.reduceGT, Int.reduceGE, Int.reduceAdd, Int.reduceSub, Int.reduceMul, Int.reduceNeg, Int.reduceToNat, reduceCtorEq, reduceIte, hlt, decide_false, vt, vl, vs, zl, zd, fz, List.append_nil, finC, getRes, Option.some.injEq, exists_eq_left', view_agg, vv, Option.map_some]
  have hj2 : j < t.length := by omega
  obtain ⟨x, hx⟩ : ∃ x, x = t.getD j default := ⟨_, rfl⟩
  have n1 : (J ++ [AO.cells [I x.of, I x.w.lo, I x.w.hi, I x.s.lo, I x.s.hi, I x.p] false])[J.length]? = some (.cells [I x.of, I x.w.lo, I x.w.hi, I x.s.lo, I x.s.hi, I x.p] false) := atE
  have j8 : (j : Int) < 8 := by omega
  have g1 := fun st => s112 H V hl (p := (j : Int)) (by omega) hlt st
  have no : rS t l j = 0 → (rw_ 8 fun i => if i < j then rS t l i else 0) = rw_ 8 fun i => if i < j + 1 then rS t l i else 0 := fun h0 => by
    refine rw_congr fun i hi => ?_
    by_cases e : i = j
    · subst e; rw [if_neg (by omega), if_pos (by omega), h0]
    · by_cases e2 : i < j
      · rw [if_pos e2, if_pos (by omega)]
      · rw [if_neg e2, if_neg (by omega)]
  cases c1 : thr t l j
  · have h0 : rS t l j = 0 := by rw [rS, if_neg (fun h => by rw [c1] at h; exact Bool.noConfusion h.2.1)]
    rw [no h0]
    simp (disch := first | assumption | omega | (simp only [az]; done)) only [ru, eq_self, if_true, if_false, BEq.rfl, binI, AO.row?, splice, fillL, mmAll, loadV, storeV, zeros, Am.rowAt, Am.part, addOff, Nat.reduceAdd, Nat.reduceMul, Nat.reduceLeDiff, Nat.reduceSub, Nat.reduceLT, Int.reduceEq, Int.reduceLT, Int.reduceLE, Int.reduceGT, Int.reduceGE, Int.reduceAdd, Int.reduceSub, Int.reduceMul, Int.reduceNeg, Int.reduceToNat, reduceCtorEq, reduceIte, hlt, decide_true, lenV_sl H.i, elem_pt H.i, view_sl H.i, scalar_sl H.i, cells_sl H.i, pure_sl H.i, Int.toNat_natCast, lenV_sl V, view_sl V, scalar_sl V, cells_sl V, pure_sl V, ← hx, n1, setE, g1, c1, gUn]
    exact ih (t.length - (j + 1)) _ _ _ (by omega) ⟨j + 1, _, by omega, rfl, rfl, rfl, rfl, rfl, rfl, rfl, rfl, rfl, rfl, rfl⟩
  by_cases c2 : (j : Int) ∈ l
  · have h0 : rS t l j = 0 := by rw [rS, if_neg (fun h => h.2.2 c2)]
    rw [no h0]
    simp (disch := first | assumption | omega | (simp only [az]; done)) only [ru, eq_self, if_true, if_false, BEq.rfl, binI, AO.row?, splice, fillL, mmAll, loadV, storeV, zeros, Am.rowAt, Am.part, addOff, Nat.reduceAdd, Nat.reduceMul, Nat.reduceLeDiff, Nat.reduceSub, Nat.reduceLT, Int.reduceEq, Int.reduceLT, Int.reduceLE, Int.reduceGT, Int.reduceGE, Int.reduceAdd, Int.reduceSub, Int.reduceMul, Int.reduceNeg, Int.reduceToNat, reduceCtorEq, reduceIte, hlt, decide_true, lenV_sl H.i, elem_pt H.i, view_sl H.i, scalar_sl H.i, cells_sl H.i, pure_sl H.i, Int.toNat_natCast, lenV_sl V, view_sl V, scalar_sl V, cells_sl V, pure_sl V, ← hx, n1, setE, g1, c1, s113 V hl, c2, gUn, Bool.not_true]
    exact ih (t.length - (j + 1)) _ _ _ (by omega) ⟨j + 1, _, by omega, rfl, rfl, rfl, rfl, rfl, rfl, rfl, rfl, rfl, rfl, rfl⟩
  · obtain ⟨R, hR⟩ : ∃ R, R = rw_ 8 fun i => if i < j then rS t l i else 0 := ⟨_, rfl⟩
    have rp : R.take j ++ [I x.p] ++ R.drop (j + 1) = rw_ 8 fun i => if i < j + 1 then rS t l i else 0 := by
      rw [hR]
      refine rw_put (by omega) fun i hi => ?_
      by_cases e : i = j
      · subst e; rw [if_pos rfl, if_pos (by omega), rS, if_pos ⟨hj2, c1, c2⟩, hx]
      · rw [if_neg e]; by_cases e2 : i < j
        · rw [if_pos e2, if_pos (by omega)]
        · rw [if_neg e2, if_neg (by omega)]
    have rl : R.length = 8 := by rw [hR, rw_len]
    have fit : j + 1 ≤ R.length := by omega
    rw [← hR]
    simp (disch := first | assumption | omega | (simp only [az]; done)) only [ru, eq_self, if_true, if_false, BEq.rfl, binI, AO.row?, splice, fillL, mmAll, loadV, storeV, zeros, Am.rowAt, Am.part, addOff, Nat.reduceAdd, Nat.reduceMul, Nat.reduceLeDiff, Nat.reduceSub, Nat.reduceLT, Int.reduceEq, Int.reduceLT, Int.reduceLE, Int.reduceGT, Int.reduceGE, Int.reduceAdd, Int.reduceSub, Int.reduceMul, Int.reduceNeg, Int.reduceToNat, reduceCtorEq, reduceIte, hlt, decide_true, decide_false, lenV_sl H.i, elem_pt H.i, view_sl H.i, scalar_sl H.i, cells_sl H.i, pure_sl H.i, Int.toNat_natCast, lenV_sl V, view_sl V, scalar_sl V, cells_sl V, pure_sl V, ← hx, n1, setE, g1, c1, s113 V hl, c2, gUn, Bool.not_false, j8, nn, Nat.mul_one, Nat.zero_add, fit, rp]
    exact ih (t.length - (j + 1)) _ _ _ (by omega) ⟨j + 1, _, by omega, rfl, rfl, rfl, rfl, rfl, rfl, rfl, rfl, rfl, rfl, rfl⟩

/-- between what sums of weights are -/
def btw (t : List Pt) (r : Nat → Int) : AV := if is1 t then .tup [.agg [I (loV t r), I (hiV t r)], I 0] else .tup [.agg [I 0, I 0], I 3]
set_option maxHeartbeats 2000000 in
theorem s66 (H : TbOk t v) (T : TW t) {r : Nat → Int} (hr : RB r) (st : Bool) : Iso E 66 [v, ag8 r] st = some (btw t r) := by
  have hr2 : RB fun i => 0 - r i := fun i hi => by have := hr i hi; show -100 ≤ 0 - r i ∧ 0 - r i ≤ 100; omega
  have g74 := fun st => s74 (a := fun _ => 0) (b := r) (fun _ _ => by show -100 ≤ (0 : Int) ∧ (0 : Int) ≤ 100; omega) hr st
  obtain ⟨RR, hR⟩ : ∃ RR, RR = rw_ 8 r := ⟨_, rfl⟩
  obtain ⟨Q, hQ⟩ : ∃ Q, Q = rw_ 8 fun i => 0 - r i := ⟨_, rfl⟩
  have Rl : RR.length = 8 := by rw [hR]; exact rw_len
  have Rt : RR.take 8 = RR := by rw [hR]; exact rw_take
  have Rv : ∀ st h k, RR.mapM (view st h k) = some RR := fun st h k => by rw [hR]; exact rw_view
  have g74' : ∀ st, Iso E 74 [.agg [I 0, I 0, I 0, I 0, I 0, I 0, I 0, I 0], .agg RR] st = some (.agg Q) := fun st => by rw [hR, hQ, z8]; exact g74 st
  have sgn : ∀ (h : List AO) (r : Nat → Int), RB r → ∃ h', R E (.fn 103) [v, .fn 104 [ag8 r] []] h 0 = some (.fn 131 [] [.ptr h.length 0, .ptr (h.length + 1) 0], h ++ h') ∧ h'.length = 2 ∧ Ro E 102 [v, .fn 131 [] [.ptr h.length 0, .ptr (h.length + 1) 0]] (h ++ h') = some (I (En (Lst t (cT t r)))) := by
    intro h r hr
    obtain ⟨x, h', h1, rfl, rfl⟩ := r103 (v := v) (w := .fn 104 [ag8 r] []) rfl (cells_sl H.i) (h := h) (lim := 0)
    exact ⟨_, h1, rfl, s102 H T.toTG (cost131 H T hr (by rw [atT0]; rfl) (by rw [atT]; rfl)) ⟨rfl, rfl⟩ (cT_bd T hr)⟩
  obtain ⟨h1, a1, a2, a3⟩ := sgn [.cells RR false, .cells [I 0, I 0] false] r hr
  obtain ⟨h2, b1, b2, b3⟩ := sgn ([.cells RR false, .cells [I 0, I 0] false] ++ h1) (fun i => 0 - r i) hr2
  show Iso E 66 [v, .agg (rw_ 8 r)] st = some (btw t r)
  have a1' : R E (.fn 103) [v, .fn 104 [.agg RR] []] [.cells RR false, .cells [I 0, I 0] false] 0 = some (.fn 131 [] [.ptr 2 0, .ptr 3 0], [.cells RR false, .cells [I 0, I 0] false] ++ h1) := by rw [hR] at a1 ⊢; exact a1
  have ln : ([AO.cells RR false, .cells [I 0, I 0] false] ++ h1).length = 4 := by simp [a2]
  rw [ln] at b1 b3
  have b1' : R E (.fn 103) [v, .fn 104 [.agg Q] []] ([.cells RR false, .cells [I 0, I 0] false] ++ h1) 0 = some (.fn 131 [] [.ptr 4 0, .ptr 5 0], [.cells RR false, .cells [I 0, I 0] false] ++ h1 ++ h2) := by rw [hQ]; exact b1
  simp only [apC, apN, lenS, len0, Nat.reduceAdd, Nat.zero_add] at a1' a3 b1' b3
  have e1 := LstT_isSome (r := r) T.toTG
  rw [← hR]
  refine Iso_of (es _ _ _ _) e66 ?_
  simp only [f66, btw]
  cases hc : is1 t
  · have n1 : Lst t (cT t r) = none := LstT_none T.toTG hc
    rw [n1] at a3
    have en : En none = 9223372036854775807 := rfl
    rw [en] at a3
    simp (disch := first | assumption | omega | (simp only [az]; done)) only [ru, eq_self, if_true, if_false, BEq.rfl, binI, AO.row?, splice, fillL, mmAll, loadV, storeV, zeros, Am.rowAt, Am.part, addOff, Nat.reduceAdd, Nat.reduceMul, Nat.reduceLeDiff, Nat.reduceSub, Nat.reduceLT, Int.reduceEq, Int.reduceLT, Int.reduceLE, Int.reduceGT, Int.reduceGE, Int.reduceAdd, Int.reduceSub, Int.reduceMul, Int.reduceNeg, Int.reduceToNat, reduceCtorEq, reduceIte, lenV_sl H.i, elem_pt H.i, view_sl H.i, scalar_sl H.i, cells_sl H.i, pure_sl H.i, Int.toNat_natCast, Rl, Rt, exOp_call0, a1', exOp_call3, a3, decide_true, finC2, getRes, Option.some.injEq, exists_eq_left', Bool.false_eq_true]
  · obtain ⟨x, hx⟩ := LstT_some (r := r) T.toTG hc
    obtain ⟨y, hy⟩ := LstT_some (r := fun i => 0 - r i) T.toTG hc
    rw [hx] at a3
    rw [hy] at b3
    have ex : En (some x) = x := rfl
    have ey : En (some y) = y := rfl
    rw [ex] at a3
    rw [ey] at b3
    have lx : loV t r = x := by rw [loV, hx]; rfl
    have ly : hiV t r = 0 - y := by rw [hiV, hy]; rfl
    have bx := smS_bd (K := 3000) (by omega) (cT_bd T hr) t.length x hx
    have by_ := smS_bd (K := 3000) (by omega) (cT_bd T hr2) t.length y hy
    have pw := pow2_le T.n
    have p3 : ((2 : Int) ^ t.length - 1) * 3000 ≤ 255 * 3000 := Int.mul_le_mul_of_nonneg_right pw.1 (by omega)
    have xn : ¬ x = 9223372036854775807 := by omega
    simp (disch := first | assumption | omega | (simp only [az]; done)) only [ru, eq_self, if_true, if_false, BEq.rfl, binI, AO.row?, splice, fillL, mmAll, loadV, storeV, zeros, Am.rowAt, Am.part, addOff, Nat.reduceAdd, Nat.reduceMul, Nat.reduceLeDiff, Nat.reduceSub, Nat.reduceLT, Int.reduceEq, Int.reduceLT, Int.reduceLE, Int.reduceGT, Int.reduceGE, Int.reduceAdd, Int.reduceSub, Int.reduceMul, Int.reduceNeg, Int.reduceToNat, reduceCtorEq, reduceIte, lenV_sl H.i, elem_pt H.i, view_sl H.i, scalar_sl H.i, cells_sl H.i, pure_sl H.i, Int.toNat_natCast, Rl, Rt, Rv, view_agg, Option.map_some, exOp_call0, a1', exOp_call3, a3, xn, decide_false, g74', b1', b3, lx, ly, finC2, getRes, Option.some.injEq, exists_eq_left']
end
end Go.Proofs.Yteonklnjchefiaa.S

/-
The program's answers: weights, prices, changes.
-/
namespace Go.Proofs.Yteonklnjchefiaa.S
open Go Go.Am Go.Proofs.Yteonklnjchefiaa.T
set_option maxRecDepth 100000
set_option linter.unusedSimpArgs false
set_option linter.unusedVariables false

/-- an append to a list that is being made, in a heap of which not all is known -/
theorem outE_ap {α : Type} {enc : α → List AV} {esz eb : Nat} (he : ∀ a, (enc a).length = esz) (hs : ∀ a, (enc a).all AV.scalar = true) (h1 : 1 ≤ esz) (heb : 1 ≤ eb) (hb : eb ≤ 1000) {b : Nat} {h : List AO} {v : AV} {l : List α} {lim : Nat} (H : OutE enc esz b h v l) (hbl : b ≤ h.length) (hlim : lim ≤ b) (hl : l.length ≤ 1000000) (x : α) :
    ∃ v' h', appV lim h esz eb v (.cs esz 1 (enc x)) = some (v', h') ∧ OutE enc esz b h' v' (l ++ [x]) ∧ b ≤ h'.length ∧ ∀ j, j < b → h'[j]? = h[j]? := by
  have hp : (h.take b).length = b := by rw [List.length_take]; omega
  have e : h.take b ++ h.drop b = h := List.take_append_drop b h
  have H' : OutE enc esz (h.take b).length (h.take b ++ h.drop b) v l := by rw [hp, e]; exact H
  obtain ⟨v', J', ha, ho⟩ := outE_app he hs h1 heb hb H' (by rw [hp]; exact hlim) hl x
  rw [e] at ha
  rw [hp] at ho
  refine ⟨v', h.take b ++ J', ha, ho, by rw [List.length_append, hp]; omega, fun j hj => ?_⟩
  rw [List.getElem?_append_left (by omega), List.getElem?_take, if_pos hj]
theorem OutE.fr {α : Type} {enc : α → List AV} {esz b : Nat} {h h' : List AO} {v : AV} {l : List α} (H : OutE enc esz b h v l) (F : Fr h h') : OutE enc esz b h' v l := by
  rcases H with h1 | ⟨hne, o, hb, e, hc⟩
  · exact .inl h1
  · exact .inr ⟨hne, o, hb, e, F.at hc⟩
def erR (e : Int) : AV := .tup [.agg [I 0, I 0], I e]
def askR (t : List Pt) (q : Bool) (r : Nat → Int) : AV := if tval t then (if q then btw t r else erR 1) else erR 70
section
variable {t : List Pt} {v : AV}
theorem s32 (H : TbOk t v) (i : Int) (st : Bool) : Iso E 32 [v, I i] st = some (askR t (inR i 0 (t.length - 1)) (rA i.toNat)) := by
  have g := fun st => s69 H i st
  refine Iso_of (es _ _ _ _) e32 ?_
  simp only [f32, askR, erR]
  cases hv : tval t
  · simp only [hv, aC, Bool.false_eq_true, if_false] at g
    simp (disch := first | assumption | omega | (simp only [az]; done)) only [ru, eq_self, if_true, if_false, BEq.rfl, binI, AO.row?, splice, fillL, mmAll, loadV, storeV, zeros, Am.rowAt, Am.part, addOff, Nat.reduceAdd, Nat.reduceMul, Nat.reduceLeDiff, Nat.reduceSub, Nat.reduceLT, Int.reduceEq, Int.reduceLT, Int.reduceLE, Int.reduceGT, Int.reduceGE, Int.reduceAdd, Int.reduceSub, Int.reduceMul, Int.reduceNeg, Int.reduceToNat, reduceCtorEq, reduceIte, lenV_sl H.i, elem_pt H.i, view_sl H.i, scalar_sl H.i, cells_sl H.i, pure_sl H.i, Int.toNat_natCast, g, decide_false, decide_true, Bool.not_false, finC2, getRes, Option.some.injEq, exists_eq_left', Bool.false_eq_true]
  have T := tval_W hv
  have t8 := T.n
  cases hq : inR i 0 (t.length - 1)
  · simp only [hv, hq, aC, Bool.false_eq_true, if_false, if_true] at g
    simp (disch := first | assumption | omega | (simp only [az]; done)) only [ru, eq_self, if_true, if_false, BEq.rfl, binI, AO.row?, splice, fillL, mmAll, loadV, storeV, zeros, Am.rowAt, Am.part, addOff, Nat.reduceAdd, Nat.reduceMul, Nat.reduceLeDiff, Nat.reduceSub, Nat.reduceLT, Int.reduceEq, Int.reduceLT, Int.reduceLE, Int.reduceGT, Int.reduceGE, Int.reduceAdd, Int.reduceSub, Int.reduceMul, Int.reduceNeg, Int.reduceToNat, reduceCtorEq, reduceIte, lenV_sl H.i, elem_pt H.i, view_sl H.i, scalar_sl H.i, cells_sl H.i, pure_sl H.i, Int.toNat_natCast, g, decide_false, decide_true, Bool.not_false, finC2, getRes, Option.some.injEq, exists_eq_left', Bool.false_eq_true]
  simp only [hv, hq, aC, if_true] at g
  obtain ⟨i0, i1⟩ := inR_iff.1 hq
  obtain ⟨n, rfl⟩ : ∃ n : Nat, i = n := ⟨i.toNat, by omega⟩
  have g2 := fun st => s77 (p := n) (by omega) st
  have g3 := fun st => s66 H T (rA_b n) st
  obtain ⟨B, hB⟩ : ∃ B, B = rw_ 8 (rA n) := ⟨_, rfl⟩
  have g2' : ∀ st, Iso E 77 [I n] st = some (.agg B) := fun st => by rw [hB]; exact g2 st
  have g3' : ∀ st, Iso E 66 [v, .agg B] st = some (btw t (rA n)) := fun st => by rw [hB]; exact g3 st
  have Bv : ∀ st h k, B.mapM (view st h k) = some B := fun st h k => by rw [hB]; exact rw_view
  simp only [btw] at g3' ⊢
  cases h1 : is1 t
  · simp only [h1, Bool.false_eq_true, if_false] at g3'
    simp (disch := first | assumption | omega | (simp only [az]; done)) only [ru, eq_self, if_true, if_false, BEq.rfl, binI, AO.row?, splice, fillL, mmAll, loadV, storeV, zeros, Am.rowAt, Am.part, addOff, Nat.reduceAdd, Nat.reduceMul, Nat.reduceLeDiff, Nat.reduceSub, Nat.reduceLT, Int.reduceEq, Int.reduceLT, Int.reduceLE, Int.reduceGT, Int.reduceGE, Int.reduceAdd, Int.reduceSub, Int.reduceMul, Int.reduceNeg, Int.reduceToNat, reduceCtorEq, reduceIte, lenV_sl H.i, elem_pt H.i, view_sl H.i, scalar_sl H.i, cells_sl H.i, pure_sl H.i, Int.toNat_natCast, g, decide_false, decide_true, Bool.not_true, g2', view_agg, Bv, Option.map_some, g3', finC2, getRes, Option.some.injEq, exists_eq_left', Bool.false_eq_true]
  · simp only [h1, if_true] at g3'
    simp (disch := first | assumption | omega | (simp only [az]; done)) only [ru, eq_self, if_true, if_false, BEq.rfl, binI, AO.row?, splice, fillL, mmAll, loadV, storeV, zeros, Am.rowAt, Am.part, addOff, Nat.reduceAdd, Nat.reduceMul, Nat.reduceLeDiff, Nat.reduceSub, Nat.reduceLT, Int.reduceEq, Int.reduceLT, Int.reduceLE, Int.reduceGT, Int.reduceGE, Int.reduceAdd, Int.reduceSub, Int.reduceMul, Int.reduceNeg, Int.reduceToNat, reduceCtorEq, reduceIte, lenV_sl H.i, elem_pt H.i, view_sl H.i, scalar_sl H.i, cells_sl H.i, pure_sl H.i, Int.toNat_natCast, g, decide_false, decide_true, Bool.not_true, g2', view_agg, Bv, Option.map_some, g3', Int.toNat_natCast, finC2, getRes, Option.some.injEq, exists_eq_left']
/-- the error of lists that are to be cuts -/
theorem s72 (H : TbOk t v) {l : List Int} {w : AV} (V : IsSl 1 intL l w) (hl : l.length ≤ 1000) (st : Bool) : Iso E 72 [v, .cs 1 1 [w]] st = some (I (aC (tval t) (cutB t l))) := by
  have sp := H.n
  have a0 : elemAt 1 (.cs 1 1 [w]) (I 0) = some (.cptr [w]) := rfl
  refine Iso_of (es _ _ _ _) e72 ?_
  simp only [f72, aC]
  cases hv : tval t
  · simp (disch := first | assumption | omega | (simp only [az]; done)) only [ru, eq_self, if_true, if_false, BEq.rfl, binI, AO.row?, splice, fillL, mmAll, loadV, storeV, zeros, Am.rowAt, Am.part, addOff, Nat.reduceAdd, Nat.reduceMul, Nat.reduceLeDiff, Nat.reduceSub, Nat.reduceLT, Int.reduceEq, Int.reduceLT, Int.reduceLE, Int.reduceGT, Int.reduceGE, Int.reduceAdd, Int.reduceSub, Int.reduceMul, Int.reduceNeg, Int.reduceToNat, reduceCtorEq, reduceIte, lenV_sl H.i, elem_pt H.i, view_sl H.i, scalar_sl H.i, cells_sl H.i, pure_sl H.i, Int.toNat_natCast, s52 H, hv, decide_false, decide_true, Bool.not_false, Bool.false_eq_true]
  simp (disch := first | assumption | omega | (simp only [az]; done)) only [ru, eq_self, if_true, if_false, BEq.rfl, binI, AO.row?, splice, fillL, mmAll, loadV, storeV, zeros, Am.rowAt, Am.part, addOff, Nat.reduceAdd, Nat.reduceMul, Nat.reduceLeDiff, Nat.reduceSub, Nat.reduceLT, Int.reduceEq, Int.reduceLT, Int.reduceLE, Int.reduceGT, Int.reduceGE, Int.reduceAdd, Int.reduceSub, Int.reduceMul, Int.reduceNeg, Int.reduceToNat, reduceCtorEq, reduceIte, lenV_sl H.i, elem_pt H.i, view_sl H.i, scalar_sl H.i, cells_sl H.i, pure_sl H.i, Int.toNat_natCast, s52 H, hv, decide_false, decide_true, Bool.not_true]
  rw [G_loop]
  have c0 : (0 : Int) < ((1 : Nat) : Int) := by decide
  cases hc : cutB t l
  · simp (disch := first | assumption | omega | (simp only [az]; done)) only [ru, eq_self, if_true, if_false, BEq.rfl, binI, AO.row?, splice, fillL, mmAll, loadV, storeV, zeros, Am.rowAt, Am.part, addOff, Nat.reduceAdd, Nat.reduceMul, Nat.reduceLeDiff, Nat.reduceSub, Nat.reduceLT, Int.reduceEq, Int.reduceLT, Int.reduceLE, Int.reduceGT, Int.reduceGE, Int.reduceAdd, Int.reduceSub, Int.reduceMul, Int.reduceNeg, Int.reduceToNat, reduceCtorEq, reduceIte, lenV_sl H.i, elem_pt H.i, view_sl H.i, scalar_sl H.i, cells_sl H.i, pure_sl H.i, Int.toNat_natCast, lenV_sl V, view_sl V, scalar_sl V, cells_sl V, pure_sl V, c0, a0, s111 H V hl, hc, Bool.not_false, decide_true, Bool.false_eq_true]
  simp (disch := first | assumption | omega | (simp only [az]; done)) only [ru, eq_self, if_true, if_false, BEq.rfl, binI, AO.row?, splice, fillL, mmAll, loadV, storeV, zeros, Am.rowAt, Am.part, addOff, Nat.reduceAdd, Nat.reduceMul, Nat.reduceLeDiff, Nat.reduceSub, Nat.reduceLT, Int.reduceEq, Int.reduceLT, Int.reduceLE, Int.reduceGT, Int.reduceGE, Int.reduceAdd, Int.reduceSub, Int.reduceMul, Int.reduceNeg, Int.reduceToNat, reduceCtorEq, reduceIte, lenV_sl H.i, elem_pt H.i, view_sl H.i, scalar_sl H.i, cells_sl H.i, pure_sl H.i, Int.toNat_natCast, lenV_sl V, view_sl V, scalar_sl V, cells_sl V, pure_sl V, c0, a0, s111 H V hl, hc, Bool.not_true, decide_true]
  rw [G_loop]
  have c1 : ¬ (1 : Int) < ((1 : Nat) : Int) := by decide
  simp (disch := first | assumption | omega | (simp only [az]; done)) only [ru, eq_self, if_true, if_false, BEq.rfl, binI, AO.row?, splice, fillL, mmAll, loadV, storeV, zeros, Am.rowAt, Am.part, addOff, Nat.reduceAdd, Nat.reduceMul, Nat.reduceLeDiff, Nat.reduceSub, Nat.reduceLT, Int.reduceEq, Int.reduceLT, Int.reduceLE, Int.reduceGT, Int.reduceGE, Int.reduceAdd, Int.reduceSub, Int.reduceMul, Int.reduceNeg, Int.reduceToNat, reduceCtorEq, reduceIte, lenV_sl H.i, elem_pt H.i, view_sl H.i, scalar_sl H.i, cells_sl H.i, pure_sl H.i, Int.toNat_natCast, c1, decide_false]
theorem s72b (H : TbOk t v) {l m : List Int} {w y : AV} (V : IsSl 1 intL l w) (hl : l.length ≤ 1000) (Y : IsSl 1 intL m y) (hm : m.length ≤ 1000) (st : Bool) : Iso E 72 [v, .cs 1 2 [w, y]] st = some (I (aC (tval t) (cutB t l && cutB t m))) := by
  have sp := H.n
  have a0 : elemAt 1 (.cs 1 2 [w, y]) (I 0) = some (.cptr [w]) := rfl
  have a1 : elemAt 1 (.cs 1 2 [w, y]) (I 1) = some (.cptr [y]) := rfl
  refine Iso_of (es _ _ _ _) e72 ?_
  simp only [f72, aC]
  cases hv : tval t
  · simp (disch := first | assumption | omega | (simp only [az]; done)) only [ru, eq_self, if_true, if_false, BEq.rfl, binI, AO.row?, splice, fillL, mmAll, loadV, storeV, zeros, Am.rowAt, Am.part, addOff, Nat.reduceAdd, Nat.reduceMul, Nat.reduceLeDiff, Nat.reduceSub, Nat.reduceLT, Int.reduceEq, Int.reduceLT, Int.reduceLE, Int.reduceGT, Int.reduceGE, Int.reduceAdd, Int.reduceSub, Int.reduceMul, Int.reduceNeg, Int.reduceToNat, reduceCtorEq, reduceIte, lenV_sl H.i, elem_pt H.i, view_sl H.i, scalar_sl H.i, cells_sl H.i, pure_sl H.i, Int.toNat_natCast, s52 H, hv, decide_false, decide_true, Bool.not_false, Bool.false_eq_true]
  simp (disch := first | assumption | omega | (simp only [az]; done)) only [ru, eq_self, if_true, if_false, BEq.rfl, binI, AO.row?, splice, fillL, mmAll, loadV, storeV, zeros, Am.rowAt, Am.part, addOff, Nat.reduceAdd, Nat.reduceMul, Nat.reduceLeDiff, Nat.reduceSub, Nat.reduceLT, Int.reduceEq, Int.reduceLT, Int.reduceLE, Int.reduceGT, Int.reduceGE, Int.reduceAdd, Int.reduceSub, Int.reduceMul, Int.reduceNeg, Int.reduceToNat, reduceCtorEq, reduceIte, lenV_sl H.i, elem_pt H.i, view_sl H.i, scalar_sl H.i, cells_sl H.i, pure_sl H.i, Int.toNat_natCast, s52 H, hv, decide_false, decide_true, Bool.not_true]
  rw [G_loop]
  have c0 : (0 : Int) < ((2 : Nat) : Int) := by decide
  cases hc : cutB t l
  · simp (disch := first | assumption | omega | (simp only [az]; done)) only [ru, eq_self, if_true, if_false, BEq.rfl, binI, AO.row?, splice, fillL, mmAll, loadV, storeV, zeros, Am.rowAt, Am.part, addOff, Nat.reduceAdd, Nat.reduceMul, Nat.reduceLeDiff, Nat.reduceSub, Nat.reduceLT, Int.reduceEq, Int.reduceLT, Int.reduceLE, Int.reduceGT, Int.reduceGE, Int.reduceAdd, Int.reduceSub, Int.reduceMul, Int.reduceNeg, Int.reduceToNat, reduceCtorEq, reduceIte, lenV_sl H.i, elem_pt H.i, view_sl H.i, scalar_sl H.i, cells_sl H.i, pure_sl H.i, Int.toNat_natCast, lenV_sl V, view_sl V, scalar_sl V, cells_sl V, pure_sl V, c0, a0, s111 H V hl, hc, Bool.not_false, Bool.false_and, decide_true, Bool.false_eq_true]
  simp (disch := first | assumption | omega | (simp only [az]; done)) only [ru, eq_self, if_true, if_false, BEq.rfl, binI, AO.row?, splice, fillL, mmAll, loadV, storeV, zeros, Am.rowAt, Am.part, addOff, Nat.reduceAdd, Nat.reduceMul, Nat.reduceLeDiff, Nat.reduceSub, Nat.reduceLT, Int.reduceEq, Int.reduceLT, Int.reduceLE, Int.reduceGT, Int.reduceGE, Int.reduceAdd, Int.reduceSub, Int.reduceMul, Int.reduceNeg, Int.reduceToNat, reduceCtorEq, reduceIte, lenV_sl H.i, elem_pt H.i, view_sl H.i, scalar_sl H.i, cells_sl H.i, pure_sl H.i, Int.toNat_natCast, lenV_sl V, view_sl V, scalar_sl V, cells_sl V, pure_sl V, c0, a0, s111 H V hl, hc, Bool.not_true, decide_true]
  rw [G_loop]
  have c1 : (1 : Int) < ((2 : Nat) : Int) := by decide
  cases hc2 : cutB t m
  · simp (disch := first | assumption | omega | (simp only [az]; done)) only [ru, eq_self, if_true, if_false, BEq.rfl, binI, AO.row?, splice, fillL, mmAll, loadV, storeV, zeros, Am.rowAt, Am.part, addOff, Nat.reduceAdd, Nat.reduceMul, Nat.reduceLeDiff, Nat.reduceSub, Nat.reduceLT, Int.reduceEq, Int.reduceLT, Int.reduceLE, Int.reduceGT, Int.reduceGE, Int.reduceAdd, Int.reduceSub, Int.reduceMul, Int.reduceNeg, Int.reduceToNat, reduceCtorEq, reduceIte, lenV_sl H.i, elem_pt H.i, view_sl H.i, scalar_sl H.i, cells_sl H.i, pure_sl H.i, Int.toNat_natCast, lenV_sl Y, view_sl Y, scalar_sl Y, cells_sl Y, pure_sl Y, c1, a1, s111 H Y hm, hc2, Bool.not_false, Bool.and_false, decide_true, Bool.false_eq_true]
  simp (disch := first | assumption | omega | (simp only [az]; done)) only [ru, eq_self, if_true, if_false, BEq.rfl, binI, AO.row?, splice, fillL, mmAll, loadV, storeV, zeros, Am.rowAt, Am.part, addOff, Nat.reduceAdd, Nat.reduceMul, Nat.reduceLeDiff, Nat.reduceSub, Nat.reduceLT, Int.reduceEq, Int.reduceLT, Int.reduceLE, Int.reduceGT, Int.reduceGE, Int.reduceAdd, Int.reduceSub, Int.reduceMul, Int.reduceNeg, Int.reduceToNat, reduceCtorEq, reduceIte, lenV_sl H.i, elem_pt H.i, view_sl H.i, scalar_sl H.i, cells_sl H.i, pure_sl H.i, Int.toNat_natCast, lenV_sl Y, view_sl Y, scalar_sl Y, cells_sl Y, pure_sl Y, c1, a1, s111 H Y hm, hc2, Bool.not_true, Bool.and_true, decide_true]
  rw [G_loop]
  have c2 : ¬ (2 : Int) < ((2 : Nat) : Int) := by decide
  simp (disch := first | assumption | omega | (simp only [az]; done)) only [ru, eq_self, if_true, if_false, BEq.rfl, binI, AO.row?, splice, fillL, mmAll, loadV, storeV, zeros, Am.rowAt, Am.part, addOff, Nat.reduceAdd, Nat.reduceMul, Nat.reduceLeDiff, Nat.reduceSub, Nat.reduceLT, Int.reduceEq, Int.reduceLT, Int.reduceLE, Int.reduceGT, Int.reduceGE, Int.reduceAdd, Int.reduceSub, Int.reduceMul, Int.reduceNeg, Int.reduceToNat, reduceCtorEq, reduceIte, lenV_sl H.i, elem_pt H.i, view_sl H.i, scalar_sl H.i, cells_sl H.i, pure_sl H.i, Int.toNat_natCast, c2, decide_false]
theorem s27 (H : TbOk t v) {l : List Int} {w : AV} (V : IsSl 1 intL l w) (hl : l.length ≤ 1000) (st : Bool) : Iso E 27 [v, w] st = some (askR t (cutB t l) (rS t l)) := by
  have g := fun st => s72 H V hl st
  refine Iso_of (es _ _ _ _) e27 ?_
  simp only [f27, askR, erR]
  cases hv : tval t
  · simp only [hv, aC, Bool.false_eq_true, if_false] at g
    simp (disch := first | assumption | omega | (simp only [az]; done)) only [ru, eq_self, if_true, if_false, BEq.rfl, binI, AO.row?, splice, fillL, mmAll, loadV, storeV, zeros, Am.rowAt, Am.part, addOff, Nat.reduceAdd, Nat.reduceMul, Nat.reduceLeDiff, Nat.reduceSub, Nat.reduceLT, Int.reduceEq, Int.reduceLT, Int.reduceLE, Int.reduceGT, Int.reduceGE, Int.reduceAdd, Int.reduceSub, Int.reduceMul, Int.reduceNeg, Int.reduceToNat, reduceCtorEq, reduceIte, lenV_sl H.i, elem_pt H.i, view_sl H.i, scalar_sl H.i, cells_sl H.i, pure_sl H.i, Int.toNat_natCast, lenV_sl V, view_sl V, scalar_sl V, cells_sl V, pure_sl V, exOp_litS, AV.pureV.go, Bool.and_true, g, decide_false, decide_true, Bool.not_false, finC2, getRes, Option.some.injEq, exists_eq_left', Bool.false_eq_true]
  have T := tval_W hv
  cases hq : cutB t l
  · simp only [hv, hq, aC, Bool.false_eq_true, if_false, if_true] at g
    simp (disch := first | assumption | omega | (simp only [az]; done)) only [ru, eq_self, if_true, if_false, BEq.rfl, binI, AO.row?, splice, fillL, mmAll, loadV, storeV, zeros, Am.rowAt, Am.part, addOff, Nat.reduceAdd, Nat.reduceMul, Nat.reduceLeDiff, Nat.reduceSub, Nat.reduceLT, Int.reduceEq, Int.reduceLT, Int.reduceLE, Int.reduceGT, Int.reduceGE, Int.reduceAdd, Int.reduceSub, Int.reduceMul, Int.reduceNeg, Int.reduceToNat, reduceCtorEq, reduceIte, lenV_sl H.i, elem_pt H.i, view_sl H.i, scalar_sl H.i, cells_sl H.i, pure_sl H.i, Int.toNat_natCast, lenV_sl V, view_sl V, scalar_sl V, cells_sl V, pure_sl V, exOp_litS, AV.pureV.go, Bool.and_true, g, decide_false, decide_true, Bool.not_false, finC2, getRes, Option.some.injEq, exists_eq_left', Bool.false_eq_true]
  simp only [hv, hq, aC, if_true] at g
  have g2 := fun st => s73 H T.n V hl st
  have g3 := fun st => s66 H T (rS_b T (l := l)) st
  obtain ⟨B, hB⟩ : ∃ B, B = rw_ 8 (rS t l) := ⟨_, rfl⟩
  have g2' : ∀ st, Iso E 73 [v, w] st = some (.agg B) := fun st => by rw [hB]; exact g2 st
  have g3' : ∀ st, Iso E 66 [v, .agg B] st = some (btw t (rS t l)) := fun st => by rw [hB]; exact g3 st
  have Bv : ∀ st h k, B.mapM (view st h k) = some B := fun st h k => by rw [hB]; exact rw_view
  simp only [btw] at g3' ⊢
  cases h1 : is1 t
  · simp only [h1, Bool.false_eq_true, if_false] at g3'
    simp (disch := first | assumption | omega | (simp only [az]; done)) only [ru, eq_self, if_true, if_false, BEq.rfl, binI, AO.row?, splice, fillL, mmAll, loadV, storeV, zeros, Am.rowAt, Am.part, addOff, Nat.reduceAdd, Nat.reduceMul, Nat.reduceLeDiff, Nat.reduceSub, Nat.reduceLT, Int.reduceEq, Int.reduceLT, Int.reduceLE, Int.reduceGT, Int.reduceGE, Int.reduceAdd, Int.reduceSub, Int.reduceMul, Int.reduceNeg, Int.reduceToNat, reduceCtorEq, reduceIte, lenV_sl H.i, elem_pt H.i, view_sl H.i, scalar_sl H.i, cells_sl H.i, pure_sl H.i, Int.toNat_natCast, lenV_sl V, view_sl V, scalar_sl V, cells_sl V, pure_sl V, exOp_litS, AV.pureV.go, Bool.and_true, g, decide_false, decide_true, Bool.not_true, g2', view_agg, Bv, Option.map_some, g3', finC2, getRes, Option.some.injEq, exists_eq_left', Bool.false_eq_true]
  · simp only [h1, if_true] at g3'
    simp (disch := first | assumption | omega | (simp only [az]; done)) only [ru, eq_self, if_true, if_false, BEq.rfl, binI, AO.row?, splice, fillL, mmAll, loadV, storeV, zeros, Am.rowAt, Am.part, addOff, Nat.reduceAdd, Nat.reduceMul, Nat.reduceLeDiff, Nat.reduceSub, Nat.reduceLT, Int.reduceEq, Int.reduceLT, Int.reduceLE, Int.reduceGT, Int.reduceGE, Int.reduceAdd, Int.reduceSub, Int.reduceMul, Int.reduceNeg, Int.reduceToNat, reduceCtorEq, reduceIte, lenV_sl H.i, elem_pt H.i, view_sl H.i, scalar_sl H.i, cells_sl H.i, pure_sl H.i, Int.toNat_natCast, lenV_sl V, view_sl V, scalar_sl V, cells_sl V, pure_sl V, exOp_litS, AV.pureV.go, Bool.and_true, g, decide_false, decide_true, Bool.not_true, g2', view_agg, Bv, Option.map_some, g3', finC2, getRes, Option.some.injEq, exists_eq_left']
def rnk (t : List Pt) (l m : List Int) : Int := if loV t (fun i => rS t l i - rS t m i) > 0 then 1 else if hiV t (fun i => rS t l i - rS t m i) ≤ 0 then 2 else 3
def rnkR (t : List Pt) (l m : List Int) : AV := if tval t then (if cutB t l && cutB t m then (if is1 t then .tup [I (rnk t l m), I 0] else .tup [I 0, I 3]) else .tup [I 0, I 1]) else .tup [I 0, I 70]
theorem rS_d (T : TW t) {l m : List Int} : RB fun i => rS t l i - rS t m i := fun i _ => by
  have a_ : ∀ l, 0 ≤ rS t l i ∧ rS t l i ≤ 100 := fun l => by
    unfold rS; split
    · rename_i h; have := T.p i h.1; omega
    · omega
  have := a_ l; have := a_ m
  show -100 ≤ rS t l i - rS t m i ∧ rS t l i - rS t m i ≤ 100; omega
set_option maxHeartbeats 1000000 in
theorem s28 (H : TbOk t v) {l m : List Int} {w y : AV} (V : IsSl 1 intL l w) (hl : l.length ≤ 1000) (Y : IsSl 1 intL m y) (hm : m.length ≤ 1000) (st : Bool) : Iso E 28 [v, w, y] st = some (rnkR t l m) := by
  have g := fun st => s72b H V hl Y hm st
  refine Iso_of (es _ _ _ _) e28 ?_
  simp only [f28, rnkR]
  cases hv : tval t
  · simp only [hv, aC, Bool.false_eq_true, if_false] at g
    simp (disch := first | assumption | omega | (simp only [az]; done)) only [ru, eq_self, if_true, if_false, BEq.rfl, binI, AO.row?, splice, fillL, mmAll, loadV, storeV, zeros, Am.rowAt, Am.part, addOff, Nat.reduceAdd, Nat.reduceMul, Nat.reduceLeDiff, Nat.reduceSub, Nat.reduceLT, Int.reduceEq, Int.reduceLT, Int.reduceLE, Int.reduceGT, Int.reduceGE, Int.reduceAdd, Int.reduceSub, Int.reduceMul, Int.reduceNeg, Int.reduceToNat, reduceCtorEq, reduceIte, lenV_sl H.i, elem_pt H.i, view_sl H.i, scalar_sl H.i, cells_sl H.i, pure_sl H.i, Int.toNat_natCast, lenV_sl V, view_sl V, scalar_sl V, cells_sl V, pure_sl V, lenV_sl Y, view_sl Y, scalar_sl Y, cells_sl Y, pure_sl Y, exOp_litS, AV.pureV.go, Bool.and_true, g, decide_false, decide_true, Bool.not_false, Bool.false_eq_true]
  have T := tval_W hv
  cases hq : (cutB t l && cutB t m)
  · simp only [hv, hq, aC, Bool.false_eq_true, if_false, if_true] at g
    simp (disch := first | assumption | omega | (simp only [az]; done)) only [ru, eq_self, if_true, if_false, BEq.rfl, binI, AO.row?, splice, fillL, mmAll, loadV, storeV, zeros, Am.rowAt, Am.part, addOff, Nat.reduceAdd, Nat.reduceMul, Nat.reduceLeDiff, Nat.reduceSub, Nat.reduceLT, Int.reduceEq, Int.reduceLT, Int.reduceLE, Int.reduceGT, Int.reduceGE, Int.reduceAdd, Int.reduceSub, Int.reduceMul, Int.reduceNeg, Int.reduceToNat, reduceCtorEq, reduceIte, lenV_sl H.i, elem_pt H.i, view_sl H.i, scalar_sl H.i, cells_sl H.i, pure_sl H.i, Int.toNat_natCast, lenV_sl V, view_sl V, scalar_sl V, cells_sl V, pure_sl V, lenV_sl Y, view_sl Y, scalar_sl Y, cells_sl Y, pure_sl Y, exOp_litS, AV.pureV.go, Bool.and_true, g, decide_false, decide_true, Bool.not_false, Bool.false_eq_true]
  simp only [hv, hq, aC, if_true] at g
  have g2 := fun st => s73 H T.n V hl st
  have g4 := fun st => s73 H T.n Y hm st
  have g5 := fun st => s74 (rS_b T (l := l)) (rS_b T (l := m)) st
  have g3 := fun st => s66 H T (rS_d T (l := l) (m := m)) st
  obtain ⟨B, hB⟩ : ∃ B, B = rw_ 8 (rS t l) := ⟨_, rfl⟩
  obtain ⟨C, hC⟩ : ∃ C, C = rw_ 8 (rS t m) := ⟨_, rfl⟩
  obtain ⟨D, hD⟩ : ∃ D, D = rw_ 8 fun i => rS t l i - rS t m i := ⟨_, rfl⟩
  have g2' : ∀ st, Iso E 73 [v, w] st = some (.agg B) := fun st => by rw [hB]; exact g2 st
  have g4' : ∀ st, Iso E 73 [v, y] st = some (.agg C) := fun st => by rw [hC]; exact g4 st
  have g5' : ∀ st, Iso E 74 [.agg B, .agg C] st = some (.agg D) := fun st => by rw [hB, hC, hD]; exact g5 st
  have g3' : ∀ st, Iso E 66 [v, .agg D] st = some (btw t fun i => rS t l i - rS t m i) := fun st => by rw [hD]; exact g3 st
  have Bv : ∀ st h k, B.mapM (view st h k) = some B := fun st h k => by rw [hB]; exact rw_view
  have Cv : ∀ st h k, C.mapM (view st h k) = some C := fun st h k => by rw [hC]; exact rw_view
  have Dv : ∀ st h k, D.mapM (view st h k) = some D := fun st h k => by rw [hD]; exact rw_view
  have Bp : AV.pureV.go B = true := by rw [hB]; exact rw_pure
  have Cp : AV.pureV.go C = true := by rw [hC]; exact rw_pure
  have Dp : AV.pureV.go D = true := by rw [hD]; exact rw_pure
  simp only [btw] at g3'
  cases h1 : is1 t
  · simp only [h1, Bool.false_eq_true, if_false] at g3'
    simp (disch := first | assumption | omega | (simp only [az]; done)) only [ru, eq_self, if_true, if_false, BEq.rfl, binI, AO.row?, splice, fillL, mmAll, loadV, storeV, zeros, Am.rowAt, Am.part, addOff, Nat.reduceAdd, Nat.reduceMul, Nat.reduceLeDiff, Nat.reduceSub, Nat.reduceLT, Int.reduceEq, Int.reduceLT, Int.reduceLE, Int.reduceGT, Int.reduceGE, Int.reduceAdd, Int.reduceSub, Int.reduceMul, Int.reduceNeg, Int.reduceToNat, reduceCtorEq, reduceIte, lenV_sl H.i, elem_pt H.i, view_sl H.i, scalar_sl H.i, cells_sl H.i, pure_sl H.i, Int.toNat_natCast, lenV_sl V, view_sl V, scalar_sl V, cells_sl V, pure_sl V, lenV_sl Y, view_sl Y, scalar_sl Y, cells_sl Y, pure_sl Y, exOp_litS, AV.pureV.go, Bool.and_true, g, decide_false, decide_true, Bool.not_true, Bool.not_false, g2', g4', g5', view_agg, Bv, Cv, Dv, Bp, Cp, Dp, Option.map_some, g3', Bool.false_eq_true]
  · simp only [h1, if_true] at g3'
    simp only [rnk]
    obtain ⟨a, ha⟩ : ∃ a, a = loV t (fun i => rS t l i - rS t m i) := ⟨_, rfl⟩
    obtain ⟨b, hb⟩ : ∃ b, b = hiV t (fun i => rS t l i - rS t m i) := ⟨_, rfl⟩
    rw [← ha, ← hb] at g3' ⊢
    by_cases c1 : a > 0
    · simp (disch := first | assumption | omega | (simp only [az]; done)) only [ru, eq_self, if_true, if_false, BEq.rfl, binI, AO.row?, splice, fillL, mmAll, loadV, storeV, zeros, Am.rowAt, Am.part, addOff, Nat.reduceAdd, Nat.reduceMul, Nat.reduceLeDiff, Nat.reduceSub, Nat.reduceLT, Int.reduceEq, Int.reduceLT, Int.reduceLE, Int.reduceGT, Int.reduceGE, Int.reduceAdd, Int.reduceSub, Int.reduceMul, Int.reduceNeg, Int.reduceToNat, reduceCtorEq, reduceIte, lenV_sl H.i, elem_pt H.i, view_sl H.i, scalar_sl H.i, cells_sl H.i, pure_sl H.i, Int.toNat_natCast, lenV_sl V, view_sl V, scalar_sl V, cells_sl V, pure_sl V, lenV_sl Y, view_sl Y, scalar_sl Y, cells_sl Y, pure_sl Y, exOp_litS, AV.pureV.go, Bool.and_true, g, decide_false, decide_true, Bool.not_true, Bool.not_false, g2', g4', g5', view_agg, Bv, Cv, Dv, Bp, Cp, Dp, Option.map_some, g3', c1]
    · by_cases c2 : b ≤ 0
      · simp (disch := first | assumption | omega | (simp only [az]; done)) only [ru, eq_self, if_true, if_false, BEq.rfl, binI, AO.row?, splice, fillL, mmAll, loadV, storeV, zeros, Am.rowAt, Am.part, addOff, Nat.reduceAdd, Nat.reduceMul, Nat.reduceLeDiff, Nat.reduceSub, Nat.reduceLT, Int.reduceEq, Int.reduceLT, Int.reduceLE, Int.reduceGT, Int.reduceGE, Int.reduceAdd, Int.reduceSub, Int.reduceMul, Int.reduceNeg, Int.reduceToNat, reduceCtorEq, reduceIte, lenV_sl H.i, elem_pt H.i, view_sl H.i, scalar_sl H.i, cells_sl H.i, pure_sl H.i, Int.toNat_natCast, lenV_sl V, view_sl V, scalar_sl V, cells_sl V, pure_sl V, lenV_sl Y, view_sl Y, scalar_sl Y, cells_sl Y, pure_sl Y, exOp_litS, AV.pureV.go, Bool.and_true, g, decide_false, decide_true, Bool.not_true, Bool.not_false, g2', g4', g5', view_agg, Bv, Cv, Dv, Bp, Cp, Dp, Option.map_some, g3', c1, c2]
      · simp (disch := first | assumption | omega | (simp only [az]; done)) only [ru, eq_self, if_true, if_false, BEq.rfl, binI, AO.row?, splice, fillL, mmAll, loadV, storeV, zeros, Am.rowAt, Am.part, addOff, Nat.reduceAdd, Nat.reduceMul, Nat.reduceLeDiff, Nat.reduceSub, Nat.reduceLT, Int.reduceEq, Int.reduceLT, Int.reduceLE, Int.reduceGT, Int.reduceGE, Int.reduceAdd, Int.reduceSub, Int.reduceMul, Int.reduceNeg, Int.reduceToNat, reduceCtorEq, reduceIte, lenV_sl H.i, elem_pt H.i, view_sl H.i, scalar_sl H.i, cells_sl H.i, pure_sl H.i, Int.toNat_natCast, lenV_sl V, view_sl V, scalar_sl V, cells_sl V, pure_sl V, lenV_sl Y, view_sl Y, scalar_sl Y, cells_sl Y, pure_sl Y, exOp_litS, AV.pureV.go, Bool.and_true, g, decide_false, decide_true, Bool.not_true, Bool.not_false, g2', g4', g5', view_agg, Bv, Cv, Dv, Bp, Cp, Dp, Option.map_some, g3', c1, c2]
end
end Go.Proofs.Yteonklnjchefiaa.S

/-
Truths (program), and changes: the least change of a parting, the first such parting, and who is changed.
-/
namespace Go.Proofs.Yteonklnjchefiaa.S
open Go Go.Am Go.Proofs.Yteonklnjchefiaa.T
set_option maxRecDepth 100000
set_option linter.unusedSimpArgs false
set_option linter.unusedVariables false

/-! mathematics of changes -/
def cD (t : List Pt) : Nat → Int → Option Int := fun i w => if 0 ≤ w ∧ w ≤ 30 then some (awy (t.getD i default).w w) else none
def cP (t : List Pt) (l : List Int) : Nat → Int → Option Int := fun i w => if i < l.length ∧ l.getD i 0 ≠ w then none else cD t i w
def cK (t : List Pt) (p : Int) (sb : Bool) : Nat → Int → Option Int := fun i w => if (i : Int) = p ∧ sb ≠ decide (awy (t.getD i default).w w = 0) then none else cD t i w
theorem cF_D {t : List Pt} {u : Nat → Int} {P : Nat → Int → Prop} [∀ i w, Decidable (P i w)] : ∀ {k : Nat}, (∀ i, i < k → 0 ≤ u i ∧ u i ≤ 30) → (∀ v, cF (fun i w => if P i w then none else cD t i w) u k = some v ↔ (∀ i, i < k → ¬ P i (u i)) ∧ v = chg t u k)
  | 0, _, v => by
    simp only [cF, sP, chg, Option.some.injEq]
    exact ⟨fun h => ⟨fun i hi => by omega, h.symm⟩, fun h => h.2.symm⟩
  | k + 1, hu, v => by
    have ih := cF_D (P := P) (t := t) (u := u) (k := k) fun i hi => hu i (by omega)
    show pl (cF (fun i w => if P i w then none else cD t i w) u k) (if P k (u k) then none else cD t k (u k)) = some v ↔ _
    have hk : cD t k (u k) = some (awy (t.getD k default).w (u k)) := if_pos (hu k (by omega))
    rw [pl_some]
    constructor
    · rintro ⟨x, y, h1, h2, rfl⟩
      obtain ⟨h3, rfl⟩ := (ih x).1 h1
      split at h2
      · cases h2
      · rename_i hc
        rw [hk] at h2; cases h2
        refine ⟨fun i hi => ?_, rfl⟩
        by_cases e : i = k
        · subst e; exact hc
        · exact h3 i (by omega)
    · rintro ⟨h1, rfl⟩
      exact ⟨chg t u k, _, (ih _).2 ⟨fun i hi => h1 i (by omega), rfl⟩, by rw [if_neg (h1 k (by omega)), hk], rfl⟩
theorem LstQ {t : List Pt} (T : TG t) {P : Nat → Int → Prop} [∀ i w, Decidable (P i w)] : Lea (Lst t fun i w => if P i w then none else cD t i w) (fun v => ∃ u, PartF t u ∧ (∀ i, i < t.length → ¬ P i (u i)) ∧ v = chg t u t.length) := by
  refine (Lst_lea T).congr fun v => ?_
  constructor
  · rintro ⟨u, h1, h2⟩
    obtain ⟨h3, h4⟩ := (cF_D (fun i hi => (h1 i hi).1) v).1 h2
    exact ⟨u, h1, h3, h4⟩
  · rintro ⟨u, h1, h2, h3⟩
    exact ⟨u, h1, (cF_D (fun i hi => (h1 i hi).1) v).2 ⟨h2, h3⟩⟩
theorem LstD {t : List Pt} (T : TG t) : Lea (Lst t (cD t)) (fun v => ∃ u, PartF t u ∧ v = chg t u t.length) := by
  have h := LstQ T (P := fun _ _ => False)
  have e : (fun (i : Nat) (w : Int) => if False then none else cD t i w) = cD t := by funext i w; rw [if_neg (fun h => h)]
  simp only [e] at h
  exact h.congr fun v => ⟨fun ⟨u, h1, _, h3⟩ => ⟨u, h1, h3⟩, fun ⟨u, h1, h3⟩ => ⟨u, h1, fun _ _ h => h, h3⟩⟩
theorem LstP {t : List Pt} (T : TG t) {l : List Int} (hl : l.length ≤ t.length) : Lea (Lst t (cP t l)) (fun v => ∃ u, PartF t u ∧ (∀ i, i < l.length → u i = l.getD i 0) ∧ v = chg t u t.length) := by
  have h := LstQ T (P := fun i w => i < l.length ∧ l.getD i 0 ≠ w)
  refine Lea.congr (m := Lst t (cP t l)) h fun v => ?_
  constructor
  · rintro ⟨u, h1, h2, h3⟩
    exact ⟨u, h1, fun i hi => by have := h2 i (by omega); exact (Classical.byContradiction fun hc => this ⟨hi, fun e => hc e.symm⟩), h3⟩
  · rintro ⟨u, h1, h2, h3⟩
    exact ⟨u, h1, fun i hi hc => hc.2 (h2 i hc.1).symm, h3⟩
theorem LstK {t : List Pt} (T : TG t) {p : Nat} (hp : p < t.length) {sb : Bool} : Lea (Lst t (cK t p sb)) (fun v => ∃ u, PartF t u ∧ sb = decide (awy (t.getD p default).w (u p) = 0) ∧ v = chg t u t.length) := by
  have h := LstQ T (P := fun i w => (i : Int) = (p : Int) ∧ sb ≠ decide (awy (t.getD i default).w w = 0))
  refine Lea.congr (m := Lst t (cK t p sb)) h fun v => ?_
  constructor
  · rintro ⟨u, h1, h2, h3⟩
    exact ⟨u, h1, by have := h2 p hp; exact (Classical.byContradiction fun hc => this ⟨rfl, hc⟩), h3⟩
  · rintro ⟨u, h1, h2, h3⟩
    exact ⟨u, h1, fun i hi hc => by
      have : i = p := by omega
      subst this; exact hc.2 h2, h3⟩
theorem cD_bd {t : List Pt} (T : TW t) : ∀ i b x, cD t i b = some x → -3000 ≤ x ∧ x ≤ 3000 := by
  intro i b x h
  simp only [cD] at h
  split at h
  · rename_i hb
    cases h
    have hw : 0 ≤ (t.getD i default).w.lo ∧ (t.getD i default).w.lo ≤ 30 ∧ 0 ≤ (t.getD i default).w.hi := by
      by_cases hi : i < t.length
      · have := T.w i hi; omega
      · rw [show t.getD i default = default by simp [List.getD_eq_getElem?_getD, List.getElem?_eq_none (show t.length ≤ i by omega)]]
        exact ⟨by decide, by decide, by decide⟩
    have h0 := @awy_nn (t.getD i default).w b
    have : awy (t.getD i default).w b ≤ 30 := by unfold awy mx; split <;> split <;> omega
    omega
  · cases h
theorem cP_bd {t : List Pt} (T : TW t) {l : List Int} : ∀ i b x, cP t l i b = some x → -3000 ≤ x ∧ x ≤ 3000 := fun i b x h => by
  simp only [cP] at h; split at h
  · cases h
  · exact cD_bd T i b x h
theorem cK_bd {t : List Pt} (T : TW t) {p : Int} {sb : Bool} : ∀ i b x, cK t p sb i b = some x → -3000 ≤ x ∧ x ≤ 3000 := fun i b x h => by
  simp only [cK] at h; split at h
  · cases h
  · exact cD_bd T i b x h
/-- the first number up to 30 with which something is so -/
def fB (P : Nat → Bool) : Nat := ((List.range 31).find? P).getD 30
theorem fB_spec {P : Nat → Bool} (h : ∃ b, b < 31 ∧ P b = true) : fB P < 31 ∧ P (fB P) = true ∧ ∀ b, b < fB P → P b = false := by
  unfold fB
  cases hf : (List.range 31).find? P with
  | none =>
    rw [List.find?_eq_none] at hf
    obtain ⟨b, hb, hp⟩ := h
    exact absurd hp (hf b (List.mem_range.2 hb))
  | some x =>
    have h1 := List.mem_of_find?_eq_some hf
    have h2 := List.find?_some hf
    simp only [Option.getD_some]
    refine ⟨List.mem_range.1 h1, h2, fun b hb => ?_⟩
    rw [List.find?_range_eq_some] at hf
    have := hf.2.2 b hb
    simpa using this
/-- the least list of weights with the least change, made number by number -/
def fixU (t : List Pt) : Nat → List Int
  | 0 => []
  | k + 1 => fixU t k ++ [((fB fun b => decide (Lst t (cP t (fixU t k ++ [(b : Int)])) = Lst t (cD t)) : Nat) : Int)]
theorem fixU_len {t : List Pt} : ∀ {k : Nat}, (fixU t k).length = k
  | 0 => rfl
  | k + 1 => by simp [fixU, fixU_len (k := k)]
theorem fixU_lt {t : List Pt} : ∀ {k i : Nat}, i < k → (fixU t k).getD i 0 = ((fB fun b => decide (Lst t (cP t (fixU t i ++ [(b : Int)])) = Lst t (cD t)) : Nat) : Int)
  | 0, i, h => by omega
  | k + 1, i, h => by
    by_cases e : i = k
    · subst e
      rw [fixU, List.getD_eq_getElem?_getD, List.getElem?_append_right (by rw [fixU_len]; exact Nat.le_refl _), fixU_len, Nat.sub_self]; rfl
    · rw [fixU, List.getD_eq_getElem?_getD, List.getElem?_append_left (by rw [fixU_len]; omega), ← List.getD_eq_getElem?_getD, fixU_lt (by omega)]
/-- with the first numbers sb said there is a parting with the least change -/
theorem fixU_ok {t : List Pt} (T : TG t) {m : Int} (hm : Lst t (cD t) = some m) : ∀ {k : Nat}, k ≤ t.length → Lst t (cP t (fixU t k)) = some m
  | 0, _ => by
    have e : cP t (fixU t 0) = cD t := by funext i w; exact if_neg (fun h => Nat.not_lt_zero _ h.1)
    rw [e, hm]
  | k + 1, hk => by
    have ih := fixU_ok T hm (k := k) (by omega)
    obtain ⟨u, h1, h2, h3⟩ := (LstP T (by rw [fixU_len]; omega)).1 m ih
    have hu := (h1 k (by omega)).1
    have := fB_spec (P := fun b => decide (Lst t (cP t (fixU t k ++ [(b : Int)])) = Lst t (cD t))) ⟨(u k).toNat, by omega, by
      rw [decide_eq_true_eq, hm, show (((u k).toNat : Nat) : Int) = u k by omega]
      have L := LstP T (l := fixU t k ++ [u k]) (by simp [fixU_len]; omega)
      obtain ⟨y, hy, hle⟩ := L.2 m ⟨u, h1, fun i hi => by
        simp only [List.length_append, fixU_len, List.length_cons, List.length_nil] at hi
        by_cases e : i = k
        · subst e; rw [List.getD_eq_getElem?_getD, List.getElem?_append_right (by rw [fixU_len]; exact Nat.le_refl _), fixU_len, Nat.sub_self]; rfl
        · rw [List.getD_eq_getElem?_getD, List.getElem?_append_left (by rw [fixU_len]; omega), ← List.getD_eq_getElem?_getD]; exact h2 i (by rw [fixU_len]; omega), h3⟩
      obtain ⟨u2, k1, k2, k3⟩ := L.1 y hy
      obtain ⟨z, hz, hle2⟩ := (LstD T).2 y ⟨u2, k1, k3⟩
      rw [hm] at hz; cases hz
      rw [hy]; congr 1; omega⟩
    exact (of_decide_eq_true this.2.1).trans hm
theorem cP_ge {t : List Pt} (T : TG t) {m : Int} (hm : Lst t (cD t) = some m) {l : List Int} (hl : l.length ≤ t.length) {v : Int} (hv : Lst t (cP t l) = some v) : m ≤ v := by
  obtain ⟨u, h1, _, h3⟩ := (LstP T hl).1 v hv
  obtain ⟨z, hz, hle⟩ := (LstD T).2 v ⟨u, h1, h3⟩
  rw [hm] at hz; cases hz; exact hle
abbrev fixV (t : List Pt) : List Int := fixU t t.length
/-- who is changed -/
def chdV (t : List Pt) (p : Nat) : Int := if Lst t (cK t p true) ≠ Lst t (cD t) then 1 else if Lst t (cK t p false) ≠ Lst t (cD t) then 2 else 3
theorem cK_ge {t : List Pt} (T : TG t) {m : Int} (hm : Lst t (cD t) = some m) {p : Nat} (hp : p < t.length) {sb : Bool} : (∃ v, Lst t (cK t p sb) = some v ∧ m ≤ v) ∨ Lst t (cK t p sb) = none := by
  cases h : Lst t (cK t p sb) with
  | none => exact .inr rfl
  | some v =>
    obtain ⟨u, h1, _, h3⟩ := (LstK T hp).1 v h
    obtain ⟨z, hz, hle⟩ := (LstD T).2 v ⟨u, h1, h3⟩
    rw [hm] at hz; cases hz; exact .inl ⟨v, rfl, hle⟩

section
variable {t : List Pt} {v : AV}
theorem o118 (H : TbOk t v) (T : TW t) {i : Nat} (hi : i < t.length) (w : Int) (h3 : 0 ≤ w ∧ w ≤ 30) {h : List AO} : Ro E 118 [v, I i, I w] h = some (I (awy (t.getD i default).w w)) := by
  have := T.w i hi
  have hlt : (i : Int) < t.length := by omega
  obtain ⟨x, hx⟩ : ∃ x, x = t.getD i default := ⟨_, rfl⟩
  rw [← hx] at this ⊢
  have e : awy x.w w = mmx true (mmx true (x.w.lo - w) (w - x.w.hi)) 0 := rfl
  rw [e]
  refine Ro_of (es _ _ _ _) e118 ?_
  simp only [f118]
  simp (disch := first | assumption | omega | (simp only [az]; done)) only [ru, eq_self, if_true, if_false, BEq.rfl, binI, AO.row?, splice, fillL, mmAll, loadV, storeV, zeros, Am.rowAt, Am.part, addOff, Nat.reduceAdd, Nat.reduceMul, Nat.reduceLeDiff, Nat.reduceSub, Nat.reduceLT, Int.reduceEq, Int.reduceLT, Int.reduceLE, Int.reduceGT, Int.reduceGE, Int.reduceAdd, Int.reduceSub, Int.reduceMul, Int.reduceNeg, Int.reduceToNat, reduceCtorEq, reduceIte, lenV_sl H.i, elem_pt H.i, view_sl H.i, scalar_sl H.i, cells_sl H.i, pure_sl H.i, Int.toNat_natCast, hlt, ← hx, atE, setE, lenE, Nat.le_refl]
  rfl
theorem cost118 (H : TbOk t v) (T : TW t) {h : List AO} : Cost h (.fn 118 [v] []) t.length (cD t) := by
  refine ⟨118, [v], [], rfl, fun h' F i hi w hw => ?_⟩
  show Ro E 118 [v, I i, I w] h' = _
  rw [o118 H T hi (w : Int) (by omega)]
  simp only [cD]; rw [if_pos (by omega)]; rfl
theorem cost135 (H : TbOk t v) (T : TW t) {l : List Int} (hl : l.length ≤ 8) {lv : AV} {h : List AO} {a b : Nat} (ha : h[a]? = some (.cells [lv] false)) (hb : h[b]? = some (.cells [v] false)) (R : RdS h lv l) : Cost h (.fn 135 [] [.ptr a 0, .ptr b 0]) t.length (cP t l) := by
  refine ⟨135, [], [.ptr a 0, .ptr b 0], rfl, fun h' F i hi w hw => ?_⟩
  have t8 := T.n
  have ha' := F.at ha
  have hb' := F.at hb
  have R' := R.fr F
  have g := fun st => s118 H T hi (w : Int) (by omega) st
  show Ro E 135 [I i, I w, .ptr a 0, .ptr b 0] h' = _
  obtain ⟨z, hz⟩ : ∃ z, z = awy (t.getD i default).w w := ⟨_, rfl⟩
  have ec : cD t i w = some z := by simp only [cD]; rw [if_pos (by omega), hz]
  rw [← hz] at g
  have q1 := R'.len
  refine Ro_of (es _ _ _ _) e135 ?_
  simp only [f135]
  by_cases c : i < l.length
  · have c' : (i : Int) < l.length := by omega
    rcases R' with ⟨e, _⟩ | ⟨_, o, sh, rfl, hc⟩
    · rw [e] at c; simp at c
    have hd := flat_head c
    obtain ⟨x, hx⟩ : ∃ x, x = l.getD i 0 := ⟨_, rfl⟩
    rw [← hx] at hd
    by_cases c2 : x = w
    · have ev : En (cP t l i w) = z := by simp only [cP, ← hx]; rw [if_neg (fun h => h.2 c2), ec]; rfl
      rw [ev]
      simp (disch := first | assumption | omega | (simp only [az]; done)) only [ru, eq_self, if_true, if_false, BEq.rfl, binI, AO.row?, splice, fillL, mmAll, loadV, storeV, zeros, Am.rowAt, Am.part, addOff, Nat.reduceAdd, Nat.reduceMul, Nat.reduceLeDiff, Nat.reduceSub, Nat.reduceLT, Int.reduceEq, Int.reduceLT, Int.reduceLE, Int.reduceGT, Int.reduceGE, Int.reduceAdd, Int.reduceSub, Int.reduceMul, Int.reduceNeg, Int.reduceToNat, reduceCtorEq, reduceIte, lenV_sl H.i, elem_pt H.i, view_sl H.i, scalar_sl H.i, cells_sl H.i, pure_sl H.i, Int.toNat_natCast, ha', hb', q1.1, q1.2, c', elemAt_ms, nn, hc, hd, c2, g, gUn, Int.toNat_natCast, Nat.mul_one, Nat.zero_add, decide_true, Bool.not_true]
      rfl
    · have ev : En (cP t l i w) = 9223372036854775807 := by simp only [cP, ← hx]; rw [if_pos ⟨c, c2⟩]; rfl
      rw [ev]
      simp (disch := first | assumption | omega | (simp only [az]; done)) only [ru, eq_self, if_true, if_false, BEq.rfl, binI, AO.row?, splice, fillL, mmAll, loadV, storeV, zeros, Am.rowAt, Am.part, addOff, Nat.reduceAdd, Nat.reduceMul, Nat.reduceLeDiff, Nat.reduceSub, Nat.reduceLT, Int.reduceEq, Int.reduceLT, Int.reduceLE, Int.reduceGT, Int.reduceGE, Int.reduceAdd, Int.reduceSub, Int.reduceMul, Int.reduceNeg, Int.reduceToNat, reduceCtorEq, reduceIte, lenV_sl H.i, elem_pt H.i, view_sl H.i, scalar_sl H.i, cells_sl H.i, pure_sl H.i, Int.toNat_natCast, ha', hb', q1.1, q1.2, c', elemAt_ms, nn, hc, hd, c2, gUn, Int.toNat_natCast, Nat.mul_one, Nat.zero_add, decide_true, decide_false, Bool.not_false]
      rfl
  · have c' : ¬ (i : Int) < l.length := by omega
    have ev : En (cP t l i w) = z := by simp only [cP]; rw [if_neg (fun h => c h.1), ec]; rfl
    rw [ev]
    simp (disch := first | assumption | omega | (simp only [az]; done)) only [ru, eq_self, if_true, if_false, BEq.rfl, binI, AO.row?, splice, fillL, mmAll, loadV, storeV, zeros, Am.rowAt, Am.part, addOff, Nat.reduceAdd, Nat.reduceMul, Nat.reduceLeDiff, Nat.reduceSub, Nat.reduceLT, Int.reduceEq, Int.reduceLT, Int.reduceLE, Int.reduceGT, Int.reduceGE, Int.reduceAdd, Int.reduceSub, Int.reduceMul, Int.reduceNeg, Int.reduceToNat, reduceCtorEq, reduceIte, lenV_sl H.i, elem_pt H.i, view_sl H.i, scalar_sl H.i, cells_sl H.i, pure_sl H.i, Int.toNat_natCast, ha', hb', q1.1, q1.2, c', g, gUn, decide_false]
    rfl
theorem cost136 (H : TbOk t v) (T : TW t) {p : Nat} (hp : p < t.length) {sb : Bool} {h : List AO} {a b d : Nat} (ha : h[a]? = some (.cells [v] false)) (hb : h[b]? = some (.cells [I p] false)) (hd : h[d]? = some (.cells [Bo sb] false)) : Cost h (.fn 136 [] [.ptr a 0, .ptr b 0, .ptr d 0]) t.length (cK t p sb) := by
  refine ⟨136, [], [.ptr a 0, .ptr b 0, .ptr d 0], rfl, fun h' F i hi w hw => ?_⟩
  have t8 := T.n
  have ha' := F.at ha
  have hb' := F.at hb
  have hd' := F.at hd
  have g := fun st => s118 H T hi (w : Int) (by omega) st
  show Ro E 136 [I i, I w, .ptr a 0, .ptr b 0, .ptr d 0] h' = _
  obtain ⟨z, hz⟩ : ∃ z, z = awy (t.getD i default).w w := ⟨_, rfl⟩
  have ec : cD t i w = some z := by simp only [cD]; rw [if_pos (by omega), hz]
  rw [← hz] at g
  have ek : En (cK t p sb i w) = if i = p ∧ sb ≠ decide (z = 0) then 9223372036854775807 else z := by
    simp only [cK, ← hz, ec]
    by_cases e : i = p
    · subst e
      by_cases e2 : sb = decide (z = 0)
      · rw [if_neg (fun h => h.2 e2), if_neg (fun h => h.2 e2)]; rfl
      · rw [if_pos ⟨rfl, e2⟩, if_pos ⟨rfl, e2⟩]; rfl
    · rw [if_neg (fun h => e (by have := h.1; omega)), if_neg (fun h => e h.1)]; rfl
  rw [ek]
  refine Ro_of (es _ _ _ _) e136 ?_
  simp only [f136]
  have b1 : (false == true) = false := rfl
  have b2 : (true == true) = true := rfl
  have b3 : (true == false) = false := rfl
  have b4 : (false == false) = true := rfl
  by_cases e : i = p
  · subst e
    cases sb <;> by_cases c : z = 0
    · simp (disch := first | assumption | omega | (simp only [az]; done)) only [ru, eq_self, if_true, if_false, BEq.rfl, binI, AO.row?, splice, fillL, mmAll, loadV, storeV, zeros, Am.rowAt, Am.part, addOff, Nat.reduceAdd, Nat.reduceMul, Nat.reduceLeDiff, Nat.reduceSub, Nat.reduceLT, Int.reduceEq, Int.reduceLT, Int.reduceLE, Int.reduceGT, Int.reduceGE, Int.reduceAdd, Int.reduceSub, Int.reduceMul, Int.reduceNeg, Int.reduceToNat, reduceCtorEq, reduceIte, lenV_sl H.i, elem_pt H.i, view_sl H.i, scalar_sl H.i, cells_sl H.i, pure_sl H.i, Int.toNat_natCast, ha', hb', hd', g, c, gUn, decide_true, Bool.not_true, Bool.not_false, b1, b2, b3, b4, ne_eq, not_true_eq_false, not_false_eq_true, true_and, and_true]
      rfl
    · simp (disch := first | assumption | omega | (simp only [az]; done)) only [ru, eq_self, if_true, if_false, BEq.rfl, binI, AO.row?, splice, fillL, mmAll, loadV, storeV, zeros, Am.rowAt, Am.part, addOff, Nat.reduceAdd, Nat.reduceMul, Nat.reduceLeDiff, Nat.reduceSub, Nat.reduceLT, Int.reduceEq, Int.reduceLT, Int.reduceLE, Int.reduceGT, Int.reduceGE, Int.reduceAdd, Int.reduceSub, Int.reduceMul, Int.reduceNeg, Int.reduceToNat, reduceCtorEq, reduceIte, lenV_sl H.i, elem_pt H.i, view_sl H.i, scalar_sl H.i, cells_sl H.i, pure_sl H.i, Int.toNat_natCast, ha', hb', hd', g, c, gUn, decide_true, decide_false, Bool.not_true, Bool.not_false, b1, b2, b3, b4, ne_eq, not_true_eq_false, not_false_eq_true, true_and, and_false]
      rfl
    · simp (disch := first | assumption | omega | (simp only [az]; done)) only [ru, eq_self, if_true, if_false, BEq.rfl, binI, AO.row?, splice, fillL, mmAll, loadV, storeV, zeros, Am.rowAt, Am.part, addOff, Nat.reduceAdd, Nat.reduceMul, Nat.reduceLeDiff, Nat.reduceSub, Nat.reduceLT, Int.reduceEq, Int.reduceLT, Int.reduceLE, Int.reduceGT, Int.reduceGE, Int.reduceAdd, Int.reduceSub, Int.reduceMul, Int.reduceNeg, Int.reduceToNat, reduceCtorEq, reduceIte, lenV_sl H.i, elem_pt H.i, view_sl H.i, scalar_sl H.i, cells_sl H.i, pure_sl H.i, Int.toNat_natCast, ha', hb', hd', g, c, gUn, decide_true, Bool.not_true, Bool.not_false, b1, b2, b3, b4, ne_eq, not_true_eq_false, not_false_eq_true, true_and, and_false]
      rfl
    · simp (disch := first | assumption | omega | (simp only [az]; done)) only [ru, eq_self, if_true, if_false, BEq.rfl, binI, AO.row?, splice, fillL, mmAll, loadV, storeV, zeros, Am.rowAt, Am.part, addOff, Nat.reduceAdd, Nat.reduceMul, Nat.reduceLeDiff, Nat.reduceSub, Nat.reduceLT, Int.reduceEq, Int.reduceLT, Int.reduceLE, Int.reduceGT, Int.reduceGE, Int.reduceAdd, Int.reduceSub, Int.reduceMul, Int.reduceNeg, Int.reduceToNat, reduceCtorEq, reduceIte, lenV_sl H.i, elem_pt H.i, view_sl H.i, scalar_sl H.i, cells_sl H.i, pure_sl H.i, Int.toNat_natCast, ha', hb', hd', g, c, gUn, decide_true, decide_false, Bool.not_true, Bool.not_false, b1, b2, b3, b4, ne_eq, not_true_eq_false, not_false_eq_true, true_and, and_true]
      rfl
  · have e' : ¬ (i : Int) = p := by omega
    simp (disch := first | assumption | omega | (simp only [az]; done)) only [ru, eq_self, if_true, if_false, BEq.rfl, binI, AO.row?, splice, fillL, mmAll, loadV, storeV, zeros, Am.rowAt, Am.part, addOff, Nat.reduceAdd, Nat.reduceMul, Nat.reduceLeDiff, Nat.reduceSub, Nat.reduceLT, Int.reduceEq, Int.reduceLT, Int.reduceLE, Int.reduceGT, Int.reduceGE, Int.reduceAdd, Int.reduceSub, Int.reduceMul, Int.reduceNeg, Int.reduceToNat, reduceCtorEq, reduceIte, lenV_sl H.i, elem_pt H.i, view_sl H.i, scalar_sl H.i, cells_sl H.i, pure_sl H.i, Int.toNat_natCast, ha', hb', hd', g, e, e', gUn, decide_false, false_and]
    rfl
theorem s83 (H : TbOk t v) (T : TW t) (st : Bool) : Iso E 83 [v] st = some (I (En (Lst t (cD t)))) := by
  have g := s102 H T.toTG (cost118 H T (h := [])) ⟨rfl, rfl⟩ (cD_bd T)
  refine Iso_of (es _ _ _ _) e83 ?_
  simp only [f83]
  simp (disch := first | assumption | omega | (simp only [az]; done)) only [ru, eq_self, if_true, if_false, BEq.rfl, binI, AO.row?, splice, fillL, mmAll, loadV, storeV, zeros, Am.rowAt, Am.part, addOff, Nat.reduceAdd, Nat.reduceMul, Nat.reduceLeDiff, Nat.reduceSub, Nat.reduceLT, Int.reduceEq, Int.reduceLT, Int.reduceLE, Int.reduceGT, Int.reduceGE, Int.reduceAdd, Int.reduceSub, Int.reduceMul, Int.reduceNeg, Int.reduceToNat, reduceCtorEq, reduceIte, lenV_sl H.i, elem_pt H.i, view_sl H.i, scalar_sl H.i, cells_sl H.i, pure_sl H.i, Int.toNat_natCast, exOp_call3, g]
def chaR (t : List Pt) : AV := if tval t then (match Lst t (cD t) with | some x => .tup [I x, I 0] | none => .tup [I 0, I 3]) else .tup [I 0, I 70]
theorem chg_small (T : TW t) {x : Int} (h : Lst t (cD t) = some x) : 0 ≤ x ∧ x ≤ 240 := by
  obtain ⟨u, h1, rfl⟩ := (LstD T.toTG).1 x h
  have := chg_le T (u := u) (fun i hi => (h1 i hi).1) (Nat.le_refl _)
  have := T.n
  exact ⟨chg_nn, by omega⟩
theorem s43 (H : TbOk t v) (st : Bool) : Iso E 43 [v] st = some (chaR t) := by
  refine Iso_of (es _ _ _ _) e43 ?_
  simp only [f43, chaR]
  cases hv : tval t
  · simp (disch := first | assumption | omega | (simp only [az]; done)) only [ru, eq_self, if_true, if_false, BEq.rfl, binI, AO.row?, splice, fillL, mmAll, loadV, storeV, zeros, Am.rowAt, Am.part, addOff, Nat.reduceAdd, Nat.reduceMul, Nat.reduceLeDiff, Nat.reduceSub, Nat.reduceLT, Int.reduceEq, Int.reduceLT, Int.reduceLE, Int.reduceGT, Int.reduceGE, Int.reduceAdd, Int.reduceSub, Int.reduceMul, Int.reduceNeg, Int.reduceToNat, reduceCtorEq, reduceIte, lenV_sl H.i, elem_pt H.i, view_sl H.i, scalar_sl H.i, cells_sl H.i, pure_sl H.i, Int.toNat_natCast, s52 H, hv, decide_false, decide_true, Bool.not_false, Bool.false_eq_true]
  have T := tval_W hv
  have g := fun st => s83 H T st
  cases hx : Lst t (cD t) with
  | none =>
    have g' : ∀ st, Iso E 83 [v] st = some (I 9223372036854775807) := fun st => by rw [g, hx]; rfl
    simp (disch := first | assumption | omega | (simp only [az]; done)) only [ru, eq_self, if_true, if_false, BEq.rfl, binI, AO.row?, splice, fillL, mmAll, loadV, storeV, zeros, Am.rowAt, Am.part, addOff, Nat.reduceAdd, Nat.reduceMul, Nat.reduceLeDiff, Nat.reduceSub, Nat.reduceLT, Int.reduceEq, Int.reduceLT, Int.reduceLE, Int.reduceGT, Int.reduceGE, Int.reduceAdd, Int.reduceSub, Int.reduceMul, Int.reduceNeg, Int.reduceToNat, reduceCtorEq, reduceIte, lenV_sl H.i, elem_pt H.i, view_sl H.i, scalar_sl H.i, cells_sl H.i, pure_sl H.i, Int.toNat_natCast, s52 H, hv, g', decide_false, decide_true, Bool.not_true]
  | some x =>
    have g' : ∀ st, Iso E 83 [v] st = some (I x) := fun st => by rw [g, hx]; rfl
    have := chg_small T hx
    have xn : ¬ x = 9223372036854775807 := by omega
    simp (disch := first | assumption | omega | (simp only [az]; done)) only [ru, eq_self, if_true, if_false, BEq.rfl, binI, AO.row?, splice, fillL, mmAll, loadV, storeV, zeros, Am.rowAt, Am.part, addOff, Nat.reduceAdd, Nat.reduceMul, Nat.reduceLeDiff, Nat.reduceSub, Nat.reduceLT, Int.reduceEq, Int.reduceLT, Int.reduceLE, Int.reduceGT, Int.reduceGE, Int.reduceAdd, Int.reduceSub, Int.reduceMul, Int.reduceNeg, Int.reduceToNat, reduceCtorEq, reduceIte, lenV_sl H.i, elem_pt H.i, view_sl H.i, scalar_sl H.i, cells_sl H.i, pure_sl H.i, Int.toNat_natCast, s52 H, hv, g', xn, decide_false, decide_true, Bool.not_true]
theorem r119 {p : Nat} {sb : Bool} (hv : v.cells = [v]) {h : List AO} {lim : Nat} : ∃ r h', R E (.fn 119) [v, I p, Bo sb] h lim = some (r, h') ∧ r = .fn 136 [] [.ptr h.length 0, .ptr (h.length + 1) 0, .ptr (h.length + 2) 0] ∧ h' = h ++ [.cells [v] false, .cells [I p] false, .cells [Bo sb] false] := by
  refine R_of (fun r h' => r = .fn 136 [] [.ptr h.length 0, .ptr (h.length + 1) 0, .ptr (h.length + 2) 0] ∧ h' = h ++ [.cells [v] false, .cells [I p] false, .cells [Bo sb] false]) (es _ _ _ _) e119 ?_
  simp only [f119]
  simp (disch := first | assumption | omega | (simp only [az]; done)) only [ru, eq_self, if_true, if_false, BEq.rfl, binI, AO.row?, splice, fillL, mmAll, loadV, storeV, zeros, Am.rowAt, Am.part, addOff, Nat.reduceAdd, Nat.reduceMul, Nat.reduceLeDiff, Nat.reduceSub, Nat.reduceLT, Int.reduceEq, Int.reduceLT, Int.reduceLE, Int.reduceGT, Int.reduceGE, Int.reduceAdd, Int.reduceSub, Int.reduceMul, Int.reduceNeg, Int.reduceToNat, reduceCtorEq, reduceIte, hv, List.append_assoc, lenE]
theorem s84 (H : TbOk t v) (T : TW t) {m : Int} (hm : Lst t (cD t) = some m) {p : Nat} (hp : p < t.length) (st : Bool) : Iso E 84 [v, I p] st = some (I (chdV t p)) := by
  have g := fun st => s83 H T st
  have g' : ∀ st, Iso E 83 [v] st = some (I m) := fun st => by rw [g, hm]; rfl
  have ms := chg_small T hm
  have sgn : ∀ (h : List AO) (sb : Bool), ∃ h', R E (.fn 119) [v, I p, Bo sb] h 0 = some (.fn 136 [] [.ptr h.length 0, .ptr (h.length + 1) 0, .ptr (h.length + 2) 0], h ++ h') ∧ h'.length = 3 ∧ Ro E 102 [v, .fn 136 [] [.ptr h.length 0, .ptr (h.length + 1) 0, .ptr (h.length + 2) 0]] (h ++ h') = some (I (En (Lst t (cK t p sb)))) := by
    intro h sb
    obtain ⟨x, h', h1, rfl, rfl⟩ := r119 (v := v) (p := p) (sb := sb) (cells_sl H.i) (h := h) (lim := 0)
    exact ⟨_, h1, rfl, s102 H T.toTG (cost136 H T hp (by rw [atT0]; rfl) (by rw [atT]; rfl) (by rw [atT]; rfl)) ⟨rfl, rfl⟩ (cK_bd T)⟩
  obtain ⟨h1, a1, a2, a3⟩ := sgn [] true
  obtain ⟨h2, b1, b2, b3⟩ := sgn h1 false
  rw [a2] at b1 b3
  simp only [apN, List.nil_append, len0, Nat.zero_add, Nat.reduceAdd] at a1 a3 b1 b3
  have gt_iff : ∀ sb, (En (Lst t (cK t p sb)) > m) ↔ Lst t (cK t p sb) ≠ some m := fun sb => by
    rcases cK_ge T.toTG hm hp (sb := sb) with ⟨x, hx, hl⟩ | hx
    · rw [hx]; simp only [En, ne_eq, Option.some.injEq]; omega
    · rw [hx]; simp only [En]; constructor
      · intro _ h; cases h
      · intro _; omega
  have d0 : ¬ En (some m) > m := by show ¬ m > m; omega
  refine Iso_of (es _ _ _ _) e84 ?_
  simp only [f84, chdV, hm]
  by_cases c1 : Lst t (cK t p true) = some m
  · have d1 : ¬ En (Lst t (cK t p true)) > m := fun h => (gt_iff true).1 h c1
    by_cases c2 : Lst t (cK t p false) = some m
    · have d2 : ¬ En (Lst t (cK t p false)) > m := fun h => (gt_iff false).1 h c2
      simp (disch := first | assumption | omega | (simp only [az]; done)) only [ru, eq_self, if_true, if_false, BEq.rfl, binI, AO.row?, splice, fillL, mmAll, loadV, storeV, zeros, Am.rowAt, Am.part, addOff, Nat.reduceAdd, Nat.reduceMul, Nat.reduceLeDiff, Nat.reduceSub, Nat.reduceLT, Int.reduceEq, Int.reduceLT, Int.reduceLE, Int.reduceGT, Int.reduceGE, Int.reduceAdd, Int.reduceSub, Int.reduceMul, Int.reduceNeg, Int.reduceToNat, reduceCtorEq, reduceIte, lenV_sl H.i, elem_pt H.i, view_sl H.i, scalar_sl H.i, cells_sl H.i, pure_sl H.i, Int.toNat_natCast, g', exOp_call0, a1, exOp_call3, a3, d0, d1, b1, b3, d2, c1, c2, decide_false, ne_eq, not_true_eq_false]
    · have d2 : En (Lst t (cK t p false)) > m := (gt_iff false).2 c2
      simp (disch := first | assumption | omega | (simp only [az]; done)) only [ru, eq_self, if_true, if_false, BEq.rfl, binI, AO.row?, splice, fillL, mmAll, loadV, storeV, zeros, Am.rowAt, Am.part, addOff, Nat.reduceAdd, Nat.reduceMul, Nat.reduceLeDiff, Nat.reduceSub, Nat.reduceLT, Int.reduceEq, Int.reduceLT, Int.reduceLE, Int.reduceGT, Int.reduceGE, Int.reduceAdd, Int.reduceSub, Int.reduceMul, Int.reduceNeg, Int.reduceToNat, reduceCtorEq, reduceIte, lenV_sl H.i, elem_pt H.i, view_sl H.i, scalar_sl H.i, cells_sl H.i, pure_sl H.i, Int.toNat_natCast, g', exOp_call0, a1, exOp_call3, a3, d0, d1, b1, b3, d2, c1, c2, decide_false, decide_true, ne_eq, not_true_eq_false, not_false_eq_true]
  · have d1 : En (Lst t (cK t p true)) > m := (gt_iff true).2 c1
    simp (disch := first | assumption | omega | (simp only [az]; done)) only [ru, eq_self, if_true, if_false, BEq.rfl, binI, AO.row?, splice, fillL, mmAll, loadV, storeV, zeros, Am.rowAt, Am.part, addOff, Nat.reduceAdd, Nat.reduceMul, Nat.reduceLeDiff, Nat.reduceSub, Nat.reduceLT, Int.reduceEq, Int.reduceLT, Int.reduceLE, Int.reduceGT, Int.reduceGE, Int.reduceAdd, Int.reduceSub, Int.reduceMul, Int.reduceNeg, Int.reduceToNat, reduceCtorEq, reduceIte, lenV_sl H.i, elem_pt H.i, view_sl H.i, scalar_sl H.i, cells_sl H.i, pure_sl H.i, Int.toNat_natCast, g', exOp_call0, a1, exOp_call3, a3, d1, c1, decide_true, ne_eq, not_false_eq_true]
def chdR (t : List Pt) (i : Int) : AV := if tval t then (if inR i 0 (t.length - 1) then (match Lst t (cD t) with | some _ => .tup [I (chdV t i.toNat), I 0] | none => .tup [I 0, I 3]) else .tup [I 0, I 1]) else .tup [I 0, I 70]
theorem s45 (H : TbOk t v) (i : Int) (st : Bool) : Iso E 45 [v, I i] st = some (chdR t i) := by
  have g := fun st => s69 H i st
  have g2 := fun st => s43 H st
  refine Iso_of (es _ _ _ _) e45 ?_
  simp only [f45, chdR]
  cases hv : tval t
  · simp only [hv, aC, Bool.false_eq_true, if_false] at g
    simp (disch := first | assumption | omega | (simp only [az]; done)) only [ru, eq_self, if_true, if_false, BEq.rfl, binI, AO.row?, splice, fillL, mmAll, loadV, storeV, zeros, Am.rowAt, Am.part, addOff, Nat.reduceAdd, Nat.reduceMul, Nat.reduceLeDiff, Nat.reduceSub, Nat.reduceLT, Int.reduceEq, Int.reduceLT, Int.reduceLE, Int.reduceGT, Int.reduceGE, Int.reduceAdd, Int.reduceSub, Int.reduceMul, Int.reduceNeg, Int.reduceToNat, reduceCtorEq, reduceIte, lenV_sl H.i, elem_pt H.i, view_sl H.i, scalar_sl H.i, cells_sl H.i, pure_sl H.i, Int.toNat_natCast, g, decide_false, decide_true, Bool.not_false, Bool.false_eq_true]
  have T := tval_W hv
  cases hq : inR i 0 (t.length - 1)
  · simp only [hv, hq, aC, Bool.false_eq_true, if_false, if_true] at g
    simp (disch := first | assumption | omega | (simp only [az]; done)) only [ru, eq_self, if_true, if_false, BEq.rfl, binI, AO.row?, splice, fillL, mmAll, loadV, storeV, zeros, Am.rowAt, Am.part, addOff, Nat.reduceAdd, Nat.reduceMul, Nat.reduceLeDiff, Nat.reduceSub, Nat.reduceLT, Int.reduceEq, Int.reduceLT, Int.reduceLE, Int.reduceGT, Int.reduceGE, Int.reduceAdd, Int.reduceSub, Int.reduceMul, Int.reduceNeg, Int.reduceToNat, reduceCtorEq, reduceIte, lenV_sl H.i, elem_pt H.i, view_sl H.i, scalar_sl H.i, cells_sl H.i, pure_sl H.i, Int.toNat_natCast, g, decide_false, decide_true, Bool.not_false, Bool.false_eq_true]
  simp only [hv, hq, aC, if_true] at g
  obtain ⟨i0, i1⟩ := inR_iff.1 hq
  obtain ⟨n, rfl⟩ : ∃ n : Nat, i = n := ⟨i.toNat, by omega⟩
  simp only [chaR, hv, if_true] at g2
  cases hx : Lst t (cD t) with
  | none =>
    simp only [hx] at g2
    simp (disch := first | assumption | omega | (simp only [az]; done)) only [ru, eq_self, if_true, if_false, BEq.rfl, binI, AO.row?, splice, fillL, mmAll, loadV, storeV, zeros, Am.rowAt, Am.part, addOff, Nat.reduceAdd, Nat.reduceMul, Nat.reduceLeDiff, Nat.reduceSub, Nat.reduceLT, Int.reduceEq, Int.reduceLT, Int.reduceLE, Int.reduceGT, Int.reduceGE, Int.reduceAdd, Int.reduceSub, Int.reduceMul, Int.reduceNeg, Int.reduceToNat, reduceCtorEq, reduceIte, lenV_sl H.i, elem_pt H.i, view_sl H.i, scalar_sl H.i, cells_sl H.i, pure_sl H.i, Int.toNat_natCast, g, g2, decide_false, decide_true, Bool.not_true, Bool.not_false]
  | some x =>
    simp only [hx] at g2
    have g3 := fun st => s84 H T hx (p := n) (by omega) st
    simp (disch := first | assumption | omega | (simp only [az]; done)) only [ru, eq_self, if_true, if_false, BEq.rfl, binI, AO.row?, splice, fillL, mmAll, loadV, storeV, zeros, Am.rowAt, Am.part, addOff, Nat.reduceAdd, Nat.reduceMul, Nat.reduceLeDiff, Nat.reduceSub, Nat.reduceLT, Int.reduceEq, Int.reduceLT, Int.reduceLE, Int.reduceGT, Int.reduceGE, Int.reduceAdd, Int.reduceSub, Int.reduceMul, Int.reduceNeg, Int.reduceToNat, reduceCtorEq, reduceIte, lenV_sl H.i, elem_pt H.i, view_sl H.i, scalar_sl H.i, cells_sl H.i, pure_sl H.i, Int.toNat_natCast, g, g2, g3, decide_false, decide_true, Bool.not_true, Int.toNat_natCast]
end
end Go.Proofs.Yteonklnjchefiaa.S

/-
The program's Fix and Holds.
-/
namespace Go.Proofs.Yteonklnjchefiaa.S
open Go Go.Am Go.Proofs.Yteonklnjchefiaa.T
set_option maxRecDepth 100000
set_option linter.unusedSimpArgs false
set_option linter.unusedVariables false

section
variable {t : List Pt} {v : AV}
theorem r117 {lv : AV} (hv : v.cells = [v]) (hl : lv.cells = [lv]) {h : List AO} {lim : Nat} : ∃ r h', R E (.fn 117) [v, lv] h lim = some (r, h') ∧ r = .fn 135 [] [.ptr (h.length + 1) 0, .ptr h.length 0] ∧ h' = h ++ [.cells [v] false, .cells [lv] false] := by
  refine R_of (fun r h' => r = .fn 135 [] [.ptr (h.length + 1) 0, .ptr h.length 0] ∧ h' = h ++ [.cells [v] false, .cells [lv] false]) (es _ _ _ _) e117 ?_
  simp only [f117]
  simp (disch := first | assumption | omega | (simp only [az]; done)) only [ru, eq_self, if_true, if_false, BEq.rfl, binI, AO.row?, splice, fillL, mmAll, loadV, storeV, zeros, Am.rowAt, Am.part, addOff, Nat.reduceAdd, Nat.reduceMul, Nat.reduceLeDiff, Nat.reduceSub, Nat.reduceLT, Int.reduceEq, Int.reduceLT, Int.reduceLE, Int.reduceGT, Int.reduceGE, Int.reduceAdd, Int.reduceSub, Int.reduceMul, Int.reduceNeg, Int.reduceToNat, reduceCtorEq, reduceIte, hv, hl, List.append_assoc, lenE]
set_option maxHeartbeats 2000000 in
theorem s81 (H : TbOk t v) (T : TW t) {m : Int} (hm : Lst t (cD t) = some m) (st : Bool) : Iso E 81 [v] st = some (resL (fixV t)) := by
  have g := fun st => s83 H T st
  have g' : ∀ st, Iso E 83 [v] st = some (I m) := fun st => by rw [g, hm]; rfl
  have ms := chg_small T hm
  have t8 := T.n
  refine Iso_of (es _ _ _ _) e81 ?_
  simp only [f81]
  simp (disch := first | assumption | omega | (simp only [az]; done)) only [ru, eq_self, if_true, if_false, BEq.rfl, binI, AO.row?, splice, fillL, mmAll, loadV, storeV, zeros, Am.rowAt, Am.part, addOff, Nat.reduceAdd, Nat.reduceMul, Nat.reduceLeDiff, Nat.reduceSub, Nat.reduceLT, Int.reduceEq, Int.reduceLT, Int.reduceLE, Int.reduceGT, Int.reduceGE, Int.reduceAdd, Int.reduceSub, Int.reduceMul, Int.reduceNeg, Int.reduceToNat, reduceCtorEq, reduceIte, lenV_sl H.i, elem_pt H.i, view_sl H.i, scalar_sl H.i, cells_sl H.i, pure_sl H.i, Int.toNat_natCast, g']
  refine G_loop_ind (fun q ts hh mk => ∃ (k : Nat) (lv : AV), k ≤ t.length ∧ q = t.length - k ∧ OutE intL 1 0 hh lv (fixU t k) ∧ ts.length = 31 ∧ ts.getD 0 .undef = v ∧ ts.getD 3 .undef = I m ∧ ts.getD 4 .undef = lv ∧ ts.getD 9 .undef = I t.length ∧ ts.getD 10 .undef = I k ∧ mk = []) ?_ _ _ _ _
    ⟨0, .nils, Nat.zero_le _, rfl, .inl ⟨rfl, rfl⟩, rfl, rfl, rfl, rfl, rfl, rfl, rfl⟩
  rintro q ts hh mk ih ⟨k, lv, hk, rfl, ho, hl', q0, q3, q4, q9, q10, rfl⟩
  rw [lit_all hl']
  simp only [lit0, litS, Nat.reduceAdd, q0, q3, q4, q9, q10]
  by_cases hlt : (k : Int) < t.length
  case neg =>
    obtain rfl : k = t.length := by omega
    have vw := ho.viewL (st := st) (k := 7)
    simp (disch := first | assumption | omega | (simp only [az]; done)) only [ru, eq_self, if_true, if_false, BEq.rfl, binI, AO.row?, splice, fillL, mmAll, loadV, storeV, zeros, Am.rowAt, Am.part, addOff, Nat.reduceAdd, Nat.reduceMul, Nat.reduceLeDiff, Nat.reduceSub, Nat.reduceLT, Int.reduceEq, Int.reduceLT, Int.reduceLE, Int.reduceGT, Int.reduceGE, Int.reduceAdd, Int.reduceSub, Int.reduceMul, Int.reduceNeg, Int.reduceToNat, reduceCtorEq, reduceIte, hlt, decide_false, vw]
  have hk2 : k < t.length := by omega
  obtain ⟨v', h', ha, ho', _, _⟩ := outE_ap (eb := 8) (lim := 0) intE intSc (by omega) (by omega) (by omega) ho (Nat.zero_le _) (Nat.zero_le _) (by rw [fixU_len]; omega) 0
  obtain ⟨F, hF⟩ : ∃ F, F = fixU t k := ⟨_, rfl⟩
  have Fl : F.length = k := by rw [hF, fixU_len]
  rw [← hF] at ho'
  obtain ⟨o, rfl, hc⟩ : ∃ o, v' = .ms 1 o 0 (k + 1) ∧ h'[o]? = some (.cells ((F ++ [0]).flatMap intL) false) := by
    rcases ho' with ⟨e, _⟩ | ⟨_, o, _, e, hc⟩
    · simp at e
    · exact ⟨o, by rw [e, List.length_append, Fl]; rfl, hc⟩
  obtain ⟨B, hB⟩ : ∃ B, B = fB fun b => decide (Lst t (cP t (F ++ [(b : Int)])) = Lst t (cD t)) := ⟨_, rfl⟩
  have nxt : fixU t (k + 1) = F ++ [(B : Int)] := by rw [fixU, ← hF, hB]
  have hBs : Lst t (cP t (F ++ [(B : Int)])) = some m := by rw [← nxt]; exact fixU_ok T.toTG hm (by omega)
  have hB31 : B < 31 ∧ ∀ b, b < B → Lst t (cP t (F ++ [(b : Int)])) ≠ some m := by
    have hex : ∃ b, b < 31 ∧ (fun b : Nat => decide (Lst t (cP t (F ++ [(b : Int)])) = Lst t (cD t))) b = true := by
      obtain ⟨u, h1, h2, h3⟩ := (LstP T.toTG (l := F ++ [(B : Int)]) (by simp [Fl]; omega)).1 m hBs
      have hu := (h1 k (by omega)).1
      have uk : u k = B := by
        rw [h2 k (by simp [Fl]), List.getD_eq_getElem?_getD, List.getElem?_append_right (by omega), Fl, Nat.sub_self]; rfl
      exact ⟨B, by omega, decide_eq_true (by rw [hBs, hm])⟩
    have := fB_spec hex
    rw [← hB] at this
    exact ⟨this.1, fun b hb e => by have := of_decide_eq_false (this.2.2 b hb); rw [e, hm] at this; exact this rfl⟩
  clear ho ho'
  simp (disch := first | assumption | omega | (simp only [az]; done)) only [ru, eq_self, if_true, if_false, BEq.rfl, binI, AO.row?, splice, fillL, mmAll, loadV, storeV, zeros, Am.rowAt, Am.part, addOff, Nat.reduceAdd, Nat.reduceMul, Nat.reduceLeDiff, Nat.reduceSub, Nat.reduceLT, Int.reduceEq, Int.reduceLT, Int.reduceLE, Int.reduceGT, Int.reduceGE, Int.reduceAdd, Int.reduceSub, Int.reduceMul, Int.reduceNeg, Int.reduceToNat, reduceCtorEq, reduceIte, hlt, decide_true, exOp_litS, AV.pureV.go, AV.pureV, Bool.and_true, ha]
  refine G_loop_ind (fun q ts hh mk => ∃ b : Nat, b ≤ B ∧ q = B - b ∧ hh[o]? = some (.cells ((F ++ [(b : Int)]).flatMap intL) false) ∧ ts.length = 31 ∧ ts.getD 0 .undef = v ∧ ts.getD 3 .undef = I m ∧ ts.getD 4 .undef = .ms 1 o 0 (k + 1) ∧ ts.getD 5 .undef = I k ∧ ts.getD 9 .undef = I t.length ∧ ts.getD 10 .undef = I k ∧ mk = []) ?_ _ _ _ _
    ⟨0, Nat.zero_le _, rfl, hc, rfl, rfl, rfl, rfl, rfl, rfl, rfl, rfl⟩
  rintro q ts hh mk ih2 ⟨b, hb, rfl, hco, hl', q0, q3, q4, q5, q9, q10, rfl⟩
  rw [lit_all hl']
  simp only [lit0, litS, Nat.reduceAdd, q0, q3, q4, q5, q9, q10]
  have ol := (List.getElem?_eq_some_iff.1 hco).1
  obtain ⟨r, h1, hr, rfl, rfl⟩ := r117 (v := v) (lv := .ms 1 o 0 (k + 1)) (cells_sl H.i) rfl (h := hh) (lim := 0)
  have rd : RdS (hh ++ [.cells [v] false, .cells [.ms 1 o 0 (k + 1)] false]) (.ms 1 o 0 (k + 1)) (F ++ [(b : Int)]) := .inr ⟨by simp, o, false, by rw [List.length_append, Fl]; rfl, by rw [List.getElem?_append_left ol]; exact hco⟩
  have g102 := s102 H T.toTG (cost135 H T (l := F ++ [(b : Int)]) (by simp [Fl]; omega) (h := hh ++ [.cells [v] false, .cells [.ms 1 o 0 (k + 1)] false]) (a := hh.length + 1) (b := hh.length) (by rw [atT]; rfl) (by rw [atT0]; rfl) rd) ⟨rfl, rfl⟩ (cP_bd T)
  by_cases e : b = B
  · subst e
    rw [hBs] at g102
    have e0 : En (some m) = m := rfl
    rw [e0] at g102
    have n0 : ¬ m > m := by omega
    simp (disch := first | assumption | omega | (simp only [az]; done)) only [ru, eq_self, if_true, if_false, BEq.rfl, binI, AO.row?, splice, fillL, mmAll, loadV, storeV, zeros, Am.rowAt, Am.part, addOff, Nat.reduceAdd, Nat.reduceMul, Nat.reduceLeDiff, Nat.reduceSub, Nat.reduceLT, Int.reduceEq, Int.reduceLT, Int.reduceLE, Int.reduceGT, Int.reduceGE, Int.reduceAdd, Int.reduceSub, Int.reduceMul, Int.reduceNeg, Int.reduceToNat, reduceCtorEq, reduceIte, lenV_sl H.i, elem_pt H.i, view_sl H.i, scalar_sl H.i, cells_sl H.i, pure_sl H.i, Int.toNat_natCast, exOp_call0, hr, exOp_call3, g102, n0, decide_false]
    exact ih (t.length - (k + 1)) _ _ _ (by omega) ⟨k + 1, .ms 1 o 0 (k + 1), by omega, rfl, .inr ⟨by simp [nxt], o, Nat.zero_le _, by rw [fixU_len], by rw [nxt, List.getElem?_append_left ol]; exact hco⟩, rfl, rfl, rfl, rfl, rfl, rfl, rfl⟩
  · have hbB : b < B := by omega
    have gt : En (Lst t (cP t (F ++ [(b : Int)]))) > m := by
      cases h : Lst t (cP t (F ++ [(b : Int)])) with
      | none => show (9223372036854775807 : Int) > m; omega
      | some x =>
        have h1 := cP_ge T.toTG hm (by simp [Fl]; omega) h
        have h2 := hB31.2 b hbB
        rw [h] at h2
        have : x ≠ m := fun e => h2 (by rw [e])
        show x > m; omega
    obtain ⟨Z, hZ⟩ : ∃ Z, Z = (F ++ [(b : Int)]).flatMap intL := ⟨_, rfl⟩
    have zh : (Z.drop k).head? = some (I b) := by
      rw [hZ]
      have := flat_head (F := F ++ [(b : Int)]) (i := k) (by simp [Fl])
      rw [this, List.getD_eq_getElem?_getD, List.getElem?_append_right (by omega), Fl, Nat.sub_self]; rfl
    have zp : Z.take k ++ [I ((b : Int) + 1)] ++ Z.drop (k + 1) = (F ++ [((b + 1 : Nat) : Int)]).flatMap intL := by
      rw [hZ, int_put (by simp [Fl])]
      congr 1
      rw [List.set_append_right _ _ (by omega), Fl, Nat.sub_self]; rfl
    have zl : Z.length = k + 1 := by rw [hZ, flat_len intE, List.length_append, Fl]; simp
    have fit : k + 1 ≤ Z.length := by omega
    rw [← hZ] at hco
    have hco2 : (hh ++ [.cells [v] false, .cells [.ms 1 o 0 (k + 1)] false])[o]? = some (.cells Z false) := by rw [List.getElem?_append_left ol]; exact hco
    obtain ⟨h2, hh2⟩ : ∃ h2, h2 = hh ++ [.cells [v] false, .cells [.ms 1 o 0 (k + 1)] false] := ⟨_, rfl⟩
    rw [← hh2] at hr g102 hco2
    have ol2 := (List.getElem?_eq_some_iff.1 hco2).1
    have kk : (k : Int) < ((k + 1 : Nat) : Int) := by omega
    simp (disch := first | assumption | omega | (simp only [az]; done)) only [ru, eq_self, if_true, if_false, BEq.rfl, binI, AO.row?, splice, fillL, mmAll, loadV, storeV, zeros, Am.rowAt, Am.part, addOff, Nat.reduceAdd, Nat.reduceMul, Nat.reduceLeDiff, Nat.reduceSub, Nat.reduceLT, Int.reduceEq, Int.reduceLT, Int.reduceLE, Int.reduceGT, Int.reduceGE, Int.reduceAdd, Int.reduceSub, Int.reduceMul, Int.reduceNeg, Int.reduceToNat, reduceCtorEq, reduceIte, lenV_sl H.i, elem_pt H.i, view_sl H.i, scalar_sl H.i, cells_sl H.i, pure_sl H.i, Int.toNat_natCast, exOp_call0, hr, exOp_call3, g102, gt, decide_true, elemAt_ms, kk, nn, Int.toNat_natCast, Nat.mul_one, Nat.zero_add, hco2, zh, fit, zp]
    exact ih2 (B - (b + 1)) _ _ _ (by omega) ⟨b + 1, by omega, rfl, by rw [List.getElem?_set_self ol2], rfl, rfl, rfl, rfl, rfl, rfl, rfl, rfl⟩
def fixR (t : List Pt) : AV := if tval t then (match Lst t (cD t) with | some _ => .tup [resL (fixV t), I 0] | none => .tup [.nils, I 3]) else .tup [.nils, I 70]
theorem s39 (H : TbOk t v) : Iso E 39 [v] false = some (fixR t) := by
  have g2 := fun st => s43 H st
  refine Iso_of (es _ _ _ _) e39 ?_
  simp only [f39, fixR]
  simp only [chaR] at g2
  cases hv : tval t
  · simp only [hv, Bool.false_eq_true, if_false] at g2
    simp (disch := first | assumption | omega | (simp only [az]; done)) only [ru, eq_self, if_true, if_false, BEq.rfl, binI, AO.row?, splice, fillL, mmAll, loadV, storeV, zeros, Am.rowAt, Am.part, addOff, Nat.reduceAdd, Nat.reduceMul, Nat.reduceLeDiff, Nat.reduceSub, Nat.reduceLT, Int.reduceEq, Int.reduceLT, Int.reduceLE, Int.reduceGT, Int.reduceGE, Int.reduceAdd, Int.reduceSub, Int.reduceMul, Int.reduceNeg, Int.reduceToNat, reduceCtorEq, reduceIte, lenV_sl H.i, elem_pt H.i, view_sl H.i, scalar_sl H.i, cells_sl H.i, pure_sl H.i, Int.toNat_natCast, g2, decide_false, decide_true, Bool.not_false, Bool.false_eq_true]
  have T := tval_W hv
  simp only [hv, if_true] at g2
  cases hx : Lst t (cD t) with
  | none =>
    simp only [hx] at g2
    simp (disch := first | assumption | omega | (simp only [az]; done)) only [ru, eq_self, if_true, if_false, BEq.rfl, binI, AO.row?, splice, fillL, mmAll, loadV, storeV, zeros, Am.rowAt, Am.part, addOff, Nat.reduceAdd, Nat.reduceMul, Nat.reduceLeDiff, Nat.reduceSub, Nat.reduceLT, Int.reduceEq, Int.reduceLT, Int.reduceLE, Int.reduceGT, Int.reduceGE, Int.reduceAdd, Int.reduceSub, Int.reduceMul, Int.reduceNeg, Int.reduceToNat, reduceCtorEq, reduceIte, lenV_sl H.i, elem_pt H.i, view_sl H.i, scalar_sl H.i, cells_sl H.i, pure_sl H.i, Int.toNat_natCast, g2, decide_false, decide_true, Bool.not_true, Bool.not_false]
  | some x =>
    simp only [hx] at g2
    have g3 := fun st => s81 H T hx st
    have vs := fun h n => view_sl (resL_is (fixV t)) h n
    simp (disch := first | assumption | omega | (simp only [az]; done)) only [ru, eq_self, if_true, if_false, BEq.rfl, binI, AO.row?, splice, fillL, mmAll, loadV, storeV, zeros, Am.rowAt, Am.part, addOff, Nat.reduceAdd, Nat.reduceMul, Nat.reduceLeDiff, Nat.reduceSub, Nat.reduceLT, Int.reduceEq, Int.reduceLT, Int.reduceLE, Int.reduceGT, Int.reduceGE, Int.reduceAdd, Int.reduceSub, Int.reduceMul, Int.reduceNeg, Int.reduceToNat, reduceCtorEq, reduceIte, lenV_sl H.i, elem_pt H.i, view_sl H.i, scalar_sl H.i, cells_sl H.i, pure_sl H.i, Int.toNat_natCast, g2, g3, vs, decide_false, decide_true, Bool.not_true]

/-! truths -/
end
end Go.Proofs.Yteonklnjchefiaa.S

/-
Cuts, one after the other, and the one that surely pays the most (program).
-/
namespace Go.Proofs.Yteonklnjchefiaa.S
open Go Go.Am Go.Proofs.Yteonklnjchefiaa.T
set_option maxRecDepth 100000
set_option linter.unusedSimpArgs false
set_option linter.unusedVariables false

section
variable {q : List Int → Int → Bool} {k : Nat}
def enm (q : List Int → Int → Bool) (k : Nat) : Nat → List Int → List (List Int)
  | 0, F => [F]
  | d + 1, F => (List.range k).flatMap fun (i : Nat) => if q F i then enm q k d (F ++ [(i : Int)]) else []
def okE (q : List Int → Int → Bool) (k : Nat) (l : List Int) : Prop := ∀ i, i < l.length → 0 ≤ l.getD i 0 ∧ l.getD i 0 < k ∧ q (l.take i) (l.getD i 0) = true
theorem okE_nil : okE q k [] := fun i hi => by simp at hi
theorem okE_app {l m : List Int} (h : okE q k (l ++ m)) : okE q k l := fun i hi => by
  have := h i (by simp; omega)
  rwa [List.getD_eq_getElem?_getD, List.getElem?_append_left hi, ← List.getD_eq_getElem?_getD, List.take_append_of_le_length (by omega)] at this
theorem okE_snoc {l : List Int} {x : Int} : okE q k (l ++ [x]) ↔ okE q k l ∧ 0 ≤ x ∧ x < k ∧ q l x = true := by
  have at_ : (l ++ [x]).getD l.length 0 = x := by simp [List.getD_eq_getElem?_getD]
  have tk : (l ++ [x]).take l.length = l := by simp
  constructor
  · intro h
    have := h l.length (by simp)
    rw [at_, tk] at this
    exact ⟨okE_app h, this⟩
  · rintro ⟨h, hx⟩ i hi
    by_cases c : i = l.length
    · subst c; rw [at_, tk]; exact hx
    · have hl : i < l.length := by simp at hi; omega
      have := h i hl
      rwa [List.getD_eq_getElem?_getD, List.getElem?_append_left hl, ← List.getD_eq_getElem?_getD, List.take_append_of_le_length (by omega)]
theorem mem_enm : ∀ {d : Nat} {F G : List Int}, okE q k F → (G ∈ enm q k d F ↔ okE q k G ∧ ∃ T, G = F ++ T ∧ T.length = d)
  | 0, F, G, h => by
    simp only [enm, List.mem_singleton]
    constructor
    · rintro rfl; exact ⟨h, [], by simp, rfl⟩
    · rintro ⟨_, T, rfl, ht⟩; rw [List.eq_nil_of_length_eq_zero ht, List.append_nil]
  | d + 1, F, G, h => by
    simp only [enm, List.mem_flatMap, List.mem_range]
    constructor
    · rintro ⟨b, hb, hg⟩
      split at hg
      · rename_i hn
        obtain ⟨hp, T, rfl, ht⟩ := (mem_enm (okE_snoc.2 ⟨h, by omega, by omega, hn⟩)).1 hg
        exact ⟨hp, (b : Int) :: T, by simp, by simp [ht]⟩
      · simp at hg
    · rintro ⟨hp, T, rfl, ht⟩
      match T, ht with
      | x :: T, ht =>
        have e : F ++ x :: T = (F ++ [x]) ++ T := by simp
        rw [e] at hp
        have hx := okE_app hp
        have h3 := (okE_snoc.1 hx).2
        refine ⟨x.toNat, by omega, ?_⟩
        rw [show ((x.toNat : Nat) : Int) = x by omega, if_pos h3.2.2]
        exact (mem_enm hx).2 ⟨by rw [e]; exact hp, T, by simp, by simpa using ht⟩
theorem enm_pre : ∀ {d : Nat} {F G : List Int}, G ∈ enm q k d F → ∃ T, G = F ++ T ∧ T.length = d
  | 0, F, G, h => by simp only [enm, List.mem_singleton] at h; exact ⟨[], by simp [h], rfl⟩
  | d + 1, F, G, h => by
    simp only [enm, List.mem_flatMap] at h
    obtain ⟨b, _, h⟩ := h
    split at h
    · obtain ⟨T, rfl, ht⟩ := enm_pre h; exact ⟨(b : Int) :: T, by simp, by simp [ht]⟩
    · simp at h
theorem enm_sorted : ∀ {d : Nat} {F : List Int}, (enm q k d F).Pairwise fun x y => ear x y = true
  | 0, F => by simp [enm]
  | d + 1, F => by
    rw [enm, List.pairwise_flatMap]
    refine ⟨fun b hb => ?_, ?_⟩
    · split
      · exact enm_sorted
      · exact List.Pairwise.nil
    · refine List.pairwise_lt_range.imp ?_
      intro a b hab x hx y hy
      split at hx
      case isFalse => simp at hx
      split at hy
      case isFalse => simp at hy
      obtain ⟨T, rfl, _⟩ := enm_pre hx
      obtain ⟨U, rfl, _⟩ := enm_pre hy
      rw [List.append_assoc, List.append_assoc, ear_app]
      simp only [List.cons_append, List.nil_append, ear]
      rw [if_pos (by omega)]; simp; omega
/-- a stricter rule leaves fewer -/
theorem okE_mono {q' : List Int → Int → Bool} (h : ∀ F i, q F i = true → q' F i = true) {l : List Int} (hl : okE q k l) : okE q' k l := fun i hi => ⟨(hl i hi).1, (hl i hi).2.1, h _ _ (hl i hi).2.2⟩
end

def As85 : ACode := .region 0 [oP 7 (.move (.t 12))]
def Bd85 : ACode := .block 1 (.seq (.region 1 [⟨(some 14), .load false 1 (.t 1), none, none, [0]⟩,
 ⟨(some 15), .load false 1 (.t 1), none, none, [0]⟩,
 oP 16 (.move (.t 7)),
 ⟨(some 17), .call 1 73 [(.t 15), (.t 16)], none, none, [0]⟩,
 ⟨(some 18), .call 1 66 [(.t 14), (.t 17)], none, none, [0]⟩,
 oP 13 (.move (.t 18)),
 oP 19 (.extract (.t 13) 0),
 oP 20 (.extract (.t 13) 1),
 ⟨(some 8), .alloc [.int .i64 0, .int .i64 0], none, (some 0), []⟩,
 ⟨none, .store 2 (.t 8) (.t 19), none, (some 0), []⟩,
 oP 9 (.move (.t 20))])
 (.seq (.seq (.region 0 [oP 21 (.move (.t 9)),
 oP 22 (.bin .neq (.t 21) (.c (.int .i64 0)))])
 (.cond (.t 22) (.seq (.region 0 [oP 23 (.move (.t 9)),
 ⟨none, .store 1 (.t 2) (.c (.nils)), none, none, []⟩,
 ⟨none, .store 1 (.t 3) (.c (.int .i64 0)), none, none, []⟩,
 ⟨none, .store 1 (.t 4) (.t 23), none, none, []⟩])
 (.ret))
 (.skip)))
 (.seq (.region 0 [oP 24 (.fieldAddr 0 (.t 8)),
 oQ 25 (.load false 1 (.t 24)),
 oQ 26 (.load false 1 (.t 6)),
 oP 27 (.bin .gtr (.t 25) (.t 26))])
 (.cond (.t 27) (.region 0 [oP 28 (.move (.t 7)),
 oP 29 (.fieldAddr 0 (.t 8)),
 oQ 30 (.loadR false 1 (.t 29) 8),
 ⟨none, .storeR 1 (.t 5) (.t 28) [8], none, none, []⟩,
 ⟨none, .store 1 (.t 6) (.t 30), none, none, []⟩])
 (.skip)))))
def g85 : AFn := ⟨33, [.cell false 1 2, .cell false 1 3, .cell false 1 4],
 .seq (.region 0 [oQ 1 (.box (.t 0)),
 oQ 2 (.alloc [.nils]),
 oQ 3 (.alloc [.int .i64 0]),
 oQ 4 (.alloc [.int .i64 0])])
 (.seq (.region 0 [oQ 5 (.alloc [.nils])])
 (.seq (.region 0 [oQ 6 (.alloc [.int .i64 0]),
 ⟨none, .store 1 (.t 6) (.c (.int .i64 (-1))), none, none, []⟩])
 (.seq (.seq (.region 0 [oQ 10 (.load false 1 (.t 1)),
 oP 11 (.mkFn 120 [(.t 10)] [])])
 (.block 0 (.rangeFunc (.t 11) [12] As85
 Bd85)))
 (.seq (.region 0 [oQ 31 (.load false 1 (.t 5)),
 oQ 32 (.loadR false 1 (.t 6) 6),
 ⟨none, .storeR 1 (.t 2) (.t 31) [6], none, none, []⟩,
 ⟨none, .store 1 (.t 3) (.t 32), none, none, []⟩,
 ⟨none, .store 1 (.t 4) (.c (.int .i64 0)), none, none, []⟩])
 (.ret)))))⟩
theorem fg85 : f85 = g85 := by kernel_rfl

attribute [local irreducible] Go.Am.G Go.Am.GO Go.Am.GG Go.Am.GC Go.Am.GP Go.Am.GX
def qC (t : List Pt) (F : List Int) (x : Int) : Bool := (canC t x && thr t F x) && (decide (F.length = 0) || decide (F.getD (F.length - 1) 0 < x))
theorem okE_cut {t : List Pt} {l : List Int} : okE (qC t) t.length l ↔ cutB t l = true := by
  simp only [okE, cutB, List.all_eq_true, List.mem_range, cutAt, Bool.and_eq_true, qC, inR_iff, Bool.or_eq_true, decide_eq_true_eq]
  have tl : ∀ i, i < l.length → (l.take i).length = i := fun i hi => by rw [List.length_take]; omega
  have tg : ∀ i, i < l.length → 0 < i → (l.take i).getD ((l.take i).length - 1) 0 = l.getD (i - 1) 0 := fun i hi h0 => by
    rw [tl i hi]; simp [List.getD_eq_getElem?_getD, List.getElem?_take, show i - 1 < i by omega]
  constructor
  · intro h i hi
    obtain ⟨h1, h2, h3, h4⟩ := h i hi
    refine ⟨⟨⟨h1, by omega⟩, ?_⟩, h3⟩
    rcases h4 with h4 | h4
    · rw [tl i hi] at h4; exact .inl h4
    · by_cases e : i = 0
      · exact .inl e
      · rw [tg i hi (by omega)] at h4; exact .inr h4
  · intro h i hi
    obtain ⟨⟨h1, h2⟩, h3⟩ := h i hi
    refine ⟨h1.1, by omega, h3, ?_⟩
    rw [tl i hi]
    rcases h2 with h2 | h2
    · exact .inl h2
    · by_cases e : i = 0
      · exact .inl e
      · right
        have := tg i hi (by omega)
        rw [tl i hi] at this
        rw [this]; exact h2
theorem cut_len {t : List Pt} {l : List Int} (h : cutB t l = true) : l.length ≤ t.length := by
  have hr : risB l 0 ((t.length : Int) - 1) = true := by
    simp only [cutB, risB, List.all_eq_true, List.mem_range, cutAt, Bool.and_eq_true] at h ⊢
    exact fun i hi => (h i hi).1
  have h1 : ∀ i, i < l.length → (i : Int) ≤ l.getD i 0 := by
    intro i
    induction i with
    | zero =>
      intro hi
      simp only [risB, List.all_eq_true, List.mem_range, Bool.and_eq_true, inR_iff] at hr
      exact (hr 0 hi).1.1
    | succ i ih =>
      intro hi
      have := ih (by omega)
      have := ris_lt hr 1 i hi (by omega)
      omega
  by_cases e : l.length = 0
  · omega
  · have := h1 (l.length - 1) (by omega)
    simp only [risB, List.all_eq_true, List.mem_range, Bool.and_eq_true, inR_iff] at hr
    have := (hr (l.length - 1) (by omega)).1.2
    omega
def cutsU (t : List Pt) (k : Nat) : List (List Int) := (List.range k).flatMap fun m => enm (qC t) t.length m []
abbrev cutsL (t : List Pt) : List (List Int) := cutsU t (t.length + 1)
theorem cutsU_succ {t : List Pt} {k : Nat} : cutsU t (k + 1) = cutsU t k ++ enm (qC t) t.length k [] := by
  simp [cutsU, List.range_succ]
theorem mem_cuts {t : List Pt} {l : List Int} : l ∈ cutsL t ↔ cutB t l = true := by
  simp only [cutsL, cutsU, List.mem_flatMap, List.mem_range]
  constructor
  · rintro ⟨m, _, h⟩
    exact okE_cut.1 ((mem_enm okE_nil).1 h).1
  · intro h
    exact ⟨l.length, by have := cut_len h; omega, (mem_enm okE_nil).2 ⟨okE_cut.2 h, l, rfl, rfl⟩⟩
/-- the order of cuts: fewer parts first -/
def bef (x y : List Int) : Bool := decide (x.length < y.length) || (decide (x.length = y.length) && ear x y)
theorem enm_l {q : List Int → Int → Bool} {k d : Nat} {F G : List Int} (h : G ∈ enm q k d F) : G.length = F.length + d := by
  obtain ⟨T, rfl, ht⟩ := enm_pre h; simp [ht]
theorem cuts_sorted {t : List Pt} {k : Nat} : (cutsU t k).Pairwise fun x y => bef x y = true := by
  rw [cutsU, List.pairwise_flatMap]
  refine ⟨fun m _ => enm_sorted.imp_of_mem fun {x y} hx hy h => ?_, List.pairwise_lt_range.imp fun {a b} hab x hx y hy => ?_⟩
  · have h1 := enm_l hx; have h2 := enm_l hy
    simp only [bef, Bool.or_eq_true, Bool.and_eq_true, decide_eq_true_eq]; right; exact ⟨by omega, h⟩
  · have h1 := enm_l hx; have h2 := enm_l hy
    simp only [bef, Bool.or_eq_true, decide_eq_true_eq]; left; simp at h1 h2; omega
def prc (t : List Pt) (l : List Int) : Int := loV t (rS t l)
abbrev bstC (t : List Pt) (D : List (List Int)) : Option (List Int) := bst (fun _ => true) (fun l => 0 - prc t l) D
theorem enm_nil0 {t : List Pt} {k : Nat} (hk : 0 < k) : cutsU t k = [] :: (cutsU t k).drop 1 := by
  obtain ⟨j, rfl⟩ : ∃ j, k = j + 1 := ⟨k - 1, by omega⟩
  have : cutsU t (j + 1) = [] :: (List.range j).flatMap fun m => enm (qC t) t.length (m + 1) [] := by
    simp only [cutsU, List.range_succ_eq_map, List.flatMap_cons, enm, List.flatMap_map]; rfl
  rw [this]; rfl
theorem bst_ne {f : List Int → Int} : ∀ {D : List (List Int)}, D ≠ [] → ∃ x, bst (fun _ => true) f D = some x := by
  intro D hD
  cases h : bst (fun _ => true) f D with
  | some x => exact ⟨x, rfl⟩
  | none =>
    rw [bst_none] at h
    cases D with
    | nil => exact absurd rfl hD
    | cons a D => have := h a (by simp); simp at this
def bcut (t : List Pt) : List Int := (bstC t (cutsL t)).getD []
theorem bcut_some {t : List Pt} : bstC t (cutsL t) = some (bcut t) := by
  obtain ⟨x, hx⟩ := bst_ne (f := fun l => 0 - prc t l) (D := cutsL t) (by show cutsU t (t.length + 1) ≠ []; rw [enm_nil0 (by omega)]; simp)
  show _ = some ((bst _ _ _).getD [])
  rw [hx]; exact hx
theorem prc_nn {t : List Pt} (T : TW t) (h : is1 t = true) {l : List Int} : 0 ≤ prc t l := by
  obtain ⟨u, hu, e⟩ := (loV_spec (r := rS t l) T.toTG h).1
  rw [prc, ← e]
  have : ∀ k, k ≤ t.length → 0 ≤ lin (rS t l) u k := by
    intro k
    induction k with
    | zero => intro _; exact Int.le_refl _
    | succ k ih =>
      intro hk
      have h1 := ih (by omega)
      have h2 : 0 ≤ rS t l k := by
        unfold rS; split
        · rename_i hc; exact (T.p k hc.1).1
        · omega
      have := Int.mul_nonneg h2 (hu.1 k (by omega)).1.1
      simp only [lin]; omega
  exact this _ (Nat.le_refl _)
theorem RdB.mor {b : Nat} {h : List AO} {v : AV} {l : List Int} (H : RdB b h v l) (hl : l.length ≤ 1000) {lim : Nat} (y : Int) : ∃ m, slice3V 1 v (I l.length) (I l.length) = some m ∧
    appV lim h 1 8 m (.cs 1 1 [I y]) = some (.ms 1 h.length 0 (l.length + 1), h ++ [.cells ((l ++ [y]).flatMap intL) false]) := by
  rcases H with ⟨rfl, rfl⟩ | ⟨hne, o, sh, hb, rfl, hc⟩
  · exact ⟨.nils, rfl, by rw [appV_nil (n := 1) (xs := [I y]) rfl rfl rfl rfl (by omega) (by omega)]; rfl⟩
  · refine ⟨.mc 1 o 0 l.length, slice3_ms, ?_⟩
    have hr : Am.rowAt h o = some (l.flatMap fun n => [I n]) := by
      simp only [Am.rowAt, hc, Option.bind_some, AO.row?]
    have hlen : (l.flatMap fun n => [I n]).length = l.length := flat1 l
    rw [appV_mc (n := 1) (xs := [I y]) hr (by omega) rfl rfl rfl rfl (by omega) (by omega), if_neg (by omega)]
    rw [List.take_of_length_le (by omega), List.flatMap_append]; rfl

section
variable {t : List Pt} {v : AV}
/-- what the first next numbers give -/
def enU (t : List Pt) (d : Nat) (F : List Int) (i : Nat) : List (List Int) := (List.range i).flatMap fun (j : Nat) => if qC t F j then enm (qC t) t.length d (F ++ [(j : Int)]) else []
theorem enU_succ {d : Nat} {F : List Int} {i : Nat} : enU t d F (i + 1) = enU t d F i ++ (if qC t F i then enm (qC t) t.length d (F ++ [(i : Int)]) else []) := by simp [enU, List.range_succ]
theorem enU_zero {d : Nat} {F : List Int} : ∀ {i : Nat}, (∀ j, j < i → qC t F (j : Nat) = false) → enU t d F i = []
  | 0, _ => rfl
  | i + 1, h => by rw [enU_succ, enU_zero fun j hj => h j (by omega), h i (by omega)]; rfl

set_option maxHeartbeats 2000000 in
theorem r137 (H : TbOk t v) (n8 : t.length ≤ 8) {o lim : Nat} (P : List (List Int) → List AO → Prop) (hP : ∀ D h X, P D h → P D (h ++ [X])) (ho : ∀ D h, P D h → o < h.length)
    (step : ∀ D F fv h, P D h → RdB (o + 1) h fv F → okE (qC t) t.length F → ∃ h', R E (.rnd o) [fv] h lim = some (Bo true, h') ∧ P (D ++ [F]) h' ∧ Fk (o + 1) h h') :
    ∀ (d : Nat), d ≤ 100 → ∀ (F : List Int) (fv : AV) (D : List (List Int)) (h : List AO), okE (qC t) t.length F → P D h → RdB (o + 1) h fv F →
      ∃ h', R E (.fn 137) [v, fv, I d, .yld o] h lim = some (Bo true, h') ∧ P (D ++ enm (qC t) t.length d F) h' ∧ Fk (o + 1) h h' := by
  have sg := H.n
  intro d
  induction d with
  | zero =>
    intro _ F fv D h hF hp rd
    obtain ⟨h', hr, hp', fk⟩ := step D F fv h hp rd hF
    refine (fun x => ?_ : (∃ r h', R E (.fn 137) [v, fv, I ((0 : Nat) : Int), .yld o] h lim = some (r, h') ∧ (r = Bo true ∧ (P (D ++ enm (qC t) t.length 0 F) h' ∧ Fk (o + 1) h h'))) → _) (R_of _ (es _ _ _ _) e137 ?_)
    · obtain ⟨r, h', hr, rfl, hh⟩ := x; exact ⟨h', hr, hh⟩
    simp only [f137]
    have z0 : ((0 : Nat) : Int) = 0 := rfl
    simp (disch := first | assumption | omega | (simp only [az]; done)) only [ru, eq_self, if_true, if_false, BEq.rfl, binI, AO.row?, splice, fillL, mmAll, loadV, storeV, zeros, Am.rowAt, Am.part, addOff, Nat.reduceAdd, Nat.reduceMul, Nat.reduceLeDiff, Nat.reduceSub, Nat.reduceLT, Int.reduceEq, Int.reduceLT, Int.reduceLE, Int.reduceGT, Int.reduceGE, Int.reduceAdd, Int.reduceSub, Int.reduceMul, Int.reduceNeg, Int.reduceToNat, reduceCtorEq, reduceIte, lenV_sl H.i, elem_pt H.i, view_sl H.i, scalar_sl H.i, cells_sl H.i, pure_sl H.i, Int.toNat_natCast, z0, decide_true, exOp_callv0, hr]
    exact ⟨hp', fk⟩
  | succ d ih =>
    intro hd100 F fv D h hF hp rd
    have Fl := cut_len (okE_cut.1 hF)
    obtain ⟨f1, f2, f3⟩ := rd.s.len
    refine (fun x => ?_ : (∃ r h', R E (.fn 137) [v, fv, I ((d + 1 : Nat) : Int), .yld o] h lim = some (r, h') ∧ (r = Bo true ∧ (P (D ++ enm (qC t) t.length (d + 1) F) h' ∧ Fk (o + 1) h h'))) → _) (R_of _ (es _ _ _ _) e137 ?_)
    · obtain ⟨r, h', hr, rfl, hh⟩ := x; exact ⟨h', hr, hh⟩
    have dn : ¬ ((d + 1 : Nat) : Int) = 0 := by omega
    have hall : enU t d F t.length = enm (qC t) t.length (d + 1) F := rfl
    obtain ⟨i0, hi0, hz, hq⟩ : ∃ i0 : Nat, i0 ≤ t.length ∧ (∀ j, j < i0 → qC t F (j : Nat) = false) ∧ ((∀ j, i0 ≤ j → j < t.length → qC t F (j : Nat) = (canC t (j : Nat) && thr t F (j : Nat))) ∧ ((F.length = 0 ∧ i0 = 0) ∨ (0 < F.length ∧ (i0 : Int) = F.getD (F.length - 1) 0 + 1))) := by
      by_cases e : F.length = 0
      · exact ⟨0, Nat.zero_le _, fun j hj => by omega, fun j _ _ => by simp only [qC, decide_eq_true e, Bool.true_or, Bool.and_true], .inl ⟨e, rfl⟩⟩
      · have hlast := hF (F.length - 1) (by omega)
        refine ⟨(F.getD (F.length - 1) 0).toNat + 1, by omega, fun j hj => ?_, fun j hj _ => ?_, .inr ⟨by omega, by omega⟩⟩
        · have : ¬ F.getD (F.length - 1) 0 < (j : Int) := by omega
          simp only [qC, decide_eq_false e, decide_eq_false this, Bool.or_self, Bool.and_false]
        · have : F.getD (F.length - 1) 0 < (j : Int) := by omega
          simp only [qC, decide_eq_true this, Bool.or_true, Bool.and_true]
    obtain ⟨hq, hst⟩ := hq
    simp only [f137]
    rcases hst with ⟨e0, rfl⟩ | ⟨e0, hi1⟩
    · have n0 : ¬ (F.length : Int) > 0 := by omega
      simp (disch := first | assumption | omega | (simp only [az]; done)) only [ru, eq_self, if_true, if_false, BEq.rfl, binI, AO.row?, splice, fillL, mmAll, loadV, storeV, zeros, Am.rowAt, Am.part, addOff, Nat.reduceAdd, Nat.reduceMul, Nat.reduceLeDiff, Nat.reduceSub, Nat.reduceLT, Int.reduceEq, Int.reduceLT, Int.reduceLE, Int.reduceGT, Int.reduceGE, Int.reduceAdd, Int.reduceSub, Int.reduceMul, Int.reduceNeg, Int.reduceToNat, reduceCtorEq, reduceIte, lenV_sl H.i, elem_pt H.i, view_sl H.i, scalar_sl H.i, cells_sl H.i, pure_sl H.i, Int.toNat_natCast, f1, dn, n0, decide_false]
      refine G_loop_ind (fun m ts hk mk => ∃ i : Nat, 0 ≤ i ∧ i ≤ t.length ∧ m = t.length - i ∧ Fk (o + 1) h hk ∧ P (D ++ enU t d F i) hk ∧ ts.length = 52 ∧ ts.getD 0 .undef = v ∧ ts.getD 1 .undef = fv ∧ ts.getD 2 .undef = I ((d + 1 : Nat) : Int) ∧ ts.getD 3 .undef = .yld o ∧ ts.getD 9 .undef = I i ∧ mk = []) ?_ _ _ _ _
        ⟨0, by omega, by omega, rfl, Fk.refl _ _, by rw [enU_zero (fun j hj => by omega), List.append_nil]; exact hp, rfl, rfl, rfl, rfl, rfl, rfl, rfl⟩
      rintro m ts hk mk ihk ⟨i, hii, hi, rfl, fk, hpk, hl', q0, q1, q2, q3, q9, rfl⟩
      rw [lit_all hl']
      simp only [lit0, litS, Nat.reduceAdd, q0, q1, q2, q3, q9]
      simp (disch := first | assumption | omega | (simp only [az]; done)) only [ru, eq_self, if_true, if_false, BEq.rfl, binI, AO.row?, splice, fillL, mmAll, loadV, storeV, zeros, Am.rowAt, Am.part, addOff, Nat.reduceAdd, Nat.reduceMul, Nat.reduceLeDiff, Nat.reduceSub, Nat.reduceLT, Int.reduceEq, Int.reduceLT, Int.reduceLE, Int.reduceGT, Int.reduceGE, Int.reduceAdd, Int.reduceSub, Int.reduceMul, Int.reduceNeg, Int.reduceToNat, reduceCtorEq, reduceIte, lenV_sl H.i, elem_pt H.i, view_sl H.i, scalar_sl H.i, cells_sl H.i, pure_sl H.i, Int.toNat_natCast]
      by_cases hlt : (i : Int) < t.length
      case neg =>
        obtain rfl : i = t.length := by omega
        rw [hall] at hpk
        simp (disch := first | assumption | omega | (simp only [az]; done)) only [ru, eq_self, if_true, if_false, BEq.rfl, binI, AO.row?, splice, fillL, mmAll, loadV, storeV, zeros, Am.rowAt, Am.part, addOff, Nat.reduceAdd, Nat.reduceMul, Nat.reduceLeDiff, Nat.reduceSub, Nat.reduceLT, Int.reduceEq, Int.reduceLT, Int.reduceLE, Int.reduceGT, Int.reduceGE, Int.reduceAdd, Int.reduceSub, Int.reduceMul, Int.reduceNeg, Int.reduceToNat, reduceCtorEq, reduceIte, hlt, decide_false]
        exact ⟨hpk, fk⟩
      have hi' : i < t.length := by omega
      have qi := hq i hii hi'
      have rdk := rd.fk fk
      have rv := fun st => rdk.s.view (st := st) (k := 7)
      have RF := resL_is F
      have g := fun st => s133 H RF (by omega) (p := (i : Int)) (by omega) hlt st
      obtain ⟨rf, hrf⟩ : ∃ rf, rf = resL F := ⟨_, rfl⟩
      rw [← hrf] at RF
      simp only [← hrf] at g rv
      rw [← qi] at g
      have es := enU_succ (t := t) (d := d) (F := F) (i := i)
      cases hqi : qC t F (i : Nat)
      · rw [hqi] at g es
        simp only [Bool.false_eq_true, if_false, List.append_nil] at es
        rw [← es] at hpk
        simp (disch := first | assumption | omega | (simp only [az]; done)) only [ru, eq_self, if_true, if_false, BEq.rfl, binI, AO.row?, splice, fillL, mmAll, loadV, storeV, zeros, Am.rowAt, Am.part, addOff, Nat.reduceAdd, Nat.reduceMul, Nat.reduceLeDiff, Nat.reduceSub, Nat.reduceLT, Int.reduceEq, Int.reduceLT, Int.reduceLE, Int.reduceGT, Int.reduceGE, Int.reduceAdd, Int.reduceSub, Int.reduceMul, Int.reduceNeg, Int.reduceToNat, reduceCtorEq, reduceIte, lenV_sl H.i, elem_pt H.i, view_sl H.i, scalar_sl H.i, cells_sl H.i, pure_sl H.i, Int.toNat_natCast, hlt, decide_true, rv, g, gUn, lenV_sl RF, view_sl RF, scalar_sl RF, cells_sl RF, pure_sl RF]
        exact ihk (t.length - (i + 1)) _ _ _ (by omega) ⟨i + 1, by omega, by omega, rfl, fk, hpk, rfl, rfl, rfl, rfl, rfl, rfl, rfl⟩
      · rw [hqi] at g es
        simp only [if_true] at es
        obtain ⟨mv, em, ea⟩ := rdk.mor (by omega) (lim := lim) (i : Int)
        have ok := ho _ _ hpk
        have hp1 := hP _ _ (AO.cells ((F ++ [(i : Int)]).flatMap intL) false) hpk
        have rd1 : RdB (o + 1) (hk ++ [AO.cells ((F ++ [(i : Int)]).flatMap intL) false]) (.ms 1 hk.length 0 (F.length + 1)) (F ++ [(i : Int)]) :=
          .inr ⟨by simp, hk.length, false, by omega, by simp, by rw [atE]⟩
        obtain ⟨h', hr, hp', fk'⟩ := ih (by omega) (F ++ [(i : Int)]) (.ms 1 hk.length 0 (F.length + 1)) _ (hk ++ [AO.cells ((F ++ [(i : Int)]).flatMap intL) false]) (okE_snoc.2 ⟨hF, by omega, by omega, hqi⟩) hp1 rd1
        have dd : ((d + 1 : Nat) : Int) - 1 = (d : Nat) := by omega
        rw [List.append_assoc, ← es] at hp'
        simp (disch := first | assumption | omega | (simp only [az]; done)) only [ru, eq_self, if_true, if_false, BEq.rfl, binI, AO.row?, splice, fillL, mmAll, loadV, storeV, zeros, Am.rowAt, Am.part, addOff, Nat.reduceAdd, Nat.reduceMul, Nat.reduceLeDiff, Nat.reduceSub, Nat.reduceLT, Int.reduceEq, Int.reduceLT, Int.reduceLE, Int.reduceGT, Int.reduceGE, Int.reduceAdd, Int.reduceSub, Int.reduceMul, Int.reduceNeg, Int.reduceToNat, reduceCtorEq, reduceIte, lenV_sl H.i, elem_pt H.i, view_sl H.i, scalar_sl H.i, cells_sl H.i, pure_sl H.i, Int.toNat_natCast, hlt, decide_true, rv, g, gUn, lenV_sl RF, view_sl RF, scalar_sl RF, cells_sl RF, pure_sl RF, f1, pex_slice3, em, exOp_litS, AV.pureV.go, AV.pureV, Bool.and_true, ea, dd, exOp_call0, hr, Bool.not_true]
        exact ihk (t.length - (i + 1)) _ _ _ (by omega) ⟨i + 1, by omega, by omega, rfl, fk.trans ((Fk.of (Fr.app _ _)).trans fk'), hp', rfl, rfl, rfl, rfl, rfl, rfl, rfl⟩
    · have n0 : (F.length : Int) > 0 := by omega
      obtain ⟨oo, rfl, c, sh, hc, hd⟩ := rd.elem (i := F.length - 1) (by omega)
      have m1 : (F.length : Int) - 1 = ((F.length - 1 : Nat) : Int) := by omega
      have m2 : ((F.length - 1 : Nat) : Int) < F.length := by omega
      have rb := (hF (F.length - 1) (by omega))
      obtain ⟨z, hz'⟩ : ∃ z, z = F.getD (F.length - 1) 0 := ⟨_, rfl⟩
      rw [← hz'] at hi1 hd rb
      have hi2 : z + 1 = (i0 : Int) := by omega
      simp (disch := first | assumption | omega | (simp only [az]; done)) only [ru, eq_self, if_true, if_false, BEq.rfl, binI, AO.row?, splice, fillL, mmAll, loadV, storeV, zeros, Am.rowAt, Am.part, addOff, Nat.reduceAdd, Nat.reduceMul, Nat.reduceLeDiff, Nat.reduceSub, Nat.reduceLT, Int.reduceEq, Int.reduceLT, Int.reduceLE, Int.reduceGT, Int.reduceGE, Int.reduceAdd, Int.reduceSub, Int.reduceMul, Int.reduceNeg, Int.reduceToNat, reduceCtorEq, reduceIte, lenV_sl H.i, elem_pt H.i, view_sl H.i, scalar_sl H.i, cells_sl H.i, pure_sl H.i, Int.toNat_natCast, f1, dn, n0, decide_false, decide_true, m1, m2, elemAt_ms, nn, Int.toNat_natCast, Nat.zero_add, hc, hd, hi2]
      refine G_loop_ind (fun m ts hk mk => ∃ i : Nat, i0 ≤ i ∧ i ≤ t.length ∧ m = t.length - i ∧ Fk (o + 1) h hk ∧ P (D ++ enU t d F i) hk ∧ ts.length = 52 ∧ ts.getD 0 .undef = v ∧ ts.getD 1 .undef = .ms 1 oo 0 F.length ∧ ts.getD 2 .undef = I ((d + 1 : Nat) : Int) ∧ ts.getD 3 .undef = .yld o ∧ ts.getD 9 .undef = I i ∧ mk = []) ?_ _ _ _ _
        ⟨i0, by omega, by omega, rfl, Fk.refl _ _, by rw [enU_zero hz, List.append_nil]; exact hp, rfl, rfl, rfl, rfl, rfl, rfl, rfl⟩
      rintro m ts hk mk ihk ⟨i, hii, hi, rfl, fk, hpk, hl', q0, q1, q2, q3, q9, rfl⟩
      rw [lit_all hl']
      simp only [lit0, litS, Nat.reduceAdd, q0, q1, q2, q3, q9]
      simp (disch := first | assumption | omega | (simp only [az]; done)) only [ru, eq_self, if_true, if_false, BEq.rfl, binI, AO.row?, splice, fillL, mmAll, loadV, storeV, zeros, Am.rowAt, Am.part, addOff, Nat.reduceAdd, Nat.reduceMul, Nat.reduceLeDiff, Nat.reduceSub, Nat.reduceLT, Int.reduceEq, Int.reduceLT, Int.reduceLE, Int.reduceGT, Int.reduceGE, Int.reduceAdd, Int.reduceSub, Int.reduceMul, Int.reduceNeg, Int.reduceToNat, reduceCtorEq, reduceIte, lenV_sl H.i, elem_pt H.i, view_sl H.i, scalar_sl H.i, cells_sl H.i, pure_sl H.i, Int.toNat_natCast]
      by_cases hlt : (i : Int) < t.length
      case neg =>
        obtain rfl : i = t.length := by omega
        rw [hall] at hpk
        simp (disch := first | assumption | omega | (simp only [az]; done)) only [ru, eq_self, if_true, if_false, BEq.rfl, binI, AO.row?, splice, fillL, mmAll, loadV, storeV, zeros, Am.rowAt, Am.part, addOff, Nat.reduceAdd, Nat.reduceMul, Nat.reduceLeDiff, Nat.reduceSub, Nat.reduceLT, Int.reduceEq, Int.reduceLT, Int.reduceLE, Int.reduceGT, Int.reduceGE, Int.reduceAdd, Int.reduceSub, Int.reduceMul, Int.reduceNeg, Int.reduceToNat, reduceCtorEq, reduceIte, hlt, decide_false]
        exact ⟨hpk, fk⟩
      have hi' : i < t.length := by omega
      have qi := hq i hii hi'
      have rdk := rd.fk fk
      have rv := fun st => rdk.s.view (st := st) (k := 7)
      have RF := resL_is F
      have g := fun st => s133 H RF (by omega) (p := (i : Int)) (by omega) hlt st
      obtain ⟨rf, hrf⟩ : ∃ rf, rf = resL F := ⟨_, rfl⟩
      rw [← hrf] at RF
      simp only [← hrf] at g rv
      rw [← qi] at g
      have es := enU_succ (t := t) (d := d) (F := F) (i := i)
      cases hqi : qC t F (i : Nat)
      · rw [hqi] at g es
        simp only [Bool.false_eq_true, if_false, List.append_nil] at es
        rw [← es] at hpk
        simp (disch := first | assumption | omega | (simp only [az]; done)) only [ru, eq_self, if_true, if_false, BEq.rfl, binI, AO.row?, splice, fillL, mmAll, loadV, storeV, zeros, Am.rowAt, Am.part, addOff, Nat.reduceAdd, Nat.reduceMul, Nat.reduceLeDiff, Nat.reduceSub, Nat.reduceLT, Int.reduceEq, Int.reduceLT, Int.reduceLE, Int.reduceGT, Int.reduceGE, Int.reduceAdd, Int.reduceSub, Int.reduceMul, Int.reduceNeg, Int.reduceToNat, reduceCtorEq, reduceIte, lenV_sl H.i, elem_pt H.i, view_sl H.i, scalar_sl H.i, cells_sl H.i, pure_sl H.i, Int.toNat_natCast, hlt, decide_true, rv, g, gUn, lenV_sl RF, view_sl RF, scalar_sl RF, cells_sl RF, pure_sl RF]
        exact ihk (t.length - (i + 1)) _ _ _ (by omega) ⟨i + 1, by omega, by omega, rfl, fk, hpk, rfl, rfl, rfl, rfl, rfl, rfl, rfl⟩
      · rw [hqi] at g es
        simp only [if_true] at es
        obtain ⟨mv, em, ea⟩ := rdk.mor (by omega) (lim := lim) (i : Int)
        have ok := ho _ _ hpk
        have hp1 := hP _ _ (AO.cells ((F ++ [(i : Int)]).flatMap intL) false) hpk
        have rd1 : RdB (o + 1) (hk ++ [AO.cells ((F ++ [(i : Int)]).flatMap intL) false]) (.ms 1 hk.length 0 (F.length + 1)) (F ++ [(i : Int)]) :=
          .inr ⟨by simp, hk.length, false, by omega, by simp, by rw [atE]⟩
        obtain ⟨h', hr, hp', fk'⟩ := ih (by omega) (F ++ [(i : Int)]) (.ms 1 hk.length 0 (F.length + 1)) _ (hk ++ [AO.cells ((F ++ [(i : Int)]).flatMap intL) false]) (okE_snoc.2 ⟨hF, by omega, by omega, hqi⟩) hp1 rd1
        have dd : ((d + 1 : Nat) : Int) - 1 = (d : Nat) := by omega
        rw [List.append_assoc, ← es] at hp'
        simp (disch := first | assumption | omega | (simp only [az]; done)) only [ru, eq_self, if_true, if_false, BEq.rfl, binI, AO.row?, splice, fillL, mmAll, loadV, storeV, zeros, Am.rowAt, Am.part, addOff, Nat.reduceAdd, Nat.reduceMul, Nat.reduceLeDiff, Nat.reduceSub, Nat.reduceLT, Int.reduceEq, Int.reduceLT, Int.reduceLE, Int.reduceGT, Int.reduceGE, Int.reduceAdd, Int.reduceSub, Int.reduceMul, Int.reduceNeg, Int.reduceToNat, reduceCtorEq, reduceIte, lenV_sl H.i, elem_pt H.i, view_sl H.i, scalar_sl H.i, cells_sl H.i, pure_sl H.i, Int.toNat_natCast, hlt, decide_true, rv, g, gUn, lenV_sl RF, view_sl RF, scalar_sl RF, cells_sl RF, pure_sl RF, f1, pex_slice3, em, exOp_litS, AV.pureV.go, AV.pureV, Bool.and_true, ea, dd, exOp_call0, hr, Bool.not_true]
        exact ihk (t.length - (i + 1)) _ _ _ (by omega) ⟨i + 1, by omega, by omega, rfl, fk.trans ((Fk.of (Fr.app _ _)).trans fk'), hp', rfl, rfl, rfl, rfl, rfl, rfl, rfl⟩
end
end Go.Proofs.Yteonklnjchefiaa.S

/-
The cut that surely pays the most, and what a penny more brings (program).
-/
namespace Go.Proofs.Yteonklnjchefiaa.S
open Go Go.Am Go.Proofs.Yteonklnjchefiaa.T
set_option maxRecDepth 100000
set_option linter.unusedSimpArgs false
set_option linter.unusedVariables false
attribute [local irreducible] Go.Am.G Go.Am.GO Go.Am.GG Go.Am.GC Go.Am.GP Go.Am.GX

section
variable {t : List Pt} {v : AV}
theorem r120 (H : TbOk t v) (n8 : t.length ≤ 8) {o lim : Nat} (P : List (List Int) → List AO → Prop) (hP : ∀ D h X, P D h → P D (h ++ [X])) (ho : ∀ D h, P D h → o < h.length)
    (step : ∀ D F fv h, P D h → RdB (o + 1) h fv F → okE (qC t) t.length F → ∃ h', R E (.rnd o) [fv] h lim = some (Bo true, h') ∧ P (D ++ [F]) h' ∧ Fk (o + 1) h h')
    {h : List AO} (h0 : P [] h) : ∃ r h', R E (.fn 120) [v, .yld o] h lim = some (r, h') ∧ P (cutsL t) h' := by
  refine R_of (fun r h' => P (cutsL t) h') (es _ _ _ _) e120 ?_
  simp only [f120]
  simp (disch := first | assumption | omega | (simp only [az]; done)) only [ru, eq_self, if_true, if_false, BEq.rfl, binI, AO.row?, splice, fillL, mmAll, loadV, storeV, zeros, Am.rowAt, Am.part, addOff, Nat.reduceAdd, Nat.reduceMul, Nat.reduceLeDiff, Nat.reduceSub, Nat.reduceLT, Int.reduceEq, Int.reduceLT, Int.reduceLE, Int.reduceGT, Int.reduceGE, Int.reduceAdd, Int.reduceSub, Int.reduceMul, Int.reduceNeg, Int.reduceToNat, reduceCtorEq, reduceIte, lenV_sl H.i, elem_pt H.i, view_sl H.i, scalar_sl H.i, cells_sl H.i, pure_sl H.i, Int.toNat_natCast]
  refine G_loop_ind (fun m ts hh mk => ∃ k : Nat, k ≤ t.length + 1 ∧ m = t.length + 1 - k ∧ P (cutsU t k) hh ∧ ts.length = 17 ∧ ts.getD 0 .undef = v ∧ ts.getD 1 .undef = .yld o ∧ ts.getD 7 .undef = I ((t.length : Int) + 1) ∧ ts.getD 8 .undef = I k ∧ mk = []) ?_ _ _ _ _
    ⟨0, Nat.zero_le _, rfl, h0, rfl, rfl, rfl, rfl, rfl, rfl⟩
  rintro m ts hh mk ih ⟨k, hk, rfl, hp, hl', q0, q1, q7, q8, rfl⟩
  rw [lit_all hl']
  simp only [lit0, litS, Nat.reduceAdd, q0, q1, q7, q8]
  by_cases hlt : (k : Int) < (t.length : Int) + 1
  case neg =>
    obtain rfl : k = t.length + 1 := by omega
    simp (disch := first | assumption | omega | (simp only [az]; done)) only [ru, eq_self, if_true, if_false, BEq.rfl, binI, AO.row?, splice, fillL, mmAll, loadV, storeV, zeros, Am.rowAt, Am.part, addOff, Nat.reduceAdd, Nat.reduceMul, Nat.reduceLeDiff, Nat.reduceSub, Nat.reduceLT, Int.reduceEq, Int.reduceLT, Int.reduceLE, Int.reduceGT, Int.reduceGE, Int.reduceAdd, Int.reduceSub, Int.reduceMul, Int.reduceNeg, Int.reduceToNat, reduceCtorEq, reduceIte, hlt, decide_false]
    exact hp
  obtain ⟨h', hr, hp', _⟩ := r137 H n8 P hP ho step k (by omega) [] .nils _ hh okE_nil hp (.inl ⟨rfl, rfl⟩)
  rw [← cutsU_succ] at hp'
  simp (disch := first | assumption | omega | (simp only [az]; done)) only [ru, eq_self, if_true, if_false, BEq.rfl, binI, AO.row?, splice, fillL, mmAll, loadV, storeV, zeros, Am.rowAt, Am.part, addOff, Nat.reduceAdd, Nat.reduceMul, Nat.reduceLeDiff, Nat.reduceSub, Nat.reduceLT, Int.reduceEq, Int.reduceLT, Int.reduceLE, Int.reduceGT, Int.reduceGE, Int.reduceAdd, Int.reduceSub, Int.reduceMul, Int.reduceNeg, Int.reduceToNat, reduceCtorEq, reduceIte, lenV_sl H.i, elem_pt H.i, view_sl H.i, scalar_sl H.i, cells_sl H.i, pure_sl H.i, Int.toNat_natCast, hlt, decide_true, exOp_call0, hr, Bool.not_true]
  exact ih (t.length + 1 - (k + 1)) _ _ _ (by omega) ⟨k + 1, by omega, rfl, hp', rfl, rfl, rfl, rfl, rfl, rfl⟩
theorem r120z (H : TbOk t v) (n8 : t.length ≤ 8) {o lim : Nat} {h h' : List AO} (hs : R E (.rnd o) [.nils] h lim = some (Bo false, h')) : ∃ r h2, R E (.fn 120) [v, .yld o] h lim = some (r, h2) ∧ h2 = h' := by
  have hr : ∃ r h2, R E (.fn 137) [v, .nils, I 0, .yld o] h lim = some (r, h2) ∧ (r = Bo false ∧ h2 = h') := by
    refine R_of (fun r h2 => r = Bo false ∧ h2 = h') (es _ _ _ _) e137 ?_
    simp only [f137]
    simp (disch := first | assumption | omega | (simp only [az]; done)) only [ru, eq_self, if_true, if_false, BEq.rfl, binI, AO.row?, splice, fillL, mmAll, loadV, storeV, zeros, Am.rowAt, Am.part, addOff, Nat.reduceAdd, Nat.reduceMul, Nat.reduceLeDiff, Nat.reduceSub, Nat.reduceLT, Int.reduceEq, Int.reduceLT, Int.reduceLE, Int.reduceGT, Int.reduceGE, Int.reduceAdd, Int.reduceSub, Int.reduceMul, Int.reduceNeg, Int.reduceToNat, reduceCtorEq, reduceIte, lenV_sl H.i, elem_pt H.i, view_sl H.i, scalar_sl H.i, cells_sl H.i, pure_sl H.i, Int.toNat_natCast, decide_true, exOp_callv0, hs]
  obtain ⟨r1, h1, hr, e1, e2⟩ := hr
  rw [e1, e2] at hr
  refine R_of (fun r h2 => h2 = h') (es _ _ _ _) e120 ?_
  simp only [f120]
  simp (disch := first | assumption | omega | (simp only [az]; done)) only [ru, eq_self, if_true, if_false, BEq.rfl, binI, AO.row?, splice, fillL, mmAll, loadV, storeV, zeros, Am.rowAt, Am.part, addOff, Nat.reduceAdd, Nat.reduceMul, Nat.reduceLeDiff, Nat.reduceSub, Nat.reduceLT, Int.reduceEq, Int.reduceLT, Int.reduceLE, Int.reduceGT, Int.reduceGE, Int.reduceAdd, Int.reduceSub, Int.reduceMul, Int.reduceNeg, Int.reduceToNat, reduceCtorEq, reduceIte, lenV_sl H.i, elem_pt H.i, view_sl H.i, scalar_sl H.i, cells_sl H.i, pure_sl H.i, Int.toNat_natCast]
  rw [G_loop]
  have c0 : (0 : Int) < (t.length : Int) + 1 := by omega
  simp (disch := first | assumption | omega | (simp only [az]; done)) only [ru, eq_self, if_true, if_false, BEq.rfl, binI, AO.row?, splice, fillL, mmAll, loadV, storeV, zeros, Am.rowAt, Am.part, addOff, Nat.reduceAdd, Nat.reduceMul, Nat.reduceLeDiff, Nat.reduceSub, Nat.reduceLT, Int.reduceEq, Int.reduceLT, Int.reduceLE, Int.reduceGT, Int.reduceGE, Int.reduceAdd, Int.reduceSub, Int.reduceMul, Int.reduceNeg, Int.reduceToNat, reduceCtorEq, reduceIte, lenV_sl H.i, elem_pt H.i, view_sl H.i, scalar_sl H.i, cells_sl H.i, pure_sl H.i, Int.toNat_natCast, c0, decide_true, exOp_call0, hr, Bool.not_false]

/-- what is kept while the cuts are gone through -/
structure Lb (t : List Pt) (v : AV) (TS : List AV) (D : List (List Int)) (h : List AO) : Prop where
  a0 : h[0]? = some (.cells [v] false)
  a1 : h[1]? = some (.cells [.nils] false)
  a2 : h[2]? = some (.cells [I 0] false)
  a3 : h[3]? = some (.cells [I 0] false)
  a4 : ∃ fv g, h[4]? = some (.cells [fv] false) ∧ h[5]? = some (.cells [I g] false) ∧ ((D = [] ∧ g = -1) ∨ ∃ x, bstC t D = some x ∧ RdB 8 h fv x ∧ g = prc t x)
  a6 : h[6]? = some .dfr
  a7 : h[7]? = some (.loop .ready none 85 TS [12] As85 Bd85 6)
theorem Lb.app {TS : List AV} {D : List (List Int)} {h : List AO} (S : Lb t v TS D h) (X : AO) : Lb t v TS D (h ++ [X]) := by
  have F := Fr.app h [X]
  obtain ⟨fv, g, h1, h2, h3⟩ := S.a4
  refine ⟨F.at S.a0, F.at S.a1, F.at S.a2, F.at S.a3, ⟨fv, g, F.at h1, F.at h2, ?_⟩, F.at S.a6, F.at S.a7⟩
  rcases h3 with h3 | ⟨x, h4, h5, h6⟩
  · exact .inl h3
  · exact .inr ⟨x, h4, h5.fk (Fk.of F), h6⟩

structure Tb (TS : List AV) : Prop where
  l : TS.length = 33
  q1 : TS.getD 1 .undef = .ptr 0 0
  q2 : TS.getD 2 .undef = .ptr 1 0
  q3 : TS.getD 3 .undef = .ptr 2 0
  q4 : TS.getD 4 .undef = .ptr 3 0
  q5 : TS.getD 5 .undef = .ptr 4 0
  q6 : TS.getD 6 .undef = .ptr 5 0
theorem RdB.sc {b : Nat} {h : List AO} {fv : AV} {F : List Int} (H : RdB b h fv F) : fv.cells = [fv] ∧ fv.scalar = true := by
  obtain ⟨_, h2, h3⟩ := H.s.len; exact ⟨h2, h3⟩
set_option maxHeartbeats 4000000 in
theorem lb_step (H : TbOk t v) (T : TW t) (h1 : is1 t = true) {TS : List AV} (Q : Tb TS) {D : List (List Int)} {F : List Int} {fv : AV} {h : List AO} (S : Lb t v TS D h) (rd : RdB 8 h fv F) (hF : F.length ≤ 8) :
    ∃ h', R E (.rnd 7) [fv] h 0 = some (Bo true, h') ∧ Lb t v TS (D ++ [F]) h' ∧ Fk 8 h h' := by
  have n8 := T.n
  have l7 := (List.getElem?_eq_some_iff.1 S.a7).1
  have := R_rnd_of (E := E) (lim := 0) (args := [fv]) (P := fun r h' => r = Bo true ∧ (Lb t v TS (D ++ [F]) h' ∧ Fk 8 h h')) S.a7 rfl (Nat.zero_le _) ?_
  · obtain ⟨r, h', hr, rfl, hp⟩ := this
    exact ⟨h', hr, hp⟩
  simp only [setAll]
  have hl2 : (TS.set 12 fv).length = 33 := by simp [Q.l]
  have Ql := Q.l
  rw [lit_all hl2]
  have gg : ∀ j, j ≠ 12 → (TS.set 12 fv).getD j .undef = TS.getD j .undef := fun j hj => by
    rw [List.getD_eq_getElem?_getD, List.getElem?_set_ne (by omega), ← List.getD_eq_getElem?_getD]
  have g1 := (gg 1 (by omega)).trans Q.q1
  have g2 := (gg 2 (by omega)).trans Q.q2
  have g3 := (gg 3 (by omega)).trans Q.q3
  have g4 := (gg 4 (by omega)).trans Q.q4
  have g5 := (gg 5 (by omega)).trans Q.q5
  have g6 := (gg 6 (by omega)).trans Q.q6
  have g12 : (TS.set 12 fv).getD 12 .undef = fv := by
    rw [List.getD_eq_getElem?_getD, List.getElem?_set_self (by omega)]; rfl
  obtain ⟨TT, hTT⟩ : ∃ TT, TT = TS.set 12 fv := ⟨_, rfl⟩
  rw [← hTT] at g1 g2 g3 g4 g5 g6 g12 ⊢
  simp only [lit0, litS, Nat.reduceAdd, g1, g2, g3, g4, g5, g6, g12]
  unfold As85
  simp (disch := first | assumption | omega | (simp only [az]; done)) only [ru, eq_self, if_true, if_false, BEq.rfl, binI, AO.row?, splice, fillL, mmAll, loadV, storeV, zeros, Am.rowAt, Am.part, addOff, Nat.reduceAdd, Nat.reduceMul, Nat.reduceLeDiff, Nat.reduceSub, Nat.reduceLT, Int.reduceEq, Int.reduceLT, Int.reduceLE, Int.reduceGT, Int.reduceGE, Int.reduceAdd, Int.reduceSub, Int.reduceMul, Int.reduceNeg, Int.reduceToNat, reduceCtorEq, reduceIte]
  refine ⟨none, 85, TS, [12], As85, Bd85, 6, S.a7, ?_⟩
  obtain ⟨h2, hh2⟩ : ∃ h2, h2 = h.set 7 (AO.loop .busy none 85 TS [12] As85 Bd85 6) := ⟨_, rfl⟩
  rw [← hh2]
  have l2 : h2.length = h.length := by rw [hh2]; simp
  have ne : ∀ j, j ≠ 7 → h2[j]? = h[j]? := fun j hj => by rw [hh2, List.getElem?_set_ne (by omega)]
  obtain ⟨fw, g, b4, b5, b8⟩ := S.a4
  have n0 := (ne 0 (by omega)).trans S.a0
  have n1 := (ne 1 (by omega)).trans S.a1
  have n2 := (ne 2 (by omega)).trans S.a2
  have n3 := (ne 3 (by omega)).trans S.a3
  have n4 := (ne 4 (by omega)).trans b4
  have n5 := (ne 5 (by omega)).trans b5
  have n6 := (ne 6 (by omega)).trans S.a6
  have n7 : h2[7]? = some (AO.loop .busy none 85 TS [12] As85 Bd85 6) := by rw [hh2, List.getElem?_set_self (by omega)]
  have fk2 : Fk 8 h h2 := ⟨by omega, fun j hj _ => ne j (by omega)⟩
  have rd2 := rd.fk fk2
  obtain ⟨c1, c2⟩ := rd.sc
  have vw := fun st => (rd2.fk (Fk.of (Fr.app h2 [AO.tomb]))).s.view (st := st) (k := 7)
  have RF := resL_is F
  have m73 := fun st => s73 H n8 RF (by omega) st
  have m66 := fun st => s66 H T (rS_b T (l := F)) st
  obtain ⟨rf, hrf⟩ : ∃ rf, rf = resL F := ⟨_, rfl⟩
  rw [← hrf] at RF
  simp only [← hrf] at m73 vw
  obtain ⟨B, hB⟩ : ∃ B, B = rw_ 8 (rS t F) := ⟨_, rfl⟩
  have m73' : ∀ st, Iso E 73 [v, rf] st = some (.agg B) := fun st => by rw [hB]; exact m73 st
  have m66' : ∀ st, Iso E 66 [v, .agg B] st = some (.tup [.agg [I (prc t F), I (hiV t (rS t F))], I 0]) := fun st => by
    rw [hB]; have := m66 st; simp only [btw, h1, if_true] at this; exact this
  have Bv : ∀ st h k, B.mapM (view st h k) = some B := fun st h k => by rw [hB]; exact rw_view
  have Bp : AV.pureV.go B = true := by rw [hB]; exact rw_pure
  obtain ⟨hi, hhi⟩ : ∃ hi, hi = hiV t (rS t F) := ⟨_, rfl⟩
  obtain ⟨lo, hlo⟩ : ∃ lo, lo = prc t F := ⟨_, rfl⟩
  rw [← hhi, ← hlo] at m66'
  have lo0 : 0 ≤ lo := by rw [hlo]; exact prc_nn T h1
  have lt : ∀ (X : AO) j, j < 8 → (h2 ++ [X])[j]? = h2[j]? := fun X j hj => at_ap (by omega)
  have lt0 := fun X => lt X 0 (by omega)
  have lt4 := fun X => lt X 4 (by omega)
  have lt5 := fun X => lt X 5 (by omega)
  have o1 : (h2.length == h2.length) = true := by simp
  have o2 : (4 != h2.length) = true := by simp; omega
  have o3 : (h2.length != 4) = true := by simp; omega
  have z0 : ∀ j, (0 : Nat) ≤ j := fun j => Nat.zero_le j
  have bs : bstC t (D ++ [F]) = if lo > g then some F else bstC t D := by
    show bst _ _ (D ++ [F]) = _
    rw [bst_snoc]
    rcases b8 with ⟨rfl, rfl⟩ | ⟨x, hx, _, rfl⟩
    · rw [if_pos (by omega)]; rfl
    · have hx' : bst (fun _ => true) (fun l => 0 - prc t l) D = some x := hx
      simp only [bstS, hx', if_true, hx, ← hlo]
      by_cases c : lo > prc t x
      · rw [if_pos (by omega), if_pos c]
      · rw [if_neg (by omega), if_neg c]
  unfold Bd85
  by_cases c : lo > g
  · have bs' : bstC t (D ++ [F]) = some F := by rw [bs, if_pos c]
    have s4 : ((h2 ++ [AO.cells [I lo, I hi] false]).set 4 (AO.cells [fv] false))[5]? = some (.cells [I g] false) := by rw [List.getElem?_set_ne (by omega), lt _ 5 (by omega)]; exact n5
    simp (disch := first | assumption | omega | (simp only [az]; done)) only [ru, eq_self, if_true, if_false, BEq.rfl, binI, AO.row?, splice, fillL, mmAll, loadV, storeV, zeros, Am.rowAt, Am.part, addOff, Nat.reduceAdd, Nat.reduceMul, Nat.reduceLeDiff, Nat.reduceSub, Nat.reduceLT, Int.reduceEq, Int.reduceLT, Int.reduceLE, Int.reduceGT, Int.reduceGE, Int.reduceAdd, Int.reduceSub, Int.reduceMul, Int.reduceNeg, Int.reduceToNat, reduceCtorEq, reduceIte, hideN, hideC, GO_mload, GO_mcall1, setE, atE, lenE, setT, setT0, atT, atT0, lt0, lt4, lt5, n0, n4, n5, s4, lenV_sl H.i, elem_pt H.i, view_sl H.i, scalar_sl H.i, cells_sl H.i, pure_sl H.i, Int.toNat_natCast, lenV_sl RF, view_sl RF, scalar_sl RF, cells_sl RF, pure_sl RF, vw, m73', m66', view_agg, Bv, Bp, Option.map_some, c1, c2, c, exOp_loadR, exOp_storeR, objIs, objNot, o1, o2, o3, decide_true, decide_false, Bool.not_true, List.append_nil]
    refine ⟨.busy, none, 85, TS, [12], As85, Bd85, 6, by rw [List.getElem?_set_ne (by omega), List.getElem?_set_ne (by omega), at_ap (by omega)]; exact n7, ?_⟩
    have up : ∀ j, j ≠ 4 → j ≠ 5 → j ≠ 7 → j < h2.length → ((((h2 ++ [AO.cells [I lo, I hi] false]).set 4 (AO.cells [fv] false)).set 5 (AO.cells [I lo] false)).set 7 (AO.loop .ready none 85 TS [12] As85 Bd85 6))[j]? = h2[j]? := fun j a b c d => by
      rw [List.getElem?_set_ne (by omega), List.getElem?_set_ne (by omega), List.getElem?_set_ne (by omega), at_ap d]
    have fk3 : Fk 8 h2 ((((h2 ++ [AO.cells [I lo, I hi] false]).set 4 (AO.cells [fv] false)).set 5 (AO.cells [I lo] false)).set 7 (AO.loop .ready none 85 TS [12] As85 Bd85 6)) := ⟨by simp, fun j hj hl => up j (by omega) (by omega) (by omega) hl⟩
    refine ⟨⟨(up 0 (by omega) (by omega) (by omega) (by omega)).trans n0, (up 1 (by omega) (by omega) (by omega) (by omega)).trans n1, (up 2 (by omega) (by omega) (by omega) (by omega)).trans n2, (up 3 (by omega) (by omega) (by omega) (by omega)).trans n3, ⟨fv, lo, ?_, ?_, .inr ⟨F, bs', rd2.fk fk3, hlo⟩⟩, (up 6 (by omega) (by omega) (by omega) (by omega)).trans n6, by rw [List.getElem?_set_self (by simp; omega)]⟩, fk2.trans fk3⟩
    · rw [List.getElem?_set_ne (by omega), List.getElem?_set_ne (by omega), List.getElem?_set_self (by simp; omega)]
    · rw [List.getElem?_set_ne (by omega), List.getElem?_set_self (by simp; omega)]
  · have bs' : bstC t (D ++ [F]) = bstC t D := by rw [bs, if_neg c]
    simp (disch := first | assumption | omega | (simp only [az]; done)) only [ru, eq_self, if_true, if_false, BEq.rfl, binI, AO.row?, splice, fillL, mmAll, loadV, storeV, zeros, Am.rowAt, Am.part, addOff, Nat.reduceAdd, Nat.reduceMul, Nat.reduceLeDiff, Nat.reduceSub, Nat.reduceLT, Int.reduceEq, Int.reduceLT, Int.reduceLE, Int.reduceGT, Int.reduceGE, Int.reduceAdd, Int.reduceSub, Int.reduceMul, Int.reduceNeg, Int.reduceToNat, reduceCtorEq, reduceIte, hideN, hideC, GO_mload, GO_mcall1, setE, atE, lenE, setT, setT0, atT, atT0, lt0, lt4, lt5, n0, n4, n5, lenV_sl H.i, elem_pt H.i, view_sl H.i, scalar_sl H.i, cells_sl H.i, pure_sl H.i, Int.toNat_natCast, lenV_sl RF, view_sl RF, scalar_sl RF, cells_sl RF, pure_sl RF, vw, m73', m66', view_agg, Bv, Bp, Option.map_some, c1, c2, c, decide_true, decide_false, Bool.not_true, List.append_nil]
    refine ⟨.busy, none, 85, TS, [12], As85, Bd85, 6, by rw [at_ap (by omega)]; exact n7, ?_⟩
    have up : ∀ j, j ≠ 7 → j < h2.length → ((h2 ++ [AO.cells [I lo, I hi] false]).set 7 (AO.loop .ready none 85 TS [12] As85 Bd85 6))[j]? = h2[j]? := fun j c d => by
      rw [List.getElem?_set_ne (by omega), at_ap d]
    have fk3 : Fk 8 h2 ((h2 ++ [AO.cells [I lo, I hi] false]).set 7 (AO.loop .ready none 85 TS [12] As85 Bd85 6)) := ⟨by simp, fun j hj hl => up j (by omega) hl⟩
    refine ⟨⟨(up 0 (by omega) (by omega)).trans n0, (up 1 (by omega) (by omega)).trans n1, (up 2 (by omega) (by omega)).trans n2, (up 3 (by omega) (by omega)).trans n3, ⟨fw, g, (up 4 (by omega) (by omega)).trans n4, (up 5 (by omega) (by omega)).trans n5, ?_⟩, (up 6 (by omega) (by omega)).trans n6, by rw [List.getElem?_set_self (by simp; omega)]⟩, fk2.trans fk3⟩
    rcases b8 with ⟨rfl, rfl⟩ | ⟨x, hx, hr, hg⟩
    · omega
    · exact .inr ⟨x, bs'.trans hx, (hr.fk fk2).fk fk3, hg⟩
/-- without a truth: the first cut ends it -/
theorem lb_none (H : TbOk t v) (T : TW t) (h1 : is1 t = false) {TS : List AV} (Q : Tb TS) {h : List AO} (S : Lb t v TS [] h) :
    ∃ h', R E (.rnd 7) [.nils] h 0 = some (Bo false, h') ∧ h'[1]? = some (.cells [.nils] false) ∧ h'[2]? = some (.cells [I 0] false) ∧ h'[3]? = some (.cells [I 3] false) ∧ h'[6]? = some .dfr ∧ h'[7]? = some (.loop .done (some .ret) 85 TS [12] As85 Bd85 6) := by
  have n8 := T.n
  have l7 := (List.getElem?_eq_some_iff.1 S.a7).1
  have := R_rnd_of (E := E) (lim := 0) (args := [.nils]) (P := fun r h' => r = Bo false ∧ (h'[1]? = some (.cells [.nils] false) ∧ h'[2]? = some (.cells [I 0] false) ∧ h'[3]? = some (.cells [I 3] false) ∧ h'[6]? = some .dfr ∧ h'[7]? = some (.loop .done (some .ret) 85 TS [12] As85 Bd85 6))) S.a7 rfl (Nat.zero_le _) ?_
  · obtain ⟨r, h', hr, rfl, hp⟩ := this
    exact ⟨h', hr, hp⟩
  simp only [setAll]
  have hl2 : (TS.set 12 .nils).length = 33 := by simp [Q.l]
  have Ql := Q.l
  rw [lit_all hl2]
  have gg : ∀ j, j ≠ 12 → (TS.set 12 .nils).getD j .undef = TS.getD j .undef := fun j hj => by
    rw [List.getD_eq_getElem?_getD, List.getElem?_set_ne (by omega), ← List.getD_eq_getElem?_getD]
  have g1 := (gg 1 (by omega)).trans Q.q1
  have g2 := (gg 2 (by omega)).trans Q.q2
  have g3 := (gg 3 (by omega)).trans Q.q3
  have g4 := (gg 4 (by omega)).trans Q.q4
  have g5 := (gg 5 (by omega)).trans Q.q5
  have g6 := (gg 6 (by omega)).trans Q.q6
  have g12 : (TS.set 12 .nils).getD 12 .undef = .nils := by
    rw [List.getD_eq_getElem?_getD, List.getElem?_set_self (by omega)]; rfl
  obtain ⟨TT, hTT⟩ : ∃ TT, TT = TS.set 12 .nils := ⟨_, rfl⟩
  rw [← hTT] at g1 g2 g3 g4 g5 g6 g12 ⊢
  simp only [lit0, litS, Nat.reduceAdd, g1, g2, g3, g4, g5, g6, g12]
  unfold As85
  simp (disch := first | assumption | omega | (simp only [az]; done)) only [ru, eq_self, if_true, if_false, BEq.rfl, binI, AO.row?, splice, fillL, mmAll, loadV, storeV, zeros, Am.rowAt, Am.part, addOff, Nat.reduceAdd, Nat.reduceMul, Nat.reduceLeDiff, Nat.reduceSub, Nat.reduceLT, Int.reduceEq, Int.reduceLT, Int.reduceLE, Int.reduceGT, Int.reduceGE, Int.reduceAdd, Int.reduceSub, Int.reduceMul, Int.reduceNeg, Int.reduceToNat, reduceCtorEq, reduceIte]
  refine ⟨none, 85, TS, [12], As85, Bd85, 6, S.a7, ?_⟩
  obtain ⟨h2, hh2⟩ : ∃ h2, h2 = h.set 7 (AO.loop .busy none 85 TS [12] As85 Bd85 6) := ⟨_, rfl⟩
  rw [← hh2]
  have l2 : h2.length = h.length := by rw [hh2]; simp
  have ne : ∀ j, j ≠ 7 → h2[j]? = h[j]? := fun j hj => by rw [hh2, List.getElem?_set_ne (by omega)]
  have n0 := (ne 0 (by omega)).trans S.a0
  have n1 := (ne 1 (by omega)).trans S.a1
  have n2 := (ne 2 (by omega)).trans S.a2
  have n3 := (ne 3 (by omega)).trans S.a3
  have n6 := (ne 6 (by omega)).trans S.a6
  have n7 : h2[7]? = some (AO.loop .busy none 85 TS [12] As85 Bd85 6) := by rw [hh2, List.getElem?_set_self (by omega)]
  have RF : IsSl 1 intL [] .nils := .inr ⟨rfl, rfl⟩
  have m73 := fun st => s73 H n8 RF (by simp) st
  have m66 := fun st => s66 H T (rS_b T (l := [])) st
  obtain ⟨B, hB⟩ : ∃ B, B = rw_ 8 (rS t []) := ⟨_, rfl⟩
  have m73' : ∀ st, Iso E 73 [v, .nils] st = some (.agg B) := fun st => by rw [hB]; exact m73 st
  have m66' : ∀ st, Iso E 66 [v, .agg B] st = some (.tup [.agg [I 0, I 0], I 3]) := fun st => by
    rw [hB]; have := m66 st; simp only [btw, h1, Bool.false_eq_true, if_false] at this; exact this
  have Bv : ∀ st h k, B.mapM (view st h k) = some B := fun st h k => by rw [hB]; exact rw_view
  have Bp : AV.pureV.go B = true := by rw [hB]; exact rw_pure
  have lt : ∀ (X : AO) j, j < 8 → (h2 ++ [X])[j]? = h2[j]? := fun X j hj => at_ap (by omega)
  have lt0 := fun X => lt X 0 (by omega)
  have lt1 := fun X => lt X 1 (by omega)
  have k2 : ((h2 ++ [AO.cells [I 0, I 0] false]).set 1 (AO.cells [.nils] false))[2]? = some (.cells [I 0] false) := by rw [List.getElem?_set_ne (by omega), lt _ 2 (by omega)]; exact n2
  have k3 : (((h2 ++ [AO.cells [I 0, I 0] false]).set 1 (AO.cells [.nils] false)).set 2 (AO.cells [I 0] false))[3]? = some (.cells [I 0] false) := by rw [List.getElem?_set_ne (by omega), List.getElem?_set_ne (by omega), lt _ 3 (by omega)]; exact n3
  unfold Bd85
  simp (disch := first | assumption | omega | (simp only [az]; done)) only [ru, eq_self, if_true, if_false, BEq.rfl, binI, AO.row?, splice, fillL, mmAll, loadV, storeV, zeros, Am.rowAt, Am.part, addOff, Nat.reduceAdd, Nat.reduceMul, Nat.reduceLeDiff, Nat.reduceSub, Nat.reduceLT, Int.reduceEq, Int.reduceLT, Int.reduceLE, Int.reduceGT, Int.reduceGE, Int.reduceAdd, Int.reduceSub, Int.reduceMul, Int.reduceNeg, Int.reduceToNat, reduceCtorEq, reduceIte, hideN, hideC, GO_mload, GO_mcall1, setE, atE, lenE, setT, setT0, atT, atT0, lt0, lt1, n0, n1, k2, k3, lenV_sl H.i, elem_pt H.i, view_sl H.i, scalar_sl H.i, cells_sl H.i, pure_sl H.i, Int.toNat_natCast, view_nils, m73', m66', view_agg, Bv, Bp, Option.map_some, decide_true, decide_false, Bool.not_false, List.append_nil]
  refine ⟨.busy, none, 85, TS, [12], As85, Bd85, 6, by rw [List.getElem?_set_ne (by omega), List.getElem?_set_ne (by omega), List.getElem?_set_ne (by omega), at_ap (by omega)]; exact n7, ?_⟩
  refine ⟨rfl, ?_, ?_, ?_, ?_, ?_⟩
  · rw [List.getElem?_set_ne (by omega), List.getElem?_set_ne (by omega), List.getElem?_set_ne (by omega), List.getElem?_set_self (by simp; omega)]
  · rw [List.getElem?_set_ne (by omega), List.getElem?_set_ne (by omega), List.getElem?_set_self (by simp; omega)]
  · rw [List.getElem?_set_ne (by omega), List.getElem?_set_self (by simp; omega)]
  · rw [List.getElem?_set_ne (by omega), List.getElem?_set_ne (by omega), List.getElem?_set_ne (by omega), List.getElem?_set_ne (by omega), at_ap (by omega)]; exact n6
  · rw [List.getElem?_set_self (by simp; omega)]; rfl

def besR (t : List Pt) : AV := if is1 t then .tup [resL (bcut t), I (prc t (bcut t)), I 0] else .tup [.nils, I 0, I 3]
/-- what the best cut is handed on as -/
def BesP (t : List Pt) (r : AV) (h : List AO) : Prop := if is1 t then ∃ fv, r = .tup [fv, I (prc t (bcut t)), I 0] ∧ RdS h fv (bcut t) else r = .tup [.nils, I 0, I 3]
theorem BesP.view {t : List Pt} {r : AV} {h : List AO} (B : BesP t r h) : Am.view false h 8 r = some (besR t) := by
  unfold BesP at B
  unfold besR
  cases h1 : is1 t
  · rw [h1] at B
    simp only [Bool.false_eq_true, if_false] at B ⊢
    rw [B]; rfl
  · rw [h1] at B
    simp only [if_true] at B ⊢
    obtain ⟨fv, rfl, rd⟩ := B
    have vw := rd.view (st := false) (k := 6)
    show ([fv, I (prc t (bcut t)), I 0].mapM (Am.view false h 7)).map AV.tup = _
    simp only [List.mapM_cons, List.mapM_nil, view_int, vw]
    rfl
set_option maxHeartbeats 4000000 in
theorem rg85 (H : TbOk t v) (T : TW t) {TS : List AV} (Q : Tb TS) (q11 : TS.getD 11 .undef = .fn 120 [v] []) :
    G ⟨E, 0, none, 85, Done 0 [.cell false 1 2, .cell false 1 3, .cell false 1 4] fun r h' => BesP t r h'⟩ (.rangeFunc (.t 11) [12] As85 Bd85) [.block 0, .seq ((ACode.region 0 [oQ 31 (.load false 1 (.t 5)), oQ 32 (.loadR false 1 (.t 6) 6), ⟨none, .storeR 1 (.t 2) (.t 31) [6], none, none, []⟩, ⟨none, .store 1 (.t 3) (.t 32), none, none, []⟩, ⟨none, .store 1 (.t 4) (.c (I 0)), none, none, []⟩]).seq .ret)] TS
      [.cells [v] false, .cells [.nils] false, .cells [I 0] false, .cells [I 0] false, .cells [.nils] false, .cells [I (-1)] false] [] := by
  obtain ⟨LO, hLO⟩ : ∃ LO, LO = AO.loop .ready none 85 TS [12] As85 Bd85 6 := ⟨_, rfl⟩
  have S0 : Lb t v TS [] [.cells [v] false, .cells [.nils] false, .cells [I 0] false, .cells [I 0] false, .cells [.nils] false, .cells [I (-1)] false, .dfr, LO] :=
    ⟨rfl, rfl, rfl, rfl, ⟨.nils, -1, rfl, rfl, .inl ⟨rfl, rfl⟩⟩, rfl, by rw [hLO]; rfl⟩
  refine G_range_of rfl (show Opd.ev TS (.t 11) = _ from q11) ?_
  cases h1 : is1 t
  · obtain ⟨h', hr, k1, k2, k3, k6, k7⟩ := lb_none H T h1 Q S0
    obtain ⟨r, h2, hr2, rfl⟩ := r120z H T.n hr
    rw [hLO] at hr2
    refine ⟨r, h2, .done, some .ret, 85, TS, [12], As85, Bd85, 6, hr2, k7, .inr rfl, ?_⟩
    simp only [Option.getD_some, GE_ret]
    obtain ⟨h4, hh4⟩ : ∃ h4, h4 = h2.set (([.cells [v] false, .cells [.nils] false, .cells [I 0] false, .cells [I 0] false, .cells [.nils] false, .cells [I (-1)] false] : List AO).length + 1) (AO.loop .exhausted (some .ret) 85 TS [12] As85 Bd85 6) := ⟨_, rfl⟩
    rw [← hh4, lit_all Q.l]
    have d1 : h4[1]? = some (.cells [.nils] false) := by rw [hh4, List.getElem?_set_ne (by simp)]; exact k1
    have d2 : h4[2]? = some (.cells [I 0] false) := by rw [hh4, List.getElem?_set_ne (by simp)]; exact k2
    have d3 : h4[3]? = some (.cells [I 3] false) := by rw [hh4, List.getElem?_set_ne (by simp)]; exact k3
    have d6 : h4[6]? = some .dfr := by rw [hh4, List.getElem?_set_ne (by simp)]; exact k6
    have e1 : (h4.set 6 .tomb)[1]? = some (.cells [.nils] false) := by rw [List.getElem?_set_ne (by omega)]; exact d1
    have e2 : (h4.set 6 .tomb)[2]? = some (.cells [I 0] false) := by rw [List.getElem?_set_ne (by omega)]; exact d2
    have e3 : (h4.set 6 .tomb)[3]? = some (.cells [I 3] false) := by rw [List.getElem?_set_ne (by omega)]; exact d3
    have q2 := Q.q2; have q3 := Q.q3; have q4 := Q.q4
    simp only [lit0, litS, Nat.reduceAdd, q2, q3, q4]
    simp (disch := first | assumption | omega | (simp only [az]; done)) only [ru, eq_self, if_true, if_false, BEq.rfl, binI, AO.row?, splice, fillL, mmAll, loadV, storeV, zeros, Am.rowAt, Am.part, addOff, Nat.reduceAdd, Nat.reduceMul, Nat.reduceLeDiff, Nat.reduceSub, Nat.reduceLT, Int.reduceEq, Int.reduceLT, Int.reduceLE, Int.reduceGT, Int.reduceGE, Int.reduceAdd, Int.reduceSub, Int.reduceMul, Int.reduceNeg, Int.reduceToNat, reduceCtorEq, reduceIte]
    refine finM (h' := h4.set 6 .tomb) (vs := [.nils, I 0, I 3]) (.inr rfl) (by simp) ?_ ?_ ?_
    · simp only [takeMarks, List.length_cons, List.length_nil, d6]
    · simp (disch := first | assumption | omega | (simp only [az]; done)) only [ru, eq_self, if_true, if_false, BEq.rfl, binI, AO.row?, splice, fillL, mmAll, loadV, storeV, zeros, Am.rowAt, Am.part, addOff, Nat.reduceAdd, Nat.reduceMul, Nat.reduceLeDiff, Nat.reduceSub, Nat.reduceLT, Int.reduceEq, Int.reduceLT, Int.reduceLE, Int.reduceGT, Int.reduceGE, Int.reduceAdd, Int.reduceSub, Int.reduceMul, Int.reduceNeg, Int.reduceToNat, reduceCtorEq, reduceIte, List.mapM_cons, List.mapM_nil, getRes, e1, e2, e3, Option.bind_eq_bind, Option.pure_def, Option.bind_some]
    · simp only [BesP, h1, Bool.false_eq_true, if_false]
  · obtain ⟨r, h3, hr, S⟩ := r120 H T.n (o := 7) (lim := 0) (Lb t v TS) (fun D h X S => S.app X) (fun D h S => (List.getElem?_eq_some_iff.1 S.a7).1)
      (fun D F fv h S rd hF => lb_step H T h1 Q S rd (by have := cut_len (okE_cut.1 hF); have := T.n; omega)) S0
    rw [hLO] at hr
    refine ⟨r, h3, .ready, none, 85, TS, [12], As85, Bd85, 6, hr, S.a7, .inl rfl, ?_⟩
    simp only [Option.getD_none, GE_nrm]
    obtain ⟨h4, hh4⟩ : ∃ h4, h4 = h3.set (([.cells [v] false, .cells [.nils] false, .cells [I 0] false, .cells [I 0] false, .cells [.nils] false, .cells [I (-1)] false] : List AO).length + 1) (AO.loop .exhausted none 85 TS [12] As85 Bd85 6) := ⟨_, rfl⟩
    rw [← hh4, lit_all Q.l]
    obtain ⟨fv, g, k4, k5, k8⟩ := S.a4
    have hx : ∃ x, x = bcut t ∧ RdB 8 h3 fv x ∧ g = prc t x := by
      rcases k8 with ⟨e, _⟩ | ⟨x, hx, hr, hg⟩
      · have : cutsU t (t.length + 1) = [] := e
        rw [enm_nil0 (by omega)] at this; cases this
      · have := bcut_some (t := t)
        rw [hx] at this
        exact ⟨x, by cases this; rfl, hr, hg⟩
    obtain ⟨x, rfl, hrd, hg⟩ := hx
    have l7 := (List.getElem?_eq_some_iff.1 S.a7).1
    have l4 : h4.length = h3.length := by rw [hh4]; simp
    have d1 : h4[1]? = some (.cells [.nils] false) := by rw [hh4, List.getElem?_set_ne (by simp)]; exact S.a1
    have d2 : h4[2]? = some (.cells [I 0] false) := by rw [hh4, List.getElem?_set_ne (by simp)]; exact S.a2
    have d3 : h4[3]? = some (.cells [I 0] false) := by rw [hh4, List.getElem?_set_ne (by simp)]; exact S.a3
    have d4 : h4[4]? = some (.cells [fv] false) := by rw [hh4, List.getElem?_set_ne (by simp)]; exact k4
    have d5 : h4[5]? = some (.cells [I g] false) := by rw [hh4, List.getElem?_set_ne (by simp)]; exact k5
    have d6 : h4[6]? = some .dfr := by rw [hh4, List.getElem?_set_ne (by simp)]; exact S.a6
    obtain ⟨c1, c2⟩ := hrd.sc
    have f2 : (h4.set 1 (.cells [fv] false))[2]? = some (.cells [I 0] false) := by rw [List.getElem?_set_ne (by omega)]; exact d2
    have f3 : ((h4.set 1 (.cells [fv] false)).set 2 (.cells [I g] false))[3]? = some (.cells [I 0] false) := by rw [List.getElem?_set_ne (by omega), List.getElem?_set_ne (by omega)]; exact d3
    obtain ⟨h5, hh5⟩ : ∃ h5, h5 = ((h4.set 1 (.cells [fv] false)).set 2 (.cells [I g] false)).set 3 (.cells [I 0] false) := ⟨_, rfl⟩
    have d6' : h5[6]? = some .dfr := by rw [hh5, List.getElem?_set_ne (by omega), List.getElem?_set_ne (by omega), List.getElem?_set_ne (by omega)]; exact d6
    obtain ⟨h6, hh6⟩ : ∃ h6, h6 = h5.set 6 .tomb := ⟨_, rfl⟩
    have e1 : h6[1]? = some (.cells [fv] false) := by rw [hh6, List.getElem?_set_ne (by omega), hh5, List.getElem?_set_ne (by omega), List.getElem?_set_ne (by omega), List.getElem?_set_self (by omega)]
    have e2 : h6[2]? = some (.cells [I g] false) := by rw [hh6, List.getElem?_set_ne (by omega), hh5, List.getElem?_set_ne (by omega), List.getElem?_set_self (by simp; omega)]
    have e3 : h6[3]? = some (.cells [I 0] false) := by rw [hh6, List.getElem?_set_ne (by omega), hh5, List.getElem?_set_self (by simp; omega)]
    have rd6 : RdS h6 fv (bcut t) := by
      rcases hrd with h | ⟨hne, o, sh, hb, e, hc⟩
      · exact .inl h
      · exact .inr ⟨hne, o, sh, e, by rw [hh6, List.getElem?_set_ne (by omega), hh5, List.getElem?_set_ne (by omega), List.getElem?_set_ne (by omega), List.getElem?_set_ne (by omega), hh4, List.getElem?_set_ne (by simp; omega)]; exact hc⟩
    have o1 : (5 == 5) = true := rfl
    have o2 : (1 != 5) = true := rfl
    have o3 : ((5 : Nat) != 1) = true := rfl
    have q2 := Q.q2; have q3 := Q.q3; have q4 := Q.q4; have q5 := Q.q5; have q6 := Q.q6
    simp only [lit0, litS, Nat.reduceAdd, q2, q3, q4, q5, q6]
    simp (disch := first | assumption | omega | (simp only [az]; done)) only [ru, eq_self, if_true, if_false, BEq.rfl, binI, AO.row?, splice, fillL, mmAll, loadV, storeV, zeros, Am.rowAt, Am.part, addOff, Nat.reduceAdd, Nat.reduceMul, Nat.reduceLeDiff, Nat.reduceSub, Nat.reduceLT, Int.reduceEq, Int.reduceLT, Int.reduceLE, Int.reduceGT, Int.reduceGE, Int.reduceAdd, Int.reduceSub, Int.reduceMul, Int.reduceNeg, Int.reduceToNat, reduceCtorEq, reduceIte, d1, d4, d5, f2, f3, c1, c2, exOp_loadR, exOp_storeR, objIs, objNot, o1, o2, o3, ← hh5]
    refine finM (h' := h6) (vs := [fv, I g, I 0]) (.inr rfl) (by simp) ?_ ?_ ?_
    · simp only [takeMarks, List.length_cons, List.length_nil, d6', hh6]
    · simp (disch := first | assumption | omega | (simp only [az]; done)) only [ru, eq_self, if_true, if_false, BEq.rfl, binI, AO.row?, splice, fillL, mmAll, loadV, storeV, zeros, Am.rowAt, Am.part, addOff, Nat.reduceAdd, Nat.reduceMul, Nat.reduceLeDiff, Nat.reduceSub, Nat.reduceLT, Int.reduceEq, Int.reduceLT, Int.reduceLE, Int.reduceGT, Int.reduceGE, Int.reduceAdd, Int.reduceSub, Int.reduceMul, Int.reduceNeg, Int.reduceToNat, reduceCtorEq, reduceIte, List.mapM_cons, List.mapM_nil, getRes, e1, e2, e3, Option.bind_eq_bind, Option.pure_def, Option.bind_some]
    · simp only [BesP, h1, if_true]
      exact ⟨fv, by rw [hg], rd6⟩
theorem r85 (H : TbOk t v) (T : TW t) : ∃ r h', R E (.fn 85) [v] [] 0 = some (r, h') ∧ BesP t r h' := by
  refine R_of (fun r h' => BesP t r h') (es _ _ _ _) e85 ?_
  simp only [fg85, g85]
  simp (disch := first | assumption | omega | (simp only [az]; done)) only [ru, eq_self, if_true, if_false, BEq.rfl, binI, AO.row?, splice, fillL, mmAll, loadV, storeV, zeros, Am.rowAt, Am.part, addOff, Nat.reduceAdd, Nat.reduceMul, Nat.reduceLeDiff, Nat.reduceSub, Nat.reduceLT, Int.reduceEq, Int.reduceLT, Int.reduceLE, Int.reduceGT, Int.reduceGE, Int.reduceAdd, Int.reduceSub, Int.reduceMul, Int.reduceNeg, Int.reduceToNat, reduceCtorEq, reduceIte, lenV_sl H.i, elem_pt H.i, view_sl H.i, scalar_sl H.i, cells_sl H.i, pure_sl H.i, Int.toNat_natCast]
  exact rg85 H T ⟨rfl, rfl, rfl, rfl, rfl, rfl, rfl⟩ rfl
theorem s85 (H : TbOk t v) (T : TW t) : Iso E 85 [v] false = some (besR t) := by
  obtain ⟨r, h', hr, B⟩ := r85 H T
  simp only [Iso, hr]
  exact B.view
theorem c85 (H : TbOk t v) (T : TW t) (Hh : List AO) : ∃ r H', C2 E 85 [v] Hh = some (r, H') ∧ Fr Hh H' ∧ BesP t r H' := by
  obtain ⟨r, h', hr, B⟩ := r85 H T
  refine ⟨_, _, C2_of (by simp only [AV.pureV.go, pure_sl H.i, Bool.and_true]) hr, Fr.app _ _, ?_⟩
  unfold BesP at B ⊢
  cases h1 : is1 t
  · rw [h1] at B
    simp only [Bool.false_eq_true, if_false] at B ⊢
    rw [B]; rfl
  · rw [h1] at B
    simp only [if_true] at B ⊢
    obtain ⟨fv, rfl, rd⟩ := B
    refine ⟨fv.shift Hh.length, rfl, ?_⟩
    rcases rd with ⟨e, rfl⟩ | ⟨hne, o, sh, rfl, hc⟩
    · exact .inl ⟨e, rfl⟩
    · refine .inr ⟨hne, o + Hh.length, sh, rfl, ?_⟩
      rw [List.getElem?_append_right (by omega), Nat.add_sub_cancel, List.getElem?_map, hc]
      simp only [Option.map_some, AO.shift, ints_shift]
/-- a penny more for a part -/
def drr (t : List Pt) (p : Nat) : List Pt := t.set p { t.getD p default with p := (t.getD p default).p + 1 }
theorem drr_len {p : Nat} : (drr t p).length = t.length := by simp [drr]
theorem drr_at {p i : Nat} (hp : p < t.length) : (drr t p).getD i default = if i = p then { t.getD p default with p := (t.getD p default).p + 1 } else t.getD i default := by
  simp only [drr, List.getD_eq_getElem?_getD]
  by_cases e : i = p
  · subst e; rw [List.getElem?_set_self hp, if_pos rfl]; rfl
  · rw [List.getElem?_set_ne (fun h => e h.symm), if_neg e]
theorem drr_W (T : TW t) (h99 : ∀ i, i < t.length → (t.getD i default).p ≤ 99) {p : Nat} (hp : p < t.length) : TW (drr t p) := by
  have L := drr_len (t := t) (p := p)
  refine ⟨⟨by rw [L]; exact T.n, fun i hi => ?_, fun i hi => ?_⟩, fun i hi => ?_, fun i hi => ?_⟩ <;> rw [L] at hi <;> rw [drr_at hp] <;> split
  · rename_i e; subst e; exact T.of i hi
  · exact T.of i hi
  · rename_i e; subst e; exact T.s i hi
  · exact T.s i hi
  · rename_i e; subst e; exact T.w i hi
  · exact T.w i hi
  · rename_i e; subst e; have := T.p i hi; have := h99 i hi
    show 0 ≤ (t.getD i default).p + 1 ∧ (t.getD i default).p + 1 ≤ 100; omega
  · exact T.p i hi
theorem pts_shift (l : List Pt) (n : Nat) : (l.flatMap Pt.e).map (AV.shift n) = l.flatMap Pt.e := by
  induction l with
  | nil => rfl
  | cons a l ih => simp only [List.flatMap_cons, List.map_append, ih]; rfl
theorem c121 (H : TbOk t v) (hne : t ≠ []) (Hh : List AO) : ∃ o H', C2 E 121 [v] Hh = some (.ms 6 o 0 t.length, H') ∧ Fr Hh H' ∧ Hh.length ≤ o ∧ H'[o]? = some (.cells (t.flatMap Pt.e) false) := by
  have sp := H.n
  have V := H.i
  rcases V with rfl | ⟨rfl, e⟩
  · obtain ⟨o, h', A, fr, ho, hc⟩ := cpyO (eb := 48) (lim := 0) (h := ([] : List AO)) (slV_is (esz := 6) (enc := Pt.e) (l := t)) Pt.el Pt.sc (by omega) (by omega) (Nat.zero_le _)
    simp only [slV, apN, len0, List.nil_append, List.length_nil] at A
    have hr : ∃ r h1, R E (.fn 121) [.cs 6 t.length (t.flatMap Pt.e)] [] 0 = some (r, h1) ∧ (r = .ms 6 o 0 t.length ∧ h1 = h') := by
      refine R_of (fun r h1 => r = .ms 6 o 0 t.length ∧ h1 = h') (es _ _ _ _) e121 ?_
      simp only [f121]
      simp (disch := first | assumption | omega | (simp only [az]; done)) only [ru, eq_self, if_true, if_false, BEq.rfl, binI, AO.row?, splice, fillL, mmAll, loadV, storeV, zeros, Am.rowAt, Am.part, addOff, Nat.reduceAdd, Nat.reduceMul, Nat.reduceLeDiff, Nat.reduceSub, Nat.reduceLT, Int.reduceEq, Int.reduceLT, Int.reduceLE, Int.reduceGT, Int.reduceGE, Int.reduceAdd, Int.reduceSub, Int.reduceMul, Int.reduceNeg, Int.reduceToNat, reduceCtorEq, reduceIte, pex_isNil, A]
    obtain ⟨_, _, hr, rfl, rfl⟩ := hr
    refine ⟨o + Hh.length, _, C2_of (by rfl) hr, Fr.app _ _, by omega, ?_⟩
    rw [List.getElem?_append_right (by omega), Nat.add_sub_cancel, List.getElem?_map, hc]
    simp only [Option.map_some, AO.shift, pts_shift]
  · exact absurd e hne
/-- cells of a table: one number of one part -/
theorem pt_put5 {l : List Pt} {i : Nat} (hi : i < l.length) (x : Int) : (l.flatMap Pt.e).take (i * 6 + 5) ++ [I x] ++ (l.flatMap Pt.e).drop (i * 6 + 5 + 1) = (l.set i { l.getD i default with p := x }).flatMap Pt.e := by
  induction l generalizing i with
  | nil => simp at hi
  | cons a l ih =>
    cases i with
    | zero => rfl
    | succ i =>
      have e : (i + 1) * 6 + 5 = (i * 6 + 5) + 6 := by omega
      have := ih (i := i) (by simpa using hi)
      rw [e]
      show I a.of :: I a.w.lo :: I a.w.hi :: I a.s.lo :: I a.s.hi :: I a.p :: ((l.flatMap Pt.e).take (i * 6 + 5) ++ [I x] ++ (l.flatMap Pt.e).drop (i * 6 + 5 + 1)) = _
      rw [this]; rfl
theorem pt_head5 {l : List Pt} {i : Nat} (hi : i < l.length) : ((l.flatMap Pt.e).drop (i * 6 + 5)).head? = some (I (l.getD i default).p) := by
  induction l generalizing i with
  | nil => simp at hi
  | cons a l ih =>
    cases i with
    | zero => rfl
    | succ i =>
      rw [show (i + 1) * 6 + 5 = (i * 6 + 5) + 6 by omega]
      exact ih (i := i) (by simpa using hi)
theorem s88 (H : TbOk t v) (T : TW t) {p : Nat} (hp : p < t.length) : Iso E 88 [v, I p] false = some (slV 6 Pt.e (drr t p)) := by
  have t8 := T.n
  obtain ⟨o, H', hC, fr, ho, hc⟩ := c121 H (by intro e; rw [e] at hp; simp at hp) []
  have hd := pt_head5 hp
  have hpp := T.p p hp
  have hput := pt_put5 hp ((t.getD p default).p + 1)
  obtain ⟨x, hx⟩ : ∃ x, x = (t.getD p default).p := ⟨_, rfl⟩
  rw [← hx] at hd hpp hput
  obtain ⟨Z, hZ⟩ : ∃ Z, Z = t.flatMap Pt.e := ⟨_, rfl⟩
  have zl : Z.length = t.length * 6 := by rw [hZ, flat_len Pt.el]
  rw [← hZ] at hd hput hc
  have fit : p * 6 + 5 + 1 ≤ Z.length := by omega
  have ol := (List.getElem?_eq_some_iff.1 hc).1
  have plt : (p : Int) < t.length := by omega
  have ed : t.set p { t.getD p default with p := x + 1 } = drr t p := by rw [drr, hx]
  rw [ed] at hput
  have vw : ∀ k, view false (H'.set o (.cells ((drr t p).flatMap Pt.e) false)) (k + 1) (.ms 6 o 0 t.length) = some (slV 6 Pt.e (drr t p)) := fun k => by
    have := RdC.view (enc := Pt.e) (esz := 6) (l := drr t p) (h := H'.set o (.cells ((drr t p).flatMap Pt.e) false)) (w := .ms 6 o 0 t.length) ⟨o, by rw [drr_len], by rw [List.getElem?_set_self ol]⟩ Pt.el Pt.iv (st := false) (k := k)
    exact this
  have vw7 := vw 7
  refine Iso_of (es _ _ _ _) e88 ?_
  simp only [f88]
  simp (disch := first | assumption | omega | (simp only [az]; done)) only [ru, eq_self, if_true, if_false, BEq.rfl, binI, AO.row?, splice, fillL, mmAll, loadV, storeV, zeros, Am.rowAt, Am.part, addOff, Nat.reduceAdd, Nat.reduceMul, Nat.reduceLeDiff, Nat.reduceSub, Nat.reduceLT, Int.reduceEq, Int.reduceLT, Int.reduceLE, Int.reduceGT, Int.reduceGE, Int.reduceAdd, Int.reduceSub, Int.reduceMul, Int.reduceNeg, Int.reduceToNat, reduceCtorEq, reduceIte, lenV_sl H.i, elem_pt H.i, view_sl H.i, scalar_sl H.i, cells_sl H.i, pure_sl H.i, Int.toNat_natCast, exOp_call2, hC, elemAt_ms, plt, nn, Int.toNat_natCast, Nat.zero_add, hc, hd, fit, hput, vw7]
def cutO (t : List Pt) : AV := if tval t then (if is1 t then .tup [resL (bcut t), I 0] else .tup [.nils, I 3]) else .tup [.nils, I 70]
theorem s46 (H : TbOk t v) (st : Bool) : Iso E 46 [v] st = some (cutO t) := by
  refine Iso_of (es _ _ _ _) e46 ?_
  simp only [f46, cutO]
  cases hv : tval t
  · simp (disch := first | assumption | omega | (simp only [az]; done)) only [ru, eq_self, if_true, if_false, BEq.rfl, binI, AO.row?, splice, fillL, mmAll, loadV, storeV, zeros, Am.rowAt, Am.part, addOff, Nat.reduceAdd, Nat.reduceMul, Nat.reduceLeDiff, Nat.reduceSub, Nat.reduceLT, Int.reduceEq, Int.reduceLT, Int.reduceLE, Int.reduceGT, Int.reduceGE, Int.reduceAdd, Int.reduceSub, Int.reduceMul, Int.reduceNeg, Int.reduceToNat, reduceCtorEq, reduceIte, lenV_sl H.i, elem_pt H.i, view_sl H.i, scalar_sl H.i, cells_sl H.i, pure_sl H.i, Int.toNat_natCast, s52 H, hv, decide_false, decide_true, Bool.not_false, Bool.false_eq_true]
  have c2 : ∀ {lim : Nat} {pl : Option Nat} {ρ : Opd → AV} {h : List AO} {f : Nat} {args : List Opd}, exOp (R E) lim pl ρ h (.call 2 f args) = C2 E f (args.map ρ) h := exOp_call2
  obtain ⟨r, H', hC, fr, B⟩ := c85 H (tval_W hv) []
  unfold BesP at B
  cases h1 : is1 t
  · simp only [h1, Bool.false_eq_true, if_false] at B
    rw [B] at hC
    simp (disch := first | assumption | omega | (simp only [az]; done)) only [ru, eq_self, if_true, if_false, BEq.rfl, binI, AO.row?, splice, fillL, mmAll, loadV, storeV, zeros, Am.rowAt, Am.part, addOff, Nat.reduceAdd, Nat.reduceMul, Nat.reduceLeDiff, Nat.reduceSub, Nat.reduceLT, Int.reduceEq, Int.reduceLT, Int.reduceLE, Int.reduceGT, Int.reduceGE, Int.reduceAdd, Int.reduceSub, Int.reduceMul, Int.reduceNeg, Int.reduceToNat, reduceCtorEq, reduceIte, lenV_sl H.i, elem_pt H.i, view_sl H.i, scalar_sl H.i, cells_sl H.i, pure_sl H.i, Int.toNat_natCast, s52 H, hv, c2, hC, decide_false, decide_true, Bool.not_true, Bool.false_eq_true]
    done
  · simp only [h1, if_true] at B
    obtain ⟨fv, rfl, rd⟩ := B
    have vw := rd.view (st := st) (k := 6)
    obtain ⟨_, q1, q2⟩ := rd.len
    simp (disch := first | assumption | omega | (simp only [az]; done)) only [ru, eq_self, if_true, if_false, BEq.rfl, binI, AO.row?, splice, fillL, mmAll, loadV, storeV, zeros, Am.rowAt, Am.part, addOff, Nat.reduceAdd, Nat.reduceMul, Nat.reduceLeDiff, Nat.reduceSub, Nat.reduceLT, Int.reduceEq, Int.reduceLT, Int.reduceLE, Int.reduceGT, Int.reduceGE, Int.reduceAdd, Int.reduceSub, Int.reduceMul, Int.reduceNeg, Int.reduceToNat, reduceCtorEq, reduceIte, lenV_sl H.i, elem_pt H.i, view_sl H.i, scalar_sl H.i, cells_sl H.i, pure_sl H.i, Int.toNat_natCast, s52 H, hv, c2, hC, vw, q1, q2, decide_false, decide_true, Bool.not_true]
    done
theorem prc_le (T : TW t) (h1 : is1 t = true) {l : List Int} : prc t l ≤ 765000 := by
  obtain ⟨x, hx⟩ := LstT_some (r := rS t l) T.toTG h1
  have bx := smS_bd (K := 3000) (by omega) (cT_bd T (rS_b T (l := l))) t.length x hx
  have pw := pow2_le T.n
  have p3 : ((2 : Int) ^ t.length - 1) * 3000 ≤ 255 * 3000 := Int.mul_le_mul_of_nonneg_right pw.1 (by omega)
  have : prc t l = x := by rw [prc, loV, hx]; rfl
  omega
theorem drr_can {p : Nat} (hp : p < t.length) (i : Int) : canC (drr t p) i = canC t i := by
  have key : ∀ (a b : List Pt), a.length = b.length → (∀ j, (a.getD j default).of = (b.getD j default).of) → canC a i = true → canC b i = true := fun a b hl ha h => by
    simp only [canC, List.any_eq_true, decide_eq_true_eq] at h ⊢
    obtain ⟨x, hx, e⟩ := h
    obtain ⟨j, hj, rfl⟩ := mem_getD (d := default) hx
    exact ⟨b.getD j default, getD_mem (by omega), by rw [← ha j]; exact e⟩
  have hof : ∀ j, ((drr t p).getD j default).of = (t.getD j default).of := fun j => by
    rw [drr_at hp]; split
    · rename_i e; subst e; rfl
    · rfl
  rw [Bool.eq_iff_iff]
  exact ⟨key _ _ drr_len hof, key _ _ drr_len.symm fun j => (hof j).symm⟩
theorem drr_of {p : Nat} (hp : p < t.length) (j : Nat) : ((drr t p).getD j default).of = (t.getD j default).of ∧ ((drr t p).getD j default).w = (t.getD j default).w ∧ ((drr t p).getD j default).s = (t.getD j default).s := by
  rw [drr_at hp]; split
  · rename_i e; subst e; exact ⟨rfl, rfl, rfl⟩
  · exact ⟨rfl, rfl, rfl⟩
theorem pcs_of {a b : List Pt} (h : ∀ j, (a.getD j default).of = (b.getD j default).of) {u : Nat → Int} {p : Nat} : ∀ {j : Nat}, pcs a u p j = pcs b u p j
  | 0 => rfl
  | j + 1 => by simp only [pcs, pcs_of h (j := j), h j]
theorem tru_same {a b : List Pt} (hl : a.length = b.length) (hc : ∀ i, canC a i = canC b i) (h : ∀ j, (a.getD j default).of = (b.getD j default).of ∧ (a.getD j default).w = (b.getD j default).w ∧ (a.getD j default).s = (b.getD j default).s) {u : Nat → Int} : TruF a u ↔ TruF b u := by
  have hw : ∀ i : Nat, wst a i = wst b i := fun i => by unfold wst; rw [hc, (h i).2.2]
  have hp : ∀ i, pcs a u i a.length = pcs b u i b.length := fun i => by rw [hl]; exact pcs_of fun j => (h j).1
  constructor
  · rintro ⟨h1, h2⟩
    exact ⟨fun i hi => by have := h1 i (by omega); rw [hw, hp] at this; exact this, fun i hi => by have := h2 i (by omega); rw [(h i).2.1] at this; exact this⟩
  · rintro ⟨h1, h2⟩
    exact ⟨fun i hi => by have := h1 i (by omega); rw [hw, hp]; exact this, fun i hi => by have := h2 i (by omega); rw [(h i).2.1]; exact this⟩
theorem drr_tru {p : Nat} (hp : p < t.length) {u : Nat → Int} : TruF (drr t p) u ↔ TruF t u := tru_same drr_len (drr_can hp) (drr_of hp)
theorem drr_is1 (T : TW t) (h99 : ∀ i, i < t.length → (t.getD i default).p ≤ 99) {p : Nat} (hp : p < t.length) : is1 (drr t p) = is1 t := by
  rw [Bool.eq_iff_iff, is1_iff (drr_W T h99 hp).toTG, is1_iff T.toTG]
  exact ⟨fun ⟨u, h⟩ => ⟨u, (drr_tru hp).1 h⟩, fun ⟨u, h⟩ => ⟨u, (drr_tru hp).2 h⟩⟩
def gain (t : List Pt) (p : Nat) : Int := prc (drr t p) (bcut (drr t p)) - prc t (bcut t)
def gaiR (t : List Pt) (i : Int) : AV := if tval t then (if inR i 0 (t.length - 1) then (if is1 t then .tup [I (gain t i.toNat), I 0] else .tup [I 0, I 3]) else .tup [I 0, I 1]) else .tup [I 0, I 70]
theorem s48 (H : TbOk t v) (i : Int) (st : Bool) : Iso E 48 [v, I i] st = some (gaiR t i) := by
  have g := fun st => s69 H i st
  refine Iso_of (es _ _ _ _) e48 ?_
  simp only [f48, gaiR]
  cases hv : tval t
  · simp only [hv, aC, Bool.false_eq_true, if_false] at g
    simp (disch := first | assumption | omega | (simp only [az]; done)) only [ru, eq_self, if_true, if_false, BEq.rfl, binI, AO.row?, splice, fillL, mmAll, loadV, storeV, zeros, Am.rowAt, Am.part, addOff, Nat.reduceAdd, Nat.reduceMul, Nat.reduceLeDiff, Nat.reduceSub, Nat.reduceLT, Int.reduceEq, Int.reduceLT, Int.reduceLE, Int.reduceGT, Int.reduceGE, Int.reduceAdd, Int.reduceSub, Int.reduceMul, Int.reduceNeg, Int.reduceToNat, reduceCtorEq, reduceIte, lenV_sl H.i, elem_pt H.i, view_sl H.i, scalar_sl H.i, cells_sl H.i, pure_sl H.i, Int.toNat_natCast, g, decide_false, decide_true, Bool.not_false, Bool.false_eq_true]
  have T := tval_W hv
  have h99 := (tval_iff.1 hv).2
  have n8 := T.n
  cases hq : inR i 0 (t.length - 1)
  · simp only [hv, hq, aC, Bool.false_eq_true, if_false, if_true] at g
    simp (disch := first | assumption | omega | (simp only [az]; done)) only [ru, eq_self, if_true, if_false, BEq.rfl, binI, AO.row?, splice, fillL, mmAll, loadV, storeV, zeros, Am.rowAt, Am.part, addOff, Nat.reduceAdd, Nat.reduceMul, Nat.reduceLeDiff, Nat.reduceSub, Nat.reduceLT, Int.reduceEq, Int.reduceLT, Int.reduceLE, Int.reduceGT, Int.reduceGE, Int.reduceAdd, Int.reduceSub, Int.reduceMul, Int.reduceNeg, Int.reduceToNat, reduceCtorEq, reduceIte, lenV_sl H.i, elem_pt H.i, view_sl H.i, scalar_sl H.i, cells_sl H.i, pure_sl H.i, Int.toNat_natCast, g, decide_false, decide_true, Bool.not_false, Bool.false_eq_true]
  simp only [hv, hq, aC, if_true] at g
  obtain ⟨i0, i1⟩ := inR_iff.1 hq
  obtain ⟨n, rfl⟩ : ∃ n : Nat, i = n := ⟨i.toNat, by omega⟩
  have hn : n < t.length := by omega
  have T2 := drr_W T h99 hn
  have g1 := s85 H T
  have g2 := s88 H T hn
  have H2 : TbOk (drr t n) (slV 6 Pt.e (drr t n)) := ⟨slV_is, by rw [drr_len]; exact H.n⟩
  have g3 := s85 H2 T2
  have e1 := drr_is1 T h99 hn
  obtain ⟨dv, hdv⟩ : ∃ dv, dv = slV 6 Pt.e (drr t n) := ⟨_, rfl⟩
  rw [← hdv] at g2 g3 H2
  simp only [besR, e1] at g1 g3
  have vs := fun h k => view_sl (resL_is (bcut t)) h k
  have vs2 := fun h k => view_sl (resL_is (bcut (drr t n))) h k
  cases h1 : is1 t
  · simp only [h1, Bool.false_eq_true, if_false] at g1 g3
    simp (disch := first | assumption | omega | (simp only [az]; done)) only [ru, eq_self, if_true, if_false, BEq.rfl, binI, AO.row?, splice, fillL, mmAll, loadV, storeV, zeros, Am.rowAt, Am.part, addOff, Nat.reduceAdd, Nat.reduceMul, Nat.reduceLeDiff, Nat.reduceSub, Nat.reduceLT, Int.reduceEq, Int.reduceLT, Int.reduceLE, Int.reduceGT, Int.reduceGE, Int.reduceAdd, Int.reduceSub, Int.reduceMul, Int.reduceNeg, Int.reduceToNat, reduceCtorEq, reduceIte, lenV_sl H.i, elem_pt H.i, view_sl H.i, scalar_sl H.i, cells_sl H.i, pure_sl H.i, Int.toNat_natCast, lenV_sl H2.i, elem_pt H2.i, view_sl H2.i, scalar_sl H2.i, cells_sl H2.i, pure_sl H2.i, Int.toNat_natCast, g, g1, g2, g3, decide_false, decide_true, Bool.not_true, Bool.false_eq_true, Int.sub_zero]
  · simp only [h1, if_true] at g1 g3
    have b1 := prc_nn T h1 (l := bcut t)
    have b2 := prc_le T h1 (l := bcut t)
    have b3 := prc_nn T2 (e1.trans h1) (l := bcut (drr t n))
    have b4 := prc_le T2 (e1.trans h1) (l := bcut (drr t n))
    simp (disch := first | assumption | omega | (simp only [az]; done)) only [ru, eq_self, if_true, if_false, BEq.rfl, binI, AO.row?, splice, fillL, mmAll, loadV, storeV, zeros, Am.rowAt, Am.part, addOff, Nat.reduceAdd, Nat.reduceMul, Nat.reduceLeDiff, Nat.reduceSub, Nat.reduceLT, Int.reduceEq, Int.reduceLT, Int.reduceLE, Int.reduceGT, Int.reduceGE, Int.reduceAdd, Int.reduceSub, Int.reduceMul, Int.reduceNeg, Int.reduceToNat, reduceCtorEq, reduceIte, lenV_sl H.i, elem_pt H.i, view_sl H.i, scalar_sl H.i, cells_sl H.i, pure_sl H.i, Int.toNat_natCast, lenV_sl H2.i, elem_pt H2.i, view_sl H2.i, scalar_sl H2.i, cells_sl H2.i, pure_sl H2.i, Int.toNat_natCast, g, g1, g2, g3, vs, vs2, decide_false, decide_true, Bool.not_true, Int.toNat_natCast, gain]
end
end Go.Proofs.Yteonklnjchefiaa.S

/-
Costs as rows of numbers in a heap (specification).
-/
namespace Go.Proofs.Yteonklnjchefiaa.S
open Go Go.Am Go.Proofs.Yteonklnjchefiaa.T
set_option maxRecDepth 100000
set_option linter.unusedSimpArgs false
set_option linter.unusedVariables false

theorem exOp_mk {lim : Nat} {ρ : Opd → AV} {h : List AO} {esz eb : Nat} {zero : List AV} {x y : Opd} :
    exOp (R E) lim none ρ h (.makeSlice false esz eb zero x y) = match ρ x, ρ y with
      | .int _ a, .int _ b => if 0 ≤ a ∧ a ≤ b ∧ eb * b ≤ 140737488355328 ∧ 1 ≤ eb then some (.ms esz h.length 0 a.toNat, h ++ [.cells (zeros a.toNat zero) false]) else none
      | _, _ => none := by
  simp only [exOp]; rfl
theorem zeros31 : (List.replicate 31 [I 0]).flatten = rw_ 31 fun _ => 0 := by kernel_rfl
theorem lit31 : (rw_ 31 fun _ => 0) = [I 0, I 0, I 0, I 0, I 0, I 0, I 0, I 0, I 0, I 0, I 0, I 0, I 0, I 0, I 0, I 0, I 0, I 0, I 0, I 0, I 0, I 0, I 0, I 0, I 0, I 0, I 0, I 0, I 0, I 0, I 0] := by kernel_rfl
abbrev NV : Int := 1099511627776
theorem r97 {h : List AO} {lim : Nat} (hl : lim ≤ h.length) : R E (.fn 97) [] h lim = some (.ms 1 h.length 0 31, h ++ [.cells (rw_ 31 fun _ => NV) false]) := by
  refine (fun x => ?_ : (∃ r h', R E (.fn 97) [] h lim = some (r, h') ∧ (r = .ms 1 h.length 0 31 ∧ h' = h ++ [.cells (rw_ 31 fun _ => NV) false])) → _) (R_of _ (es _ _ _ _) e97 ?_)
  · obtain ⟨r, h', hr, rfl, rfl⟩ := x; exact hr
  simp only [f97]
  have c1 : (0 : Int) ≤ 31 ∧ (31 : Int) ≤ 31 ∧ ((8 : Nat) : Int) * 31 ≤ 140737488355328 ∧ 1 ≤ 8 := by omega
  have c2 : (31 : Int).toNat = 31 := rfl
  have d1 : (0 : Int) ≤ 31 ∧ (31 : Int) ≤ 31 ∧ (8 : Int) * 31 ≤ 140737488355328 ∧ (1 : Nat) ≤ 8 := by omega
  simp (disch := first | assumption | omega | (simp only [az]; done)) only [ru, eq_self, if_true, if_false, BEq.rfl, binI, AO.row?, splice, fillL, mmAll, loadV, storeV, zeros, Am.rowAt, Am.part, addOff, Nat.reduceAdd, Nat.reduceMul, Nat.reduceLeDiff, Nat.reduceSub, Nat.reduceLT, Int.reduceEq, Int.reduceLT, Int.reduceLE, Int.reduceGT, Int.reduceGE, Int.reduceAdd, Int.reduceSub, Int.reduceMul, Int.reduceNeg, Int.reduceToNat, reduceCtorEq, reduceIte, exOp_mk, c2, zeros31]
  refine G_loop_ind (fun m ts hh mk => ∃ i : Nat, i ≤ 31 ∧ m = 31 - i ∧ ts.length = 14 ∧ ts.getD 1 .undef = .ms 1 h.length 0 31 ∧ ts.getD 2 .undef = I i ∧ hh = h ++ [.cells (rw_ 31 fun b => if b < i then NV else 0) false] ∧ mk = []) ?_ _ _ _ _
    ⟨0, by omega, rfl, rfl, rfl, rfl, rfl, rfl⟩
  rintro m ts hh mk ih ⟨i, hi, rfl, hl', q1, q2, rfl, rfl⟩
  rw [lit_all hl']
  simp only [lit0, litS, Nat.reduceAdd, q1, q2]
  have l31 : ((31 : Nat) : Int) = 31 := rfl
  by_cases hlt : (i : Int) < 31
  case neg =>
    obtain rfl : i = 31 := by omega
    have e : (rw_ 31 fun b => if b < 31 then NV else 0) = rw_ 31 fun _ => NV := rw_congr fun b hb => if_pos hb
    rw [e]
    simp (disch := first | assumption | omega | (simp only [az]; done)) only [ru, eq_self, if_true, if_false, BEq.rfl, binI, AO.row?, splice, fillL, mmAll, loadV, storeV, zeros, Am.rowAt, Am.part, addOff, Nat.reduceAdd, Nat.reduceMul, Nat.reduceLeDiff, Nat.reduceSub, Nat.reduceLT, Int.reduceEq, Int.reduceLT, Int.reduceLE, Int.reduceGT, Int.reduceGE, Int.reduceAdd, Int.reduceSub, Int.reduceMul, Int.reduceNeg, Int.reduceToNat, reduceCtorEq, reduceIte, l31, hlt, decide_false]
  have hi2 : i < 31 := by omega
  obtain ⟨Z, hZ⟩ : ∃ Z, Z = rw_ 31 fun b => if b < i then NV else 0 := ⟨_, rfl⟩
  have zp : Z.take i ++ I NV :: Z.drop (i + 1) = rw_ 31 fun b => if b < i + 1 then NV else 0 := by
    have : Z.take i ++ [I NV] ++ Z.drop (i + 1) = rw_ 31 fun b => if b < i + 1 then NV else 0 := by
      rw [hZ]
      refine rw_put hi2 fun b hb => ?_
      by_cases e : b = i
      · subst e; rw [if_pos rfl, if_pos (by omega)]
      · rw [if_neg e]; by_cases e2 : b < i
        · rw [if_pos e2, if_pos (by omega)]
        · rw [if_neg e2, if_neg (by omega)]
    simpa using this
  have zl : Z.length = 31 := by rw [hZ, rw_len]
  have fit : i + 1 ≤ Z.length := by omega
  rw [← hZ]
  simp (disch := first | assumption | omega | (simp only [az]; done)) only [ru, eq_self, if_true, if_false, BEq.rfl, binI, AO.row?, splice, fillL, mmAll, loadV, storeV, zeros, Am.rowAt, Am.part, addOff, Nat.reduceAdd, Nat.reduceMul, Nat.reduceLeDiff, Nat.reduceSub, Nat.reduceLT, Int.reduceEq, Int.reduceLT, Int.reduceLE, Int.reduceGT, Int.reduceGE, Int.reduceAdd, Int.reduceSub, Int.reduceMul, Int.reduceNeg, Int.reduceToNat, reduceCtorEq, reduceIte, l31, hlt, decide_true, elemAt_ms, nn, Int.toNat_natCast, Nat.mul_one, Nat.zero_add, List.append_assoc, lenE, setT, setT0, atT, atT0, fit, hl, zp]
  exact ih (31 - (i + 1)) _ _ _ (by omega) ⟨i + 1, by omega, rfl, rfl, rfl, rfl, rfl, rfl⟩

/-- rows of 31 numbers in a heap, each of its own -/
def ptrs (n : Nat) (q : Nat → Nat) : List AV := (List.range n).map fun i => AV.ms 1 (q i) 0 31
theorem ptrs_len {n : Nat} {q : Nat → Nat} : (ptrs n q).length = n := by simp [ptrs]
theorem ptrs_head {n : Nat} {q : Nat → Nat} {i : Nat} (h : i < n) : ((ptrs n q).drop i).head? = some (.ms 1 (q i) 0 31) := by
  rw [List.head?_drop]; simp [ptrs, h]
theorem ptrs_succ {n : Nat} {q : Nat → Nat} {r : Nat} : ptrs n q ++ [AV.ms 1 r 0 31] = ptrs (n + 1) fun i => if i = n then r else q i := by
  simp only [ptrs, List.range_succ, List.map_append, List.map_cons, List.map_nil, if_true]
  congr 1
  exact List.map_congr_left fun i hi => by rw [if_neg (by have := List.mem_range.1 hi; omega)]
theorem set_td {l : List AV} {i : Nat} (h : i < l.length) {x : AV} : l.take i ++ x :: l.drop (i + 1) = l.set i x := by
  induction l generalizing i with
  | nil => simp at h
  | cons a l ih =>
    cases i with
    | zero => rfl
    | succ i =>
      simp only [List.take_succ_cons, List.drop_succ_cons, List.set_cons_succ, List.cons_append]
      rw [ih (by simpa using h)]
theorem ptrs_put {n : Nat} {q : Nat → Nat} {i r : Nat} (h : i < n) : (ptrs n q).take i ++ AV.ms 1 r 0 31 :: (ptrs n q).drop (i + 1) = ptrs n fun j => if j = i then r else q j := by
  rw [set_td (by rw [ptrs_len]; exact h)]
  refine List.ext_getElem (by simp [ptrs]) fun k h1 h2 => ?_
  simp only [ptrs, List.getElem_set, List.getElem_map, List.getElem_range]
  by_cases e : i = k
  · subst e; simp
  · rw [if_neg e, if_neg (fun h => e h.symm)]
/-- a table of costs in a heap, at objects from b to e -/
structure TabN (b e : Nat) (h : List AO) (n o : Nat) (q : Nat → Nat) (f : Nat → Nat → Int) : Prop where
  ob : b ≤ o ∧ o < e
  oc : h[o]? = some (.cells (ptrs n q) false)
  rows : ∀ i, i < n → (b ≤ q i ∧ q i < e) ∧ q i ≠ o ∧ h[q i]? = some (.cells (rw_ 31 (f i)) false)
  inj : ∀ i j, i < n → j < n → q i = q j → i = j
def TabH (b e : Nat) (h : List AO) (w : AV) (n : Nat) (f : Nat → Nat → Int) : Prop := (n = 0 ∧ w = .nils) ∨ (0 < n ∧ ∃ o q, w = .ms 1 o 0 n ∧ TabN b e h n o q f)
theorem TabN.fr {b e : Nat} {h h' : List AO} {n o : Nat} {q : Nat → Nat} {f : Nat → Nat → Int} (T : TabN b e h n o q f) (F : ∀ j, b ≤ j → j < e → h'[j]? = h[j]?) : TabN b e h' n o q f :=
  ⟨T.ob, (F _ T.ob.1 T.ob.2).trans T.oc, fun i hi => ⟨(T.rows i hi).1, (T.rows i hi).2.1, (F _ (T.rows i hi).1.1 (T.rows i hi).1.2).trans (T.rows i hi).2.2⟩, T.inj⟩
theorem TabN.up {b e b' e' : Nat} {h : List AO} {n o : Nat} {q : Nat → Nat} {f : Nat → Nat → Int} (T : TabN b e h n o q f) (hb : b' ≤ b) (he : e ≤ e') : TabN b' e' h n o q f :=
  ⟨⟨by have := T.ob; omega, by have := T.ob; omega⟩, T.oc, fun i hi => ⟨by have := (T.rows i hi).1; omega, (T.rows i hi).2⟩, T.inj⟩
/-- a number of a row is written -/
theorem TabN.put {b e : Nat} {h : List AO} {n o : Nat} {q : Nat → Nat} {f g : Nat → Nat → Int} (T : TabN b e h n o q f) {i : Nat} (hi : i < n) (hg : ∀ k, k < n → k ≠ i → ∀ b, b < 31 → g k b = f k b) : TabN b e (h.set (q i) (.cells (rw_ 31 (g i)) false)) n o q g := by
  have ti := T.rows i hi
  have il := (List.getElem?_eq_some_iff.1 ti.2.2).1
  refine ⟨T.ob, by rw [List.getElem?_set_ne ti.2.1]; exact T.oc, fun k hk => ⟨(T.rows k hk).1, (T.rows k hk).2.1, ?_⟩, T.inj⟩
  by_cases e : k = i
  · subst e; rw [List.getElem?_set_self il]
  · rw [List.getElem?_set_ne (fun h => e (T.inj k i hk hi h.symm)), (T.rows k hk).2.2]
    rw [rw_congr (hg k hk e)]
def rowsL (n : Nat) (f : Nat → Nat → Int) : List (List Int) := (List.range n).map fun i => rng 31 (f i)
theorem rowsL_len {n : Nat} {f : Nat → Nat → Int} : (rowsL n f).length = n := by simp [rowsL]
theorem rowsL_at {n : Nat} {f : Nat → Nat → Int} {i : Nat} (h : i < n) : (rowsL n f).getD i [] = rng 31 (f i) := by
  simp [rowsL, List.getD_eq_getElem?_getD, h]
theorem TabN.view {b e : Nat} {h : List AO} {n o : Nat} {q : Nat → Nat} {f : Nat → Nat → Int} (T : TabN b e h n o q f) (h0 : 0 < n) (st : Bool) (k : Nat) : Am.view st h (k + 2) (.ms 1 o 0 n) = some (resLL (rowsL n f)) := by
  refine OutLL.view (b := 0) (.inr ⟨fun e => by have := congrArg List.length e; rw [rowsL_len] at this; simp at this; omega, o, ptrs n q, Nat.zero_le _, by rw [rowsL_len], T.oc, by rw [ptrs_len, rowsL_len], fun i hi => ?_⟩) st
  rw [rowsL_len] at hi
  have ti := (T.rows i hi).2.2
  have e1 : (ptrs n q).getD i .undef = .ms 1 (q i) 0 31 := by simp [ptrs, List.getD_eq_getElem?_getD, hi]
  rw [e1, rowsL_at hi]
  exact .inr ⟨by intro e; have := congrArg List.length e; rw [rng_len] at this; simp at this, q i, false, by rw [rng_len], ti⟩
theorem TabH.view {b e : Nat} {h : List AO} {w : AV} {n : Nat} {f : Nat → Nat → Int} (T : TabH b e h w n f) (st : Bool) (k : Nat) : Am.view st h (k + 2) w = some (resLL (rowsL n f)) := by
  rcases T with ⟨rfl, rfl⟩ | ⟨h0, o, q, rfl, T⟩
  · rw [view_nils]; rfl
  · exact T.view h0 st k
theorem TabH.fr {b e : Nat} {h h' : List AO} {w : AV} {n : Nat} {f : Nat → Nat → Int} (T : TabH b e h w n f) (F : ∀ j, b ≤ j → j < e → h'[j]? = h[j]?) : TabH b e h' w n f := by
  rcases T with h1 | ⟨h0, o, q, e, T⟩
  · exact .inl h1
  · exact .inr ⟨h0, o, q, e, T.fr F⟩
theorem TabH.sc {b e : Nat} {h : List AO} {w : AV} {n : Nat} {f : Nat → Nat → Int} (T : TabH b e h w n f) : w.cells = [w] ∧ w.scalar = true := by
  rcases T with ⟨_, rfl⟩ | ⟨_, o, q, rfl, _⟩ <;> exact ⟨rfl, rfl⟩

section
variable {t : List Pt} {v : AV}
set_option maxHeartbeats 1000000 in
theorem r116 (H : TbOk t v) {h : List AO} {lim : Nat} (hl : lim ≤ h.length) : ∃ w h', R E (.fn 116) [v] h lim = some (w, h') ∧ Fr h h' ∧ TabH h.length h'.length h' w t.length fun _ _ => 0 := by
  have sp := H.n
  refine R_of (fun w h' => Fr h h' ∧ TabH h.length h'.length h' w t.length fun _ _ => 0) (es _ _ _ _) e116 ?_
  simp only [f116]
  simp (disch := first | assumption | omega | (simp only [az]; done)) only [ru, eq_self, if_true, if_false, BEq.rfl, binI, AO.row?, splice, fillL, mmAll, loadV, storeV, zeros, Am.rowAt, Am.part, addOff, Nat.reduceAdd, Nat.reduceMul, Nat.reduceLeDiff, Nat.reduceSub, Nat.reduceLT, Int.reduceEq, Int.reduceLT, Int.reduceLE, Int.reduceGT, Int.reduceGE, Int.reduceAdd, Int.reduceSub, Int.reduceMul, Int.reduceNeg, Int.reduceToNat, reduceCtorEq, reduceIte]
  refine G_loop_ind (fun m ts hh mk => ∃ (k : Nat) (w : AV), k ≤ t.length ∧ m = t.length - k ∧ Fr h hh ∧ TabH h.length hh.length hh w k (fun _ _ => 0) ∧ ts.length = 16 ∧ ts.getD 0 .undef = v ∧ ts.getD 3 .undef = w ∧ ts.getD 4 .undef = I k ∧ mk = []) ?_ _ _ _ _
    ⟨0, .nils, Nat.zero_le _, rfl, Fr.refl _, .inl ⟨rfl, rfl⟩, rfl, rfl, rfl, rfl, rfl⟩
  rintro m ts hh mk ih ⟨k, w, hk, rfl, fr, T, hl', q0, q3, q4, rfl⟩
  rw [lit_all hl']
  simp only [lit0, litS, Nat.reduceAdd, q0, q3, q4]
  by_cases hlt : (k : Int) < t.length
  case neg =>
    obtain rfl : k = t.length := by omega
    simp (disch := first | assumption | omega | (simp only [az]; done)) only [ru, eq_self, if_true, if_false, BEq.rfl, binI, AO.row?, splice, fillL, mmAll, loadV, storeV, zeros, Am.rowAt, Am.part, addOff, Nat.reduceAdd, Nat.reduceMul, Nat.reduceLeDiff, Nat.reduceSub, Nat.reduceLT, Int.reduceEq, Int.reduceLT, Int.reduceLE, Int.reduceGT, Int.reduceGE, Int.reduceAdd, Int.reduceSub, Int.reduceMul, Int.reduceNeg, Int.reduceToNat, reduceCtorEq, reduceIte, lenV_sl H.i, elem_pt H.i, view_sl H.i, scalar_sl H.i, cells_sl H.i, pure_sl H.i, Int.toNat_natCast, hlt, decide_false]
    exact ⟨fr, T⟩
  have hk2 : k < t.length := by omega
  have lh := fr.l
  obtain ⟨K0, hK0⟩ : ∃ K0 : List AO, K0 = [.cells (rw_ 31 fun _ => 0) false, .cells [.ms 1 hh.length 0 31] false] := ⟨_, rfl⟩
  have k1 : (hh ++ K0)[hh.length + 1]? = some (.cells [.ms 1 hh.length 0 31] false) := by rw [atT, hK0]; rfl
  have k0 : (hh ++ K0)[hh.length]? = some (.cells (rw_ 31 fun _ => 0) false) := by rw [atT0, hK0]; rfl
  have K0l : K0.length = 2 := by rw [hK0]; rfl
  have ro : Am.rowOf (hh ++ K0) (.ms 1 (hh.length + 1) 0 1) = some [.ms 1 hh.length 0 31] := by
    simp only [rowOf_ms, Am.rowAt, k1, Option.bind_some, AO.row?]; rfl
  have key : ∃ w' h', appV lim (hh ++ K0) 1 24 w (.ms 1 (hh.length + 1) 0 1) = some (w', h') ∧ Fr h h' ∧ TabH h.length h'.length h' w' (k + 1) fun _ _ => 0 := by
    rcases T with ⟨rfl, rfl⟩ | ⟨h0, o, q, rfl, T⟩
    · refine ⟨_, _, by rw [appV_nil (n := 1) (xs := [.ms 1 hh.length 0 31]) rfl ro rfl rfl (by omega) (by omega), if_neg (by omega)], (fr.trans (Fr.app _ _)).trans (Fr.app _ _), .inr ⟨by omega, (hh ++ K0).length, fun _ => hh.length, rfl, ⟨⟨by simp; omega, by simp⟩, by rw [atE]; rfl, fun i hi => ⟨⟨by omega, by simp⟩, by simp [K0l], by rw [at_ap (by simp [K0l])]; exact k0⟩, fun i j hi hj _ => by omega⟩⟩⟩
    · have ol := (List.getElem?_eq_some_iff.1 T.oc).1
      have oc : (hh ++ K0)[o]? = some (.cells (ptrs k q) false) := (at_ap ol).trans T.oc
      refine ⟨_, _, by rw [appV_ms (n := 1) (xs := [.ms 1 hh.length 0 31]) oc (by rw [ptrs_len, Nat.mul_one]) rfl ro rfl rfl (by omega) (by omega) (by have := T.ob; omega), if_neg (by omega)], ⟨by simp; omega, fun j hj => ?_⟩, .inr ⟨by omega, (hh ++ K0).length, fun i => if i = k then hh.length else q i, rfl, ⟨⟨by simp; omega, by simp⟩, by rw [show (hh ++ K0).length = ((hh ++ K0).set o .tomb).length by simp, atE, ptrs_succ], fun i hi => ?_, fun i j hi hj e => ?_⟩⟩⟩
      · have := T.ob
        rw [List.getElem?_append_left (by simp; omega), List.getElem?_set_ne (by omega), at_ap (by omega), fr.k j hj]
      · have := T.ob
        by_cases e : i = k
        · subst e
          simp only [if_true]
          refine ⟨⟨by omega, by simp; omega⟩, by simp [K0l], ?_⟩
          rw [List.getElem?_append_left (by simp [K0l]), List.getElem?_set_ne (by omega)]; exact k0
        · simp only [if_neg e]
          have ti := T.rows i (by omega)
          refine ⟨⟨ti.1.1, by simp; omega⟩, by simp; omega, ?_⟩
          rw [List.getElem?_append_left (by simp; omega), List.getElem?_set_ne (fun h => ti.2.1 h.symm), at_ap ti.1.2]; exact ti.2.2
      · by_cases e1 : i = k
        · by_cases e2 : j = k
          · omega
          · rw [if_pos e1, if_neg e2] at e
            have := (T.rows j (by omega)).1; omega
        · by_cases e2 : j = k
          · rw [if_neg e1, if_pos e2] at e
            have := (T.rows i (by omega)).1; omega
          · rw [if_neg e1, if_neg e2] at e
            exact T.inj i j (by omega) (by omega) e
  obtain ⟨w', h', ha, hf, hT⟩ := key
  have c2 : (31 : Int).toNat = 31 := rfl
  rw [hK0, lit31] at ha
  simp (disch := first | assumption | omega | (simp only [az]; done)) only [ru, eq_self, if_true, if_false, BEq.rfl, binI, AO.row?, splice, fillL, mmAll, loadV, storeV, zeros, Am.rowAt, Am.part, addOff, Nat.reduceAdd, Nat.reduceMul, Nat.reduceLeDiff, Nat.reduceSub, Nat.reduceLT, Int.reduceEq, Int.reduceLT, Int.reduceLE, Int.reduceGT, Int.reduceGE, Int.reduceAdd, Int.reduceSub, Int.reduceMul, Int.reduceNeg, Int.reduceToNat, reduceCtorEq, reduceIte, lenV_sl H.i, elem_pt H.i, view_sl H.i, scalar_sl H.i, cells_sl H.i, pure_sl H.i, Int.toNat_natCast, hlt, decide_true, exOp_mk, c2, zeros31, exOp_buildSlice, List.append_assoc, lenE, ha]
  exact ih (t.length - (k + 1)) _ _ _ (by omega) ⟨k + 1, w', by omega, rfl, hf, hT, rfl, rfl, rfl, rfl, rfl⟩
end
end Go.Proofs.Yteonklnjchefiaa.S

