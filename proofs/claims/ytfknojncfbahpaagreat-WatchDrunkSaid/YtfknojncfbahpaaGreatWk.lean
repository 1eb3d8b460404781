/-
The specification: Drunk, Must, Ask.
-/
import Derived.Test.YtfknojncfbahpaaGreatS1
namespace Go.Proofs.YtfknojncfbahpaaGreat.S
open Go Go.Am Go.Proofs.YtfknojncfbahpaaGreat.T
set_option maxRecDepth 100000
set_option linter.unusedSimpArgs false
set_option linter.unusedVariables false
def knV (so al : Int) : Int := if so = 0 then 2 else if so = al then 1 else 3
theorem w41 (a c : Int) (st : Bool) : Iso E 41 [I a, I c] st = some (I (knV a c)) := by
  unfold knV
  refine Iso_of (es _ _ _ _) e41 ?_
  simp only [f41]
  by_cases h1 : a = 0
  · simp (disch := first | assumption | omega | (simp only [az]; done)) only [ru, eq_self, if_true, BEq.rfl, binI, Nat.reduceAdd, Nat.reduceSub, h1]
  · by_cases h2 : a = c
    · subst h2
      rw [if_neg h1, if_pos rfl]
      simp (disch := first | assumption | omega | (simp only [az]; done)) only [ru, eq_self, if_true, BEq.rfl, binI, Nat.reduceAdd, Nat.reduceSub, h1]
    · rw [if_neg h1, if_neg h2]
      simp (disch := first | assumption | omega | (simp only [az]; done)) only [ru, eq_self, if_true, binI, Nat.reduceAdd, Nat.reduceSub, h1, h2]
theorem w97 {L : List (List Int)} {v : AV} (IA : IsSl 1 resE L v) (hl : L.length ≤ 1000) (hr : ∀ g ∈ L, ris 5 g) (t : Int) (st : Bool) : Iso E 97 [v, I t] st = some (I (cntN L t)) := by
  refine Iso_of (es _ _ _ _) e97 ?_
  simp only [f97]
  simp (disch := first | assumption | omega | (simp only [az]; done)) only [ru, Nat.reduceAdd, Nat.reduceSub]
  refine G_loop_ind (fun m ts hk mk => ∃ (i : Nat), i ≤ L.length ∧ m = L.length - i ∧
      ts.length = 22 ∧ ts.getD 0 .undef = v ∧ ts.getD 1 .undef = I t ∧ ts.getD 5 .undef = I (cntN (L.take i) t : Nat) ∧ ts.getD 6 .undef = I i ∧ hk = [] ∧ mk = []) ?_ _ _ _ _
    ⟨0, Nat.zero_le _, rfl, rfl, rfl, rfl, rfl, rfl, rfl, rfl⟩
  rintro m ts hk mk ih ⟨i, hi, rfl, hl', q0, q1, q5, q6, rfl, rfl⟩
  rw [lit_all hl']
  have sn := cnt_snoc (L := L) (t := t) (i := i)
  have cl := @cntN_le (L.take i) t
  have tl := List.length_take_le i L
  obtain ⟨c, hc⟩ : ∃ c, c = cntN (L.take i) t := ⟨_, rfl⟩
  rw [← hc] at q5 sn cl
  simp only [lit0, litS, Nat.reduceAdd, q0, q1, q5, q6]
  simp (disch := first | assumption | omega | (simp only [az]; done)) only [ru, eq_self, if_true, binI, lenV_sl IA]
  by_cases hlt : (i : Int) < L.length
  case neg =>
    obtain rfl : i = L.length := by omega
    rw [List.take_length] at hc
    rw [← hc]
    simp (disch := first | assumption | omega | (simp only [az]; done)) only [ru, eq_self, hlt]
  have hi2 : i < L.length := by omega
  obtain ⟨g, hg⟩ : ∃ g, g = L.getD i [] := ⟨_, rfl⟩
  have ea := elem_ll IA i (by omega) hlt
  rw [Int.toNat_natCast, ← hg] at ea
  have gi := resL_is g
  have gl := ris_len (hr g (by rw [hg]; exact getD_memL hi2))
  have c40 := fun st => s40 gi (by omega) t st
  have sn := sn hi2
  rw [show L.getD i default = g from hg.symm] at sn
  cases hh : hasI g t <;> rw [hh] at c40 sn
  · simp (disch := first | assumption | omega | (simp only [az]; done)) only [ru, eq_self, if_true, if_false, binI, loadV, Am.part, hlt, ea, view_sl gi, pure_sl gi, c40]
    refine ih (L.length - (i + 1)) _ _ _ (by omega) ⟨i + 1, by omega, rfl, rfl, rfl, rfl, ?_, rfl, rfl, rfl⟩
    rw [sn]; rfl
  · simp (disch := first | assumption | omega | (simp only [az]; done)) only [ru, eq_self, if_true, if_false, binI, loadV, Am.part, hlt, ea, view_sl gi, pure_sl gi, c40]
    refine ih (L.length - (i + 1)) _ _ _ (by omega) ⟨i + 1, by omega, rfl, rfl, rfl, rfl, ?_, rfl, rfl, rfl⟩
    rw [sn]; rfl
theorem cnt_zero {L : List (List Int)} {t : Int} : cntN L t = 0 ↔ ∀ g ∈ L, hasI g t = false := by
  unfold cntN
  rw [List.length_eq_zero_iff, List.filter_eq_nil_iff]
  constructor
  · intro h g hg; have := h g hg; simpa using this
  · intro h g hg; rw [h g hg]; simp
theorem cnt_all {L : List (List Int)} {t : Int} : cntN L t = L.length ↔ ∀ g ∈ L, hasI g t = true := by
  unfold cntN
  exact List.length_filter_eq_length_iff
theorem agr_cnt {L : List (List Int)} (hne : L ≠ []) (t : Int) : agr (inG t) L = knV (cntN L t) L.length := by
  obtain ⟨g, M, rfl⟩ : ∃ g M, L = g :: M := by
    cases L with
    | nil => exact absurd rfl hne
    | cons g M => exact ⟨g, M, rfl⟩
  have le := @cntN_le (g :: M) t
  have z := @cnt_zero (g :: M) t
  have a := @cnt_all (g :: M) t
  have pos : 0 < (g :: M).length := by simp
  have k0 : cntN (g :: M) t = 0 → knV (cntN (g :: M) t) ((g :: M).length : Nat) = 2 := fun h => by unfold knV; rw [if_pos (by omega)]
  have k1 : cntN (g :: M) t ≠ 0 → cntN (g :: M) t = (g :: M).length → knV (cntN (g :: M) t) ((g :: M).length : Nat) = 1 := fun h h' => by unfold knV; rw [if_neg (by omega), if_pos (by omega)]
  have k2 : cntN (g :: M) t ≠ 0 → cntN (g :: M) t ≠ (g :: M).length → knV (cntN (g :: M) t) ((g :: M).length : Nat) = 3 := fun h h' => by unfold knV; rw [if_neg (by omega), if_neg (by omega)]
  have i1 : ∀ x, hasI x t = true → inG t x = 1 := fun x h => by unfold inG; rw [if_pos h]
  have i0 : ∀ x, hasI x t = false → inG t x = 2 := fun x h => by unfold inG; rw [h]; rfl
  simp only [agr]
  by_cases h0 : cntN (g :: M) t = 0
  · rw [k0 h0]
    have h := z.1 h0
    have hall : M.all (fun x => decide (inG t x = inG t g)) = true := by
      rw [List.all_eq_true]; intro x hx
      rw [i0 x (h x (List.mem_cons_of_mem _ hx)), i0 g (h g (by simp))]; rfl
    rw [if_pos hall, i0 g (h g (by simp))]
  · by_cases h1 : cntN (g :: M) t = (g :: M).length
    · rw [k1 h0 h1]
      have h := a.1 h1
      have hall : M.all (fun x => decide (inG t x = inG t g)) = true := by
        rw [List.all_eq_true]; intro x hx
        rw [i1 x (h x (List.mem_cons_of_mem _ hx)), i1 g (h g (by simp))]; rfl
      rw [if_pos hall, i1 g (h g (by simp))]
    · rw [k2 h0 h1]
      rw [if_neg]
      intro e
      rw [List.all_eq_true] at e
      cases hg : hasI g t
      · apply h0
        rw [z]; intro x hx
        rcases List.mem_cons.1 hx with rfl | hx
        · exact hg
        · have := of_decide_eq_true (e x hx)
          rw [i0 g hg] at this
          cases hx2 : hasI x t
          · rfl
          · rw [i1 x hx2] at this; cases this
      · apply h1
        rw [a]; intro x hx
        rcases List.mem_cons.1 hx with rfl | hx
        · exact hg
        · have := of_decide_eq_true (e x hx)
          rw [i1 g hg] at this
          cases hx2 : hasI x t
          · rw [i0 x hx2] at this; cases this
          · rfl
section
variable {b : Bk} {o w s : AV}
theorem w38 (H : BkOk b o w s) (n : Int) (st : Bool) : Iso E 38 [bkV b o w s, I n] st = some (Bo (inR n 0 (wr .i64 (b.t.tm - 1)))) := by
  have c := fun st => s45 H.t n st
  obtain ⟨x, hx⟩ : ∃ x, x = wr .i64 (b.t.tm - 1) := ⟨_, rfl⟩
  refine Iso_of (es _ _ _ _) e38 ?_
  simp only [f38, bkV, trV, ← hx] at c ⊢
  simp (disch := first | assumption | omega | (simp only [az]; done)) only [ru, eq_self, if_true, AO.row?, loadV, Am.rowAt, Am.part, addOff, Nat.reduceAdd, Nat.reduceSub, view_sl H.t.o, view_sl H.t.w, pure_sl H.t.o, pure_sl H.t.w, c]
theorem w55 (H : BkOk b o w s) (t : Int) : ∃ v e, Iso E 55 [bkV b o w s, I t] false = some (.tup [I v, I e]) ∧ AnB b (inR t 0 (wr .i64 (b.t.tm - 1))) (fun e => ((0 : Int), e)) (fun r => r = (agr (inG t) b.sts, 0)) (v, e) := by
  have c38 := fun st => w38 H t st
  obtain ⟨fit, hfit⟩ : ∃ fit, fit = inR t 0 (wr .i64 (b.t.tm - 1)) := ⟨_, rfl⟩
  rw [← hfit] at c38 ⊢
  obtain ⟨r, e, c95, A⟩ := w95 H fit
  cases A with
  | bad hv =>
    refine ⟨0, 110, ?_, .bad hv⟩
    refine Iso_of (es _ _ _ _) e55 ?_
    simp only [f55, bkV] at c95 c38 ⊢
    simp (disch := first | assumption | omega | (simp only [az]; done)) only [ru, eq_self, if_true, binI, AO.row?, loadV, Am.rowAt, Am.part, Nat.reduceAdd, Nat.reduceSub, Int.reduceEq, view_sl H.t.o, view_sl H.t.w, view_sl H.s, pure_sl H.t.o, pure_sl H.t.w, pure_sl H.s, c38, c95]
  | arg hv hf =>
    refine ⟨0, 1, ?_, .arg hv hf⟩
    refine Iso_of (es _ _ _ _) e55 ?_
    simp only [f55, bkV] at c95 c38 ⊢
    simp (disch := first | assumption | omega | (simp only [az]; done)) only [ru, eq_self, if_true, binI, AO.row?, loadV, Am.rowAt, Am.part, Nat.reduceAdd, Nat.reduceSub, Int.reduceEq, view_sl H.t.o, view_sl H.t.w, view_sl H.s, pure_sl H.t.o, pure_sl H.t.w, pure_sl H.s, c38, c95]
  | none hv hf hn =>
    refine ⟨0, 3, ?_, .none hv hf hn⟩
    refine Iso_of (es _ _ _ _) e55 ?_
    simp only [f55, bkV] at c95 c38 ⊢
    simp (disch := first | assumption | omega | (simp only [az]; done)) only [ru, eq_self, if_true, binI, AO.row?, loadV, Am.rowAt, Am.part, Nat.reduceAdd, Nat.reduceSub, Int.reduceEq, view_sl H.t.o, view_sl H.t.w, view_sl H.s, pure_sl H.t.o, pure_sl H.t.w, pure_sl H.s, c38, c95]
  | ok hv hf hs =>
    have ac := agr_cnt hs t
    have IA := resLL_is b.sts
    obtain ⟨av, hav⟩ : ∃ av, av = resLL b.sts := ⟨_, rfl⟩
    rw [← hav] at c95 IA
    have c97 := fun st => w97 IA (by have := sts_len hv; omega) (sts_ris hv) t st
    refine ⟨_, _, ?_, .ok hv hf hs rfl⟩
    rw [ac]
    refine Iso_of (es _ _ _ _) e55 ?_
    simp only [f55, bkV] at c95 c38 ⊢
    simp (disch := first | assumption | omega | (simp only [az]; done)) only [ru, eq_self, if_true, binI, AO.row?, loadV, Am.rowAt, Am.part, Nat.reduceAdd, Nat.reduceSub, view_sl H.t.o, view_sl H.t.w, view_sl H.s, pure_sl H.t.o, pure_sl H.t.w, pure_sl H.s, c38, c95, lenV_sl IA, view_sl IA, pure_sl IA, c97, w41]
set_option maxHeartbeats 2000000 in
theorem w56 (H : BkOk b o w s) : ∃ v l e, Iso E 56 [bkV b o w s] false = some (.tup [v, I e]) ∧ IsSl 1 intL l v ∧ AnB b true (fun e => (([] : List Int), e)) (fun r => r = (b.mus, 0)) (l, e) := by
  obtain ⟨r, e, c95, A⟩ := w95 H true
  cases A with
  | bad hv =>
    refine ⟨.nils, [], 110, ?_, .inr ⟨rfl, rfl⟩, .bad hv⟩
    refine Iso_of (es _ _ _ _) e56 ?_
    simp only [f56, bkV] at c95 ⊢
    simp (disch := first | assumption | omega | (simp only [az]; done)) only [ru, eq_self, if_true, binI, AO.row?, loadV, Am.rowAt, Am.part, Nat.reduceAdd, Nat.reduceSub, Int.reduceEq, view_sl H.t.o, view_sl H.t.w, view_sl H.s, pure_sl H.t.o, pure_sl H.t.w, pure_sl H.s, c95]
  | arg hv hf => cases hf
  | none hv hf hn =>
    refine ⟨.nils, [], 3, ?_, .inr ⟨rfl, rfl⟩, .none hv rfl hn⟩
    refine Iso_of (es _ _ _ _) e56 ?_
    simp only [f56, bkV] at c95 ⊢
    simp (disch := first | assumption | omega | (simp only [az]; done)) only [ru, eq_self, if_true, binI, AO.row?, loadV, Am.rowAt, Am.part, Nat.reduceAdd, Nat.reduceSub, Int.reduceEq, view_sl H.t.o, view_sl H.t.w, view_sl H.s, pure_sl H.t.o, pure_sl H.t.w, pure_sl H.s, c95]
  | ok hv hf hs =>
    obtain ⟨T1, T2, T3⟩ := tm5 (bk_t hv)
    have ac := fun t => agr_cnt hs t
    have IA := resLL_is b.sts
    have c97 := fun t st => w97 IA (by have := sts_len hv; omega) (sts_ris hv) t st
    obtain ⟨av, hav⟩ : ∃ av, av = resLL b.sts := ⟨_, rfl⟩
    rw [← hav] at c95 IA c97
    refine ⟨resL b.mus, b.mus, 0, ?_, resL_is _, .ok hv rfl hs rfl⟩
    obtain ⟨F, hF⟩ : ∃ F : Nat → List Int, F = fun k => ((List.range k).filter fun (t : Nat) => decide (agr (inG ((t : Nat) : Int)) b.sts = 1)).map fun (t : Nat) => (t : Int) := ⟨_, rfl⟩
    have hm : b.mus = F b.t.T := by rw [hF]; rfl
    have F0 : F 0 = [] := by rw [hF]; rfl
    have Fy : ∀ k : Nat, agr (inG (k : Int)) b.sts = 1 → F (k + 1) = F k ++ [(k : Int)] := fun k h => by simp [hF, List.range_succ, h]
    have Fn : ∀ k : Nat, ¬ agr (inG (k : Int)) b.sts = 1 → F (k + 1) = F k := fun k h => by simp [hF, List.range_succ, h]
    have Fl : ∀ k, (F k).length ≤ k := fun k => by
      have := List.length_filter_le (fun (t : Nat) => decide (agr (inG ((t : Nat) : Int)) b.sts = 1)) (List.range k)
      simpa [hF] using this
    have kn : ∀ t : Int, agr (inG t) b.sts = 1 ↔ ((cntN b.sts t : Nat) : Int) = b.sts.length := by
      intro t
      rw [ac t]
      have pos : 0 < b.sts.length := List.length_pos_iff.2 hs
      unfold knV
      split
      · constructor
        · intro h; cases h
        · intro h; omega
      · split
        · simp_all
        · constructor
          · intro h; cases h
          · intro h; contradiction
    refine Iso_of (es _ _ _ _) e56 ?_
    simp only [f56, bkV] at c95 ⊢
    simp (disch := first | assumption | omega | (simp only [az]; done)) only [ru, eq_self, if_true, binI, AO.row?, loadV, Am.rowAt, Am.part, Nat.reduceAdd, Nat.reduceSub, view_sl H.t.o, view_sl H.t.w, view_sl H.s, pure_sl H.t.o, pure_sl H.t.w, pure_sl H.s, c95]
    refine G_loop_ind (fun m ts hk mk => ∃ (i : Nat) (v : AV), i ≤ b.t.T ∧ m = b.t.T - i ∧ hk[0]? = some (.cells [I b.t.ch, I b.t.tm, o, w, I b.dr, I b.rn, s] false) ∧ 1 ≤ hk.length ∧ OutE intL 1 1 hk v (F i) ∧
        ts.length = 34 ∧ ts.getD 1 .undef = .ptr 0 0 ∧ ts.getD 4 .undef = av ∧ ts.getD 6 .undef = v ∧ ts.getD 7 .undef = I i ∧ mk = []) ?_ _ _ _ _
      ⟨0, .nils, Nat.zero_le _, rfl, rfl, by simp, .inl ⟨F0, rfl⟩, rfl, rfl, rfl, rfl, rfl, rfl⟩
    rintro m ts hk mk ih ⟨i, v, hi, rfl, e0, n1, ho, hl', q1, q4, q6, q7, rfl⟩
    rw [lit_all hl']
    simp only [lit0, litS, Nat.reduceAdd, q1, q4, q6, q7]
    simp (disch := first | assumption | omega | (simp only [az]; done)) only [ru, eq_self, if_true, if_false, binI, AO.row?, loadV, Am.rowAt, Am.part, addOff, e0]
    by_cases hlt : (i : Int) < b.t.tm
    case neg =>
      obtain rfl : i = b.t.T := by omega
      rw [← hm] at ho
      have vw := ho.viewL (st := false) (k := 6)
      simp (disch := first | assumption | omega | (simp only [az]; done)) only [ru, eq_self, hlt, vw]
    by_cases hd : agr (inG (i : Int)) b.sts = 1
    · have hc := (kn i).1 hd
      obtain ⟨v', h', ha, ho', hb', hk'⟩ := outE_ap (lim := 0) (eb := 8) intE (fun _ => rfl) (by omega) (by omega) (by omega) ho n1 (by omega) (by have := Fl i; omega) (i : Int)
      simp (disch := first | assumption | omega | (simp only [az]; done)) only [ru, eq_self, if_true, BEq.rfl, binI, splice, fillL, zeros, Nat.reduceMul, Nat.reduceLeDiff, lenV_sl IA, view_sl IA, pure_sl IA, hlt, c97, hc, ha]
      refine ih (b.t.T - (i + 1)) _ _ _ (by omega) ⟨i + 1, v', by omega, rfl, by rw [hk' 0 (by omega)]; exact e0, hb', by rw [Fy i hd]; exact ho', rfl, rfl, rfl, rfl, rfl, rfl⟩
    · have hc : ¬ ((cntN b.sts (i : Int) : Nat) : Int) = b.sts.length := fun h => hd ((kn i).2 h)
      simp (disch := first | assumption | omega | (simp only [az]; done)) only [ru, eq_self, if_true, binI, lenV_sl IA, view_sl IA, pure_sl IA, hlt, c97, hc]
      refine ih (b.t.T - (i + 1)) _ _ _ (by omega) ⟨i + 1, v, by omega, rfl, e0, n1, by rw [Fn i hd]; exact ho, rfl, rfl, rfl, rfl, rfl, rfl⟩
set_option maxHeartbeats 2000000 in
theorem w57 (H : BkOk b o w s) : ∃ v e, Iso E 57 [bkV b o w s] false = some (.tup [I v, I e]) ∧ AnB b true (fun e => ((0 : Int), e)) (fun (r : Int × Int) => r = ((if b.sts.length = 1 then (0 : Int) else ((bes (lfN b.sts) b.t.T : Nat) : Int)), (if b.sts.length = 1 then (3 : Int) else 0))) (v, e) := by
  obtain ⟨r, e, c95, A⟩ := w95 H true
  cases A with
  | bad hv =>
    refine ⟨0, 110, ?_, .bad hv⟩
    refine Iso_of (es _ _ _ _) e57 ?_
    simp only [f57, bkV] at c95 ⊢
    simp (disch := first | assumption | omega | (simp only [az]; done)) only [ru, eq_self, if_true, binI, AO.row?, loadV, Am.rowAt, Am.part, Nat.reduceAdd, Nat.reduceSub, Int.reduceEq, view_sl H.t.o, view_sl H.t.w, view_sl H.s, pure_sl H.t.o, pure_sl H.t.w, pure_sl H.s, c95]
  | arg hv hf => cases hf
  | none hv hf hn =>
    refine ⟨0, 3, ?_, .none hv rfl hn⟩
    refine Iso_of (es _ _ _ _) e57 ?_
    simp only [f57, bkV] at c95 ⊢
    simp (disch := first | assumption | omega | (simp only [az]; done)) only [ru, eq_self, if_true, binI, AO.row?, loadV, Am.rowAt, Am.part, Nat.reduceAdd, Nat.reduceSub, Int.reduceEq, view_sl H.t.o, view_sl H.t.w, view_sl H.s, pure_sl H.t.o, pure_sl H.t.w, pure_sl H.s, c95]
  | ok hv hf hs =>
    obtain ⟨T1, T2, T3⟩ := tm5 (bk_t hv)
    have IA := resLL_is b.sts
    have sl := sts_len hv
    have c97 := fun t st => w97 IA (by omega) (sts_ris hv) t st
    obtain ⟨av, hav⟩ : ∃ av, av = resLL b.sts := ⟨_, rfl⟩
    rw [← hav] at c95 IA c97
    obtain ⟨L, hL⟩ : ∃ L, L = b.sts := ⟨_, rfl⟩
    rw [← hL] at IA c97 sl
    refine ⟨_, _, ?_, .ok hv rfl hs rfl⟩
    rw [← hL]
    by_cases h1 : L.length = 1
    · have h1' : (L.length : Int) = 1 := by omega
      rw [if_pos h1, if_pos h1]
      refine Iso_of (es _ _ _ _) e57 ?_
      simp only [f57, bkV] at c95 ⊢
      simp (disch := first | assumption | omega | (simp only [az]; done)) only [ru, eq_self, if_true, BEq.rfl, binI, AO.row?, loadV, Am.rowAt, Am.part, Nat.reduceAdd, Nat.reduceSub, view_sl H.t.o, view_sl H.t.w, view_sl H.s, pure_sl H.t.o, pure_sl H.t.w, pure_sl H.s, c95, lenV_sl IA, h1']
    have h1' : ¬ (L.length : Int) = 1 := by omega
    rw [if_neg h1, if_neg h1]
    have lf_le : ∀ t, lfN L t ≤ L.length := fun t => by
      have := @cntN_le L t
      unfold lfN mmx; rw [if_pos rfl]; split <;> omega
    refine Iso_of (es _ _ _ _) e57 ?_
    simp only [f57, bkV] at c95 ⊢
    simp (disch := first | assumption | omega | (simp only [az]; done)) only [ru, eq_self, if_true, binI, AO.row?, loadV, Am.rowAt, Am.part, Nat.reduceAdd, Nat.reduceSub, view_sl H.t.o, view_sl H.t.w, view_sl H.s, pure_sl H.t.o, pure_sl H.t.w, pure_sl H.s, c95, lenV_sl IA, h1']
    refine G_loop_ind (fun m ts hk mk => ∃ (i : Nat), i ≤ b.t.T ∧ m = b.t.T - i ∧ hk = [.cells [I b.t.ch, I b.t.tm, o, w, I b.dr, I b.rn, s] false] ∧
        ts.length = 47 ∧ ts.getD 1 .undef = .ptr 0 0 ∧ ts.getD 4 .undef = av ∧ ts.getD 6 .undef = I (bes (lfN L) i : Nat) ∧ ts.getD 7 .undef = I (if i = 0 then (L.length : Int) + 1 else lfN L (bes (lfN L) i)) ∧ ts.getD 8 .undef = I i ∧ mk = []) ?_ _ _ _ _
      ⟨0, Nat.zero_le _, rfl, rfl, rfl, rfl, rfl, rfl, rfl, rfl, rfl⟩
    rintro m ts hk mk ih ⟨i, hi, rfl, rfl, hl', q1, q4, q6, q7, q8, rfl⟩
    rw [lit_all hl']
    have su : bes (lfN L) (i + 1) = if lfN L i < lfN L (bes (lfN L) i) then i else bes (lfN L) i := rfl
    have b0 : i = 0 → bes (lfN L) i = 0 := fun h => by subst h; rfl
    have lfi := lf_le i
    obtain ⟨z, hz⟩ : ∃ z, z = bes (lfN L) i := ⟨_, rfl⟩
    rw [← hz] at q6 q7 su b0
    obtain ⟨y, hy⟩ : ∃ y, y = (if i = 0 then (L.length : Int) + 1 else lfN L z) := ⟨_, rfl⟩
    rw [← hy] at q7
    simp only [lit0, litS, Nat.reduceAdd, q1, q4, q6, q7, q8]
    simp (disch := first | assumption | omega | (simp only [az]; done)) only [ru, eq_self, if_true, if_false, binI, AO.row?, loadV, Am.rowAt, Am.part, addOff]
    by_cases hlt : (i : Int) < b.t.tm
    case neg =>
      obtain rfl : i = b.t.T := by omega
      simp (disch := first | assumption | omega | (simp only [az]; done)) only [ru, hlt]
      rw [hz]
    have cl := @cntN_le L (i : Int)
    have elf : mmx true ((cntN L (i : Int) : Nat) : Int) ((L.length : Int) - (cntN L (i : Int) : Nat)) = lfN L i := rfl
    by_cases hc : lfN L i < y
    · simp (disch := first | assumption | omega | (simp only [az]; done)) only [ru, eq_self, if_true, binI, mmAll, lenV_sl IA, view_sl IA, pure_sl IA, hlt, c97, elf, hc]
      have e : bes (lfN L) (i + 1) = i := by
        rw [su]
        by_cases hi0 : i = 0
        · rw [b0 hi0, hi0]; simp
        · rw [if_neg hi0] at hy; rw [← hy, if_pos hc]
      exact ih (b.t.T - (i + 1)) _ _ _ (by omega) ⟨i + 1, by omega, rfl, rfl, rfl, rfl, rfl, by rw [e]; rfl, by rw [e]; rfl, rfl, rfl⟩
    · simp (disch := first | assumption | omega | (simp only [az]; done)) only [ru, eq_self, if_true, binI, mmAll, lenV_sl IA, view_sl IA, pure_sl IA, hlt, c97, elf, hc]
      have hi0 : ¬ i = 0 := fun h => by rw [if_pos h] at hy; omega
      have e : bes (lfN L) (i + 1) = z := by
        rw [if_neg hi0] at hy; rw [su, ← hy, if_neg hc]
      exact ih (b.t.T - (i + 1)) _ _ _ (by omega) ⟨i + 1, by omega, rfl, rfl, rfl, rfl, rfl, by rw [e]; rfl, by rw [e, if_neg (by omega), hy, if_neg hi0]; rfl, rfl, rfl⟩
end
end Go.Proofs.YtfknojncfbahpaaGreat.S
