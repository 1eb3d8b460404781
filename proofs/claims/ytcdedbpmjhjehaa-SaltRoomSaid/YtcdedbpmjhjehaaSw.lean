/-
SaltLater, SaltBuy, SaltStocks.
-/
import Derived.Test.YtcdedbpmjhjehaaS3
namespace Go.Proofs.Ytcdedbpmjhjehaa.S
open Go Go.Am Go.Proofs.Ytcdedbpmjhjehaa.T
set_option maxRecDepth 100000
set_option linter.unusedSimpArgs false
set_option linter.unusedVariables false

/-! sums over barrels -/
theorem sums_add {n : Nat} {f g : Nat → Int} : sums n (fun b => f b + g b) = sums n f + sums n g := by
  induction n with
  | zero => rfl
  | succ n ih => rw [sums_succ, sums_succ, sums_succ, ih]; omega
theorem sums_one {n c : Nat} (hc : c < n) {v : Int} : sums n (fun b => if c = b then v else 0) = v := by
  induction n with
  | zero => omega
  | succ n ih =>
    rw [sums_succ]
    by_cases e : c = n
    · subst e
      rw [if_pos rfl]
      have : sums c (fun b => if c = b then v else 0) = sums c (fun _ => 0) := sums_congr fun b hb => if_neg (by omega)
      rw [this]
      have z : ∀ m : Nat, sums m (fun _ => (0 : Int)) = 0 := by
        intro m
        induction m with
        | zero => rfl
        | succ m ih => rw [sums_succ, ih]; rfl
      rw [z]; omega
    · rw [ih (by omega), if_neg e]; omega
theorem lbP_app {l m : List Pr} : lbP (l ++ m) = lbP l + lbP m := by simp [lbP, sm_app]
theorem sums_lb {ps : List Pr} {nb : Nat} : ∀ {x : List Int}, x.length ≤ ps.length → (∀ c ∈ x, 0 ≤ c ∧ c < nb) → sums nb (fun b => lbP (prs ps x b)) = lbP (ps.take x.length) := by
  intro x
  refine snocRec (fun x : List Int => x.length ≤ ps.length → (∀ c ∈ x, 0 ≤ c ∧ c < nb) → sums nb (fun b => lbP (prs ps x b)) = lbP (ps.take x.length)) x (fun _ _ => ?_) ?_
  · have : sums nb (fun b => lbP (prs ps [] b)) = sums nb (fun _ => 0) := sums_congr fun b _ => by simp [prs, lbP, sm]
    rw [this]
    have z : ∀ m : Nat, sums m (fun _ => (0 : Int)) = 0 := by
      intro m
      induction m with
      | zero => rfl
      | succ m ih => rw [sums_succ, ih]; rfl
    rw [z]; rfl
  intro x c ih hl hc
  rw [List.length_append, List.length_singleton] at hl ⊢
  have ihx := ih (by omega) fun d hd => hc d (by simp [hd])
  have hcc := hc c (by simp)
  have e : ∀ b : Nat, b < nb → lbP (prs ps (x ++ [c]) b) = lbP (prs ps x b) + (if c.toNat = b then (ps.getD x.length default).p else 0) := fun b _ => by
    rw [prs_snoc (by omega), lbP_app]
    by_cases e : c.toNat = b
    · rw [if_pos e, if_pos (by omega)]; simp [lbP, sm]
    · rw [if_neg e, if_neg (by omega)]; simp [lbP, sm]
  rw [sums_congr e, sums_add, sums_one (by omega), ihx, take_snoc (d := default) (by omega), lbP_snoc]
section
variable {h : Hs} {k p b : AV}
theorem ea_mono (G : HG h) {d e : Int} (hde : d ≤ e) (x : List Int) : h.ea d x ≤ h.ea e x := sums_le fun b _ => by
  have := (lb_bd (G.pp x b)).1
  split
  · rw [if_pos (by omega)]; exact Int.le_refl _
  · split <;> omega
theorem ea_all (G : HG h) {x : List Int} (P : Pkg h x) : h.ea 20 x = h.all := by
  have e : h.ea 20 x = sums h.bs.length fun b => lbP (prs h.ps x b) := sums_congr fun b _ => if_pos (dy_bd G.g _).2
  rw [e, sums_lb (by rw [P.l]; exact Nat.le_refl _) P.c, P.l, List.take_length]; rfl
theorem mst_mono {f g : List Int → Int} {L : List (List Int)} (h : ∀ c ∈ L, f c ≤ g c) : mst f L ≤ mst g L := mst_le mst_ge.1 fun c hc => Int.le_trans (h c hc) (mst_ge.2 c hc)
theorem mst_const {f : List Int → Int} {L : List (List Int)} {v : Int} (h0 : 0 ≤ v) (hne : L ≠ []) (h : ∀ c ∈ L, f c = v) : mst f L = v := by
  obtain ⟨x, hx⟩ := ex_list hne
  apply Int.le_antisymm (mst_le h0 fun c hc => by rw [h c hc]; exact Int.le_refl _)
  rw [← h x hx]; exact mst_ge.2 x hx
theorem lsf_bd {f : List Int → Int} {L : List (List Int)} {m : Int} (h0 : 0 ≤ m) (h : ∀ c ∈ L, 0 ≤ f c ∧ f c ≤ m) : 0 ≤ lsf f L ∧ lsf f L ≤ m := by
  by_cases hL : L = []
  · subst hL
    have : lsf f [] = 0 := rfl
    omega
  · obtain ⟨⟨x, hx, e⟩, _⟩ := lsf_spec (f := f) hL
    rw [← e]; exact h x hx
set_option maxHeartbeats 4000000 in
theorem s49 (H : HsOk h k p b) (G : HG h) (st : Bool) : Iso E 49 [hsV h.fl k p b] st = some (.tup [I (lsf h.sa h.pk), I (lsf h.us h.pk), Bo (decide (h.pk ≠ [])), Bo false]) := by
  have a30 := fun st => s30 H st
  have a34 := fun st => s34 H st
  have b1 := lsf_bd (f := h.sa) (L := h.pk) (m := 1000) (by omega) fun c _ => sa_bd G c
  have b2 := lsf_bd (f := h.us) (L := h.pk) (m := h.bs.length) (by omega) fun c _ => us_bd c
  have hv := valid_iff.2 G
  simp only [hsV, ansN, askE, hv, if_true] at a30 a34
  refine Iso_of (es _ _ _ _) e49 ?_
  simp only [f49, hsV]
  by_cases hp : h.pk = []
  · simp only [hp, if_true] at a30 a34 b1 b2
    have e1 : lsf h.sa [] = 0 := rfl
    have e2 : lsf h.us [] = 0 := rfl
    have nn : ¬ (0 : Int) > h.bs.length := by omega
    rw [hp, e1, e2]
    have z1 : decide (([] : List (List Int)) ≠ []) = false := rfl
    have z2 : (if (3 : Int) = 0 then (0 : Int) else 0) = 0 := rfl
    simp only [e1, e2, z2] at a30 a34
    simp (disch := first | assumption | omega | (simp only [az]; done)) only [ru, eq_self, if_true, if_false, BEq.rfl, binI, AO.row?, splice, fillL, mmAll, loadV, storeV, zeros, Am.rowAt, Am.part, addOff, Nat.reduceAdd, Nat.reduceMul, Nat.reduceLeDiff, Nat.reduceSub, Nat.reduceLT, Int.reduceEq, Int.reduceLT, Int.reduceLE, Int.reduceGT, Int.reduceGE, Int.reduceAdd, Int.reduceSub, Int.reduceMul, Int.reduceNeg, Int.reduceToNat, reduceCtorEq, reduceIte, lenV_sl H.k, lenV_sl H.p, lenV_sl H.b, elem_kd H.k, elem_pr H.p, elem_in H.b, view_sl H.k, view_sl H.p, view_sl H.b, scalar_sl H.k, scalar_sl H.p, scalar_sl H.b, cells_sl H.k, cells_sl H.p, cells_sl H.b, pure_sl H.k, pure_sl H.p, pure_sl H.b, Int.toNat_natCast, a30, a34, z1, gUn, nn, fin4, decide_false, decide_true]
  · simp only [hp, if_false] at a30 a34
    have z1 : decide (h.pk ≠ []) = true := decide_eq_true hp
    have b1a := b1.1; have b1b := b1.2; have b2a := b2.1; have b2b := b2.2
    obtain ⟨x1, hx1⟩ : ∃ x, x = lsf h.sa h.pk := ⟨_, rfl⟩
    obtain ⟨x2, hx2⟩ : ∃ x, x = lsf h.us h.pk := ⟨_, rfl⟩
    rw [← hx1] at a30 b1a b1b ⊢
    rw [← hx2] at a34 b2a b2b ⊢
    have n1 : ¬ x1 < 0 := by omega
    have n2 : ¬ x1 > 1000 := by omega
    have n3 : ¬ x2 < 0 := by omega
    have n4 : ¬ x2 > h.bs.length := by omega
    simp (disch := first | assumption | omega | (simp only [az]; done)) only [ru, eq_self, if_true, if_false, BEq.rfl, binI, AO.row?, splice, fillL, mmAll, loadV, storeV, zeros, Am.rowAt, Am.part, addOff, Nat.reduceAdd, Nat.reduceMul, Nat.reduceLeDiff, Nat.reduceSub, Nat.reduceLT, Int.reduceEq, Int.reduceLT, Int.reduceLE, Int.reduceGT, Int.reduceGE, Int.reduceAdd, Int.reduceSub, Int.reduceMul, Int.reduceNeg, Int.reduceToNat, reduceCtorEq, reduceIte, lenV_sl H.k, lenV_sl H.p, lenV_sl H.b, elem_kd H.k, elem_pr H.p, elem_in H.b, view_sl H.k, view_sl H.p, view_sl H.b, scalar_sl H.k, scalar_sl H.p, scalar_sl H.b, cells_sl H.k, cells_sl H.p, cells_sl H.b, pure_sl H.k, pure_sl H.p, pure_sl H.b, Int.toNat_natCast, a30, a34, z1, gUn, n1, n2, n3, n4, fin4, decide_false, decide_true]
theorem mmx_le {x y : Int} : mmx false x y ≤ mmx true x y := by simp only [mmx, Bool.false_eq_true, if_false, if_true]; split <;> split <;> omega
theorem mmx_in {q : Bool} {x y a b : Int} (hx : inR x a b = true) (hy : inR y a b = true) : inR (mmx q x y) a b = true := by
  cases q
  · simp only [mmx, Bool.false_eq_true, if_false]; split <;> assumption
  · simp only [mmx, if_true]; split <;> assumption
set_option maxHeartbeats 8000000 in
theorem s14 (H0 : HsIn h k p b) (x y : Int) : Iso E 14 [hsV h.fl k p b, I x, I y] false = some (Bo true) := by
  have a0 := fun st => s46 H0 st
  simp only [hsV] at a0
  refine Iso_of (es _ _ _ _) e14 ?_
  simp only [f14, hsV]
  cases hr : h.rdy
  · simp (disch := first | assumption | omega | (simp only [az]; done)) only [ru, eq_self, if_true, if_false, BEq.rfl, binI, AO.row?, splice, fillL, mmAll, loadV, storeV, zeros, Am.rowAt, Am.part, addOff, Nat.reduceAdd, Nat.reduceMul, Nat.reduceLeDiff, Nat.reduceSub, Nat.reduceLT, Int.reduceEq, Int.reduceLT, Int.reduceLE, Int.reduceGT, Int.reduceGE, Int.reduceAdd, Int.reduceSub, Int.reduceMul, Int.reduceNeg, Int.reduceToNat, reduceCtorEq, reduceIte, lenV_sl H0.k, lenV_sl H0.p, lenV_sl H0.b, elem_kd H0.k, elem_pr H0.p, elem_in H0.b, view_sl H0.k, view_sl H0.p, view_sl H0.b, scalar_sl H0.k, scalar_sl H0.p, scalar_sl H0.b, cells_sl H0.k, cells_sl H0.p, cells_sl H0.b, pure_sl H0.k, pure_sl H0.p, pure_sl H0.b, Int.toNat_natCast, a0, hr, s16, gUn, Bool.not_false]
  cases hx : inR x 0 20
  · simp (disch := first | assumption | omega | (simp only [az]; done)) only [ru, eq_self, if_true, if_false, BEq.rfl, binI, AO.row?, splice, fillL, mmAll, loadV, storeV, zeros, Am.rowAt, Am.part, addOff, Nat.reduceAdd, Nat.reduceMul, Nat.reduceLeDiff, Nat.reduceSub, Nat.reduceLT, Int.reduceEq, Int.reduceLT, Int.reduceLE, Int.reduceGT, Int.reduceGE, Int.reduceAdd, Int.reduceSub, Int.reduceMul, Int.reduceNeg, Int.reduceToNat, reduceCtorEq, reduceIte, lenV_sl H0.k, lenV_sl H0.p, lenV_sl H0.b, elem_kd H0.k, elem_pr H0.p, elem_in H0.b, view_sl H0.k, view_sl H0.p, view_sl H0.b, scalar_sl H0.k, scalar_sl H0.p, scalar_sl H0.b, cells_sl H0.k, cells_sl H0.p, cells_sl H0.b, pure_sl H0.k, pure_sl H0.p, pure_sl H0.b, Int.toNat_natCast, a0, hr, s48, hx, s16, gUn, Bool.not_true, Bool.not_false]
  cases hy : inR y 0 20
  · simp (disch := first | assumption | omega | (simp only [az]; done)) only [ru, eq_self, if_true, if_false, BEq.rfl, binI, AO.row?, splice, fillL, mmAll, loadV, storeV, zeros, Am.rowAt, Am.part, addOff, Nat.reduceAdd, Nat.reduceMul, Nat.reduceLeDiff, Nat.reduceSub, Nat.reduceLT, Int.reduceEq, Int.reduceLT, Int.reduceLE, Int.reduceGT, Int.reduceGE, Int.reduceAdd, Int.reduceSub, Int.reduceMul, Int.reduceNeg, Int.reduceToNat, reduceCtorEq, reduceIte, lenV_sl H0.k, lenV_sl H0.p, lenV_sl H0.b, elem_kd H0.k, elem_pr H0.p, elem_in H0.b, view_sl H0.k, view_sl H0.p, view_sl H0.b, scalar_sl H0.k, scalar_sl H0.p, scalar_sl H0.b, cells_sl H0.k, cells_sl H0.p, cells_sl H0.b, pure_sl H0.k, pure_sl H0.p, pure_sl H0.b, Int.toNat_natCast, a0, hr, s48, hx, hy, s16, gUn, Bool.not_true, Bool.not_false]
  have H := rdy_ok H0 hr
  have G := (rdy_iff.1 hr).1
  have a49 := fun st => s49 H G st
  have a53 := fun st => s53 H G st
  have hv := valid_iff.2 G
  have lo := mmx_in (q := false) hx hy
  have hi := mmx_in (q := true) hx hy
  have le := mmx_le (x := x) (y := y)
  have a1 := fun st => s38 H (mmx false x y) st
  have a2 := fun st => s38 H (mmx true x y) st
  have a3 := fun st => s38 H 20 st
  have i20 : inR 20 0 20 = true := rfl
  simp only [hsV, ansN, askE, hv, lo, hi, i20, if_true] at a49 a53 a1 a2 a3
  by_cases hp : h.pk = []
  · have z1 : decide (h.pk ≠ []) = false := decide_eq_false fun hn => hn hp
    have z2 : ∀ v : Int, (if (3 : Int) = 0 then v else 0) = 0 := fun v => rfl
    simp only [hp, if_true, z2] at a1 a2 a3
    rw [z1] at a49
    simp (disch := first | assumption | omega | (simp only [az]; done)) only [ru, eq_self, if_true, if_false, BEq.rfl, binI, AO.row?, splice, fillL, mmAll, loadV, storeV, zeros, Am.rowAt, Am.part, addOff, Nat.reduceAdd, Nat.reduceMul, Nat.reduceLeDiff, Nat.reduceSub, Nat.reduceLT, Int.reduceEq, Int.reduceLT, Int.reduceLE, Int.reduceGT, Int.reduceGE, Int.reduceAdd, Int.reduceSub, Int.reduceMul, Int.reduceNeg, Int.reduceToNat, reduceCtorEq, reduceIte, lenV_sl H.k, lenV_sl H.p, lenV_sl H.b, elem_kd H.k, elem_pr H.p, elem_in H.b, view_sl H.k, view_sl H.p, view_sl H.b, scalar_sl H.k, scalar_sl H.p, scalar_sl H.b, cells_sl H.k, cells_sl H.p, cells_sl H.b, pure_sl H.k, pure_sl H.p, pure_sl H.b, Int.toNat_natCast, a0, hr, s48, hx, hy, a49, a1, a2, a3, s16, gUn, Bool.not_true, Bool.not_false, decide_true, decide_false]
    done
  · have z1 : decide (h.pk ≠ []) = true := decide_eq_true hp
    simp only [hp, if_false] at a1 a2 a3
    rw [z1] at a49
    have k1 := mst_mono (L := h.pk) fun c _ => ea_mono G le c
    have k2 := mst_mono (L := h.pk) fun c _ => ea_mono G (inR_iff.1 hi).2 c
    have k3 : mst (h.ea 20) h.pk = h.all := mst_const (all_nonneg G) hp fun c hc => ea_all G (G.mem_pk.1 hc)
    have k0 := (mst_ge (f := h.ea (mmx false x y)) (l := h.pk)).1
    rw [k3] at a3 k2
    obtain ⟨A, hA⟩ : ∃ A, A = mst (h.ea (mmx false x y)) h.pk := ⟨_, rfl⟩
    obtain ⟨B, hB⟩ : ∃ B, B = mst (h.ea (mmx true x y)) h.pk := ⟨_, rfl⟩
    obtain ⟨C, hC⟩ : ∃ C, C = h.all := ⟨_, rfl⟩
    rw [← hA] at a1 k0 k1
    rw [← hB] at a2 k1 k2
    rw [← hC] at a3 k2 a53
    have k0' : A ≥ 0 := k0
    simp (disch := first | assumption | omega | (simp only [az]; done)) only [ru, eq_self, if_true, if_false, BEq.rfl, binI, AO.row?, splice, fillL, mmAll, loadV, storeV, zeros, Am.rowAt, Am.part, addOff, Nat.reduceAdd, Nat.reduceMul, Nat.reduceLeDiff, Nat.reduceSub, Nat.reduceLT, Int.reduceEq, Int.reduceLT, Int.reduceLE, Int.reduceGT, Int.reduceGE, Int.reduceAdd, Int.reduceSub, Int.reduceMul, Int.reduceNeg, Int.reduceToNat, reduceCtorEq, reduceIte, lenV_sl H.k, lenV_sl H.p, lenV_sl H.b, elem_kd H.k, elem_pr H.p, elem_in H.b, view_sl H.k, view_sl H.p, view_sl H.b, scalar_sl H.k, scalar_sl H.p, scalar_sl H.b, cells_sl H.k, cells_sl H.p, cells_sl H.b, pure_sl H.k, pure_sl H.p, pure_sl H.b, Int.toNat_natCast, a0, hr, s48, hx, hy, a49, a1, a2, a3, a53, k0', k1, k2, s16, gUn, Bool.not_true, Bool.not_false, decide_true, decide_false]
theorem pk_more (G : HG h) (hb : h.bs.length < 4) {s : Int} (hs : 0 ≤ s ∧ s ≤ 99) {x : List Int} (P : Pkg h x) : x ∈ (h.more s).pk := by
  refine (more_G G hb hs).mem_pk.2 ⟨P.l, fun c hc => ?_, ?_⟩
  · have := P.c c hc
    have e : (h.more s).bs.length = h.bs.length + 1 := by simp [Hs.more]
    omega
  · rw [Hs.ft_iff]
    intro c hc
    have e : (h.more s).bs.length = h.bs.length + 1 := by simp [Hs.more]
    by_cases hcc : c < h.bs.length
    · have e1 : (h.more s).bs.getD c 0 = h.bs.getD c 0 := by
        show (h.bs ++ [s]).getD c 0 = _
        rw [List.getD_eq_getElem?_getD, List.getElem?_append_left hcc, List.getD_eq_getElem?_getD]
      rw [e1]; exact Hs.ft_iff.1 P.f c hcc
    · obtain rfl : c = h.bs.length := by omega
      have e2 : (h.more s).bs.getD h.bs.length 0 = s := by
        show (h.bs ++ [s]).getD h.bs.length 0 = s
        simp [List.getD_eq_getElem?_getD]
      rw [e2]
      show ndP h.ks h.fl (prs h.ps x h.bs.length) ≤ s
      rw [prs_out P (Nat.le_refl _)]
      simp [ndP, slP, lbP, sm]; exact hs.1
theorem buy_iff (G : HG h) (hb : h.bs.length < 4) {s : Int} (hs : 0 ≤ s ∧ s ≤ 99) : (h.more s).pk ≠ [] ↔ h.pk ≠ [] ∨ ((buyF h 100).isSome = true ∧ buyN h ≤ s) := by
  obtain ⟨B1, B2⟩ := buy_eq G hb
  constructor
  · intro hn
    obtain ⟨x, hx⟩ := ex_list hn
    obtain ⟨h1, h2⟩ := (more_mem G hb hs).1 hx
    have h9 : (h.more 99).pk ≠ [] := fun e => by rw [e] at h1; cases h1
    refine .inr ⟨by rw [B1]; exact decide_eq_true h9, ?_⟩
    rw [B2 h9]
    exact Int.le_trans ((lsf_spec (f := lastF h) h9).2 x h1) h2
  · rintro (hn | ⟨h1, h2⟩)
    · obtain ⟨x, hx⟩ := ex_list hn
      have := pk_more G hb hs (G.mem_pk.1 hx)
      intro e; rw [e] at this; cases this
    · have h9 : (h.more 99).pk ≠ [] := by rw [B1] at h1; exact of_decide_eq_true h1
      rw [B2 h9] at h2
      obtain ⟨⟨x, hx, ex⟩, _⟩ := lsf_spec (f := lastF h) h9
      have := (more_mem G hb hs).2 ⟨hx, by rw [← ex] at h2; exact h2⟩
      intro e; rw [e] at this; cases this
theorem buyN_bd : 0 ≤ buyN h ∧ buyN h ≤ 99 := by
  unfold buyN
  cases hf : buyF h 100 with
  | none => simp
  | some s =>
    have := List.mem_of_find?_eq_some hf
    have := List.mem_range.1 this
    simp only
    omega
set_option maxHeartbeats 8000000 in
theorem s13 (H0 : HsIn h k p b) (s : Int) : Iso E 13 [hsV h.fl k p b, I s] false = some (Bo true) := by
  have a0 := fun st => s46 H0 st
  simp only [hsV] at a0
  refine Iso_of (es _ _ _ _) e13 ?_
  simp only [f13, hsV]
  cases hr : h.rdy
  · simp (disch := first | assumption | omega | (simp only [az]; done)) only [ru, eq_self, if_true, if_false, BEq.rfl, binI, AO.row?, splice, fillL, mmAll, loadV, storeV, zeros, Am.rowAt, Am.part, addOff, Nat.reduceAdd, Nat.reduceMul, Nat.reduceLeDiff, Nat.reduceSub, Nat.reduceLT, Int.reduceEq, Int.reduceLT, Int.reduceLE, Int.reduceGT, Int.reduceGE, Int.reduceAdd, Int.reduceSub, Int.reduceMul, Int.reduceNeg, Int.reduceToNat, reduceCtorEq, reduceIte, lenV_sl H0.k, lenV_sl H0.p, lenV_sl H0.b, elem_kd H0.k, elem_pr H0.p, elem_in H0.b, view_sl H0.k, view_sl H0.p, view_sl H0.b, scalar_sl H0.k, scalar_sl H0.p, scalar_sl H0.b, cells_sl H0.k, cells_sl H0.p, cells_sl H0.b, pure_sl H0.k, pure_sl H0.p, pure_sl H0.b, Int.toNat_natCast, a0, hr, s16, gUn, Bool.not_false]
  have H := rdy_ok H0 hr
  have G := (rdy_iff.1 hr).1
  have nb := G.nb
  have a49 := fun st => s49 H G st
  have a44 := fun st => s44 H st
  have hv := valid_iff.2 G
  have bb := buyN_bd (h := h)
  simp only [hsV, buyV, buyE, hv, if_true, Bool.true_and] at a49 a44
  by_cases h4 : h.bs.length = 4
  · have h4' : (h.bs.length : Int) = 4 := by omega
    have z4 : decide (h.bs.length ≠ 4) = false := decide_eq_false fun hn => hn h4
    rw [z4, Bool.and_false, if_neg (by decide)] at a44
    by_cases hp : h.pk = []
    · have z1 : decide (h.pk ≠ []) = false := decide_eq_false fun hn => hn hp
      rw [if_neg (fun hn => hn hp), if_pos h4] at a44
      rw [z1] at a49
      simp (disch := first | assumption | omega | (simp only [az]; done)) only [ru, eq_self, if_true, if_false, BEq.rfl, binI, AO.row?, splice, fillL, mmAll, loadV, storeV, zeros, Am.rowAt, Am.part, addOff, Nat.reduceAdd, Nat.reduceMul, Nat.reduceLeDiff, Nat.reduceSub, Nat.reduceLT, Int.reduceEq, Int.reduceLT, Int.reduceLE, Int.reduceGT, Int.reduceGE, Int.reduceAdd, Int.reduceSub, Int.reduceMul, Int.reduceNeg, Int.reduceToNat, reduceCtorEq, reduceIte, lenV_sl H.k, lenV_sl H.p, lenV_sl H.b, elem_kd H.k, elem_pr H.p, elem_in H.b, view_sl H.k, view_sl H.p, view_sl H.b, scalar_sl H.k, scalar_sl H.p, scalar_sl H.b, cells_sl H.k, cells_sl H.p, cells_sl H.b, pure_sl H.k, pure_sl H.p, pure_sl H.b, Int.toNat_natCast, a0, hr, a44, a49, h4', s16, gUn, Bool.not_true, Bool.not_false, decide_true, decide_false]
      done
    · have z1 : decide (h.pk ≠ []) = true := decide_eq_true hp
      rw [if_pos hp] at a44
      rw [z1] at a49
      simp (disch := first | assumption | omega | (simp only [az]; done)) only [ru, eq_self, if_true, if_false, BEq.rfl, binI, AO.row?, splice, fillL, mmAll, loadV, storeV, zeros, Am.rowAt, Am.part, addOff, Nat.reduceAdd, Nat.reduceMul, Nat.reduceLeDiff, Nat.reduceSub, Nat.reduceLT, Int.reduceEq, Int.reduceLT, Int.reduceLE, Int.reduceGT, Int.reduceGE, Int.reduceAdd, Int.reduceSub, Int.reduceMul, Int.reduceNeg, Int.reduceToNat, reduceCtorEq, reduceIte, lenV_sl H.k, lenV_sl H.p, lenV_sl H.b, elem_kd H.k, elem_pr H.p, elem_in H.b, view_sl H.k, view_sl H.p, view_sl H.b, scalar_sl H.k, scalar_sl H.p, scalar_sl H.b, cells_sl H.k, cells_sl H.p, cells_sl H.b, pure_sl H.k, pure_sl H.p, pure_sl H.b, Int.toNat_natCast, a0, hr, a44, a49, h4', s16, gUn, Bool.not_true, Bool.not_false, decide_true, decide_false]
      done
  have h4' : ¬ (h.bs.length : Int) = 4 := by omega
  have hb : h.bs.length < 4 := by omega
  have z4 : decide (h.bs.length ≠ 4) = true := decide_eq_true h4
  rw [z4, Bool.and_true] at a44
  have a59 := fun st => s59 H s st
  obtain ⟨B, hB⟩ : ∃ B, B = buyN h := ⟨_, rfl⟩
  have fls : (h.more s).fl = h.fl := rfl
  obtain ⟨k', hk'⟩ : ∃ v, v = slV 2 Kd.e (h.more s).ks := ⟨_, rfl⟩
  obtain ⟨p', hp'⟩ : ∃ v, v = slV 2 Pr.e (h.more s).ps := ⟨_, rfl⟩
  obtain ⟨b', hb'⟩ : ∃ v, v = slV 1 intL (h.more s).bs := ⟨_, rfl⟩
  have HM : HsOk (h.more s) k' p' b' := { k := by rw [hk']; exact slV_is, p := by rw [hp']; exact slV_is, b := by rw [hb']; exact slV_is, nk := H.nk, np := H.np, nb := by simp [Hs.more]; omega }
  have a46 := fun st => s46 HM.toHsIn st
  simp only [hsV, cpV, ← hk', ← hp', ← hb', fls] at a59 a46
  by_cases hp : h.pk = []
  · have z1 : decide (h.pk ≠ []) = false := decide_eq_false fun hn => hn hp
    rw [decide_eq_true hp, if_pos rfl, if_neg (fun hn => hn hp), if_neg h4, ← hB] at a44
    rw [z1] at a49
    rw [← hB] at bb
    have n1 : ¬ B < 0 := by omega
    have n2 : ¬ B > 99 := by omega
    cases hso : (buyF h 100).isSome
    · rw [hso] at a44
      simp only [Bool.false_eq_true, if_false] at a44
      cases hs : inR s 0 99
      · simp (disch := first | assumption | omega | (simp only [az]; done)) only [ru, eq_self, if_true, if_false, BEq.rfl, binI, AO.row?, splice, fillL, mmAll, loadV, storeV, zeros, Am.rowAt, Am.part, addOff, Nat.reduceAdd, Nat.reduceMul, Nat.reduceLeDiff, Nat.reduceSub, Nat.reduceLT, Int.reduceEq, Int.reduceLT, Int.reduceLE, Int.reduceGT, Int.reduceGE, Int.reduceAdd, Int.reduceSub, Int.reduceMul, Int.reduceNeg, Int.reduceToNat, reduceCtorEq, reduceIte, lenV_sl H.k, lenV_sl H.p, lenV_sl H.b, elem_kd H.k, elem_pr H.p, elem_in H.b, view_sl H.k, view_sl H.p, view_sl H.b, scalar_sl H.k, scalar_sl H.p, scalar_sl H.b, cells_sl H.k, cells_sl H.p, cells_sl H.b, pure_sl H.k, pure_sl H.p, pure_sl H.b, Int.toNat_natCast, a0, hr, a44, a49, h4', n1, n2, s57, hs, s16, gUn, Bool.not_true, Bool.not_false, decide_true, decide_false]
      cases hm : (h.more s).rdy
      · simp (disch := first | assumption | omega | (simp only [az]; done)) only [ru, eq_self, if_true, if_false, BEq.rfl, binI, AO.row?, splice, fillL, mmAll, loadV, storeV, zeros, Am.rowAt, Am.part, addOff, Nat.reduceAdd, Nat.reduceMul, Nat.reduceLeDiff, Nat.reduceSub, Nat.reduceLT, Int.reduceEq, Int.reduceLT, Int.reduceLE, Int.reduceGT, Int.reduceGE, Int.reduceAdd, Int.reduceSub, Int.reduceMul, Int.reduceNeg, Int.reduceToNat, reduceCtorEq, reduceIte, lenV_sl H.k, lenV_sl H.p, lenV_sl H.b, elem_kd H.k, elem_pr H.p, elem_in H.b, view_sl H.k, view_sl H.p, view_sl H.b, scalar_sl H.k, scalar_sl H.p, scalar_sl H.b, cells_sl H.k, cells_sl H.p, cells_sl H.b, pure_sl H.k, pure_sl H.p, pure_sl H.b, Int.toNat_natCast, lenV_sl HM.k, lenV_sl HM.p, lenV_sl HM.b, elem_kd HM.k, elem_pr HM.p, elem_in HM.b, view_sl HM.k, view_sl HM.p, view_sl HM.b, scalar_sl HM.k, scalar_sl HM.p, scalar_sl HM.b, cells_sl HM.k, cells_sl HM.p, cells_sl HM.b, pure_sl HM.k, pure_sl HM.p, pure_sl HM.b, Int.toNat_natCast, a0, hr, a44, a49, h4', n1, n2, s57, hs, a59, a46, hm, s16, gUn, Bool.not_true, Bool.not_false, decide_true, decide_false]
      have GM := (rdy_iff.1 hm).1
      have c49 := fun st => s49 HM GM st
      have hsr := inR_iff.1 hs
      have e9 : decide ((h.more s).pk ≠ []) = false := decide_eq_false fun hn => by
        rcases (buy_iff G hb ⟨hsr.1, hsr.2⟩).1 hn with h1 | h1
        · exact h1 hp
        · rw [hso] at h1; cases h1.1
      rw [e9] at c49
      simp only [hsV, fls] at c49
      simp (disch := first | assumption | omega | (simp only [az]; done)) only [ru, eq_self, if_true, if_false, BEq.rfl, binI, AO.row?, splice, fillL, mmAll, loadV, storeV, zeros, Am.rowAt, Am.part, addOff, Nat.reduceAdd, Nat.reduceMul, Nat.reduceLeDiff, Nat.reduceSub, Nat.reduceLT, Int.reduceEq, Int.reduceLT, Int.reduceLE, Int.reduceGT, Int.reduceGE, Int.reduceAdd, Int.reduceSub, Int.reduceMul, Int.reduceNeg, Int.reduceToNat, reduceCtorEq, reduceIte, lenV_sl H.k, lenV_sl H.p, lenV_sl H.b, elem_kd H.k, elem_pr H.p, elem_in H.b, view_sl H.k, view_sl H.p, view_sl H.b, scalar_sl H.k, scalar_sl H.p, scalar_sl H.b, cells_sl H.k, cells_sl H.p, cells_sl H.b, pure_sl H.k, pure_sl H.p, pure_sl H.b, Int.toNat_natCast, lenV_sl HM.k, lenV_sl HM.p, lenV_sl HM.b, elem_kd HM.k, elem_pr HM.p, elem_in HM.b, view_sl HM.k, view_sl HM.p, view_sl HM.b, scalar_sl HM.k, scalar_sl HM.p, scalar_sl HM.b, cells_sl HM.k, cells_sl HM.p, cells_sl HM.b, pure_sl HM.k, pure_sl HM.p, pure_sl HM.b, Int.toNat_natCast, a0, hr, a44, a49, h4', n1, n2, s57, hs, a59, a46, hm, c49, s16, gUn, Bool.not_true, Bool.not_false, decide_true, decide_false]
      done
    · rw [hso] at a44
      simp only [if_true] at a44
      cases hs : inR s 0 99
      · simp (disch := first | assumption | omega | (simp only [az]; done)) only [ru, eq_self, if_true, if_false, BEq.rfl, binI, AO.row?, splice, fillL, mmAll, loadV, storeV, zeros, Am.rowAt, Am.part, addOff, Nat.reduceAdd, Nat.reduceMul, Nat.reduceLeDiff, Nat.reduceSub, Nat.reduceLT, Int.reduceEq, Int.reduceLT, Int.reduceLE, Int.reduceGT, Int.reduceGE, Int.reduceAdd, Int.reduceSub, Int.reduceMul, Int.reduceNeg, Int.reduceToNat, reduceCtorEq, reduceIte, lenV_sl H.k, lenV_sl H.p, lenV_sl H.b, elem_kd H.k, elem_pr H.p, elem_in H.b, view_sl H.k, view_sl H.p, view_sl H.b, scalar_sl H.k, scalar_sl H.p, scalar_sl H.b, cells_sl H.k, cells_sl H.p, cells_sl H.b, pure_sl H.k, pure_sl H.p, pure_sl H.b, Int.toNat_natCast, a0, hr, a44, a49, h4', n1, n2, s57, hs, s16, gUn, Bool.not_true, Bool.not_false, decide_true, decide_false]
      cases hm : (h.more s).rdy
      · simp (disch := first | assumption | omega | (simp only [az]; done)) only [ru, eq_self, if_true, if_false, BEq.rfl, binI, AO.row?, splice, fillL, mmAll, loadV, storeV, zeros, Am.rowAt, Am.part, addOff, Nat.reduceAdd, Nat.reduceMul, Nat.reduceLeDiff, Nat.reduceSub, Nat.reduceLT, Int.reduceEq, Int.reduceLT, Int.reduceLE, Int.reduceGT, Int.reduceGE, Int.reduceAdd, Int.reduceSub, Int.reduceMul, Int.reduceNeg, Int.reduceToNat, reduceCtorEq, reduceIte, lenV_sl H.k, lenV_sl H.p, lenV_sl H.b, elem_kd H.k, elem_pr H.p, elem_in H.b, view_sl H.k, view_sl H.p, view_sl H.b, scalar_sl H.k, scalar_sl H.p, scalar_sl H.b, cells_sl H.k, cells_sl H.p, cells_sl H.b, pure_sl H.k, pure_sl H.p, pure_sl H.b, Int.toNat_natCast, lenV_sl HM.k, lenV_sl HM.p, lenV_sl HM.b, elem_kd HM.k, elem_pr HM.p, elem_in HM.b, view_sl HM.k, view_sl HM.p, view_sl HM.b, scalar_sl HM.k, scalar_sl HM.p, scalar_sl HM.b, cells_sl HM.k, cells_sl HM.p, cells_sl HM.b, pure_sl HM.k, pure_sl HM.p, pure_sl HM.b, Int.toNat_natCast, a0, hr, a44, a49, h4', n1, n2, s57, hs, a59, a46, hm, s16, gUn, Bool.not_true, Bool.not_false, decide_true, decide_false]
      have GM := (rdy_iff.1 hm).1
      have c49 := fun st => s49 HM GM st
      have hsr := inR_iff.1 hs
      have e9 : decide ((h.more s).pk ≠ []) = decide (s ≥ B) := by
        rw [decide_eq_decide, buy_iff G hb ⟨hsr.1, hsr.2⟩]
        exact ⟨fun h1 => by rcases h1 with h1 | h1; exact absurd hp h1; rw [hB]; exact h1.2, fun h1 => .inr ⟨hso, by rw [hB] at h1; exact h1⟩⟩
      rw [e9] at c49
      simp only [hsV, fls] at c49
      by_cases hge : s ≥ B
      · rw [decide_eq_true hge] at c49
        simp (disch := first | assumption | omega | (simp only [az]; done)) only [ru, eq_self, if_true, if_false, BEq.rfl, binI, AO.row?, splice, fillL, mmAll, loadV, storeV, zeros, Am.rowAt, Am.part, addOff, Nat.reduceAdd, Nat.reduceMul, Nat.reduceLeDiff, Nat.reduceSub, Nat.reduceLT, Int.reduceEq, Int.reduceLT, Int.reduceLE, Int.reduceGT, Int.reduceGE, Int.reduceAdd, Int.reduceSub, Int.reduceMul, Int.reduceNeg, Int.reduceToNat, reduceCtorEq, reduceIte, lenV_sl H.k, lenV_sl H.p, lenV_sl H.b, elem_kd H.k, elem_pr H.p, elem_in H.b, view_sl H.k, view_sl H.p, view_sl H.b, scalar_sl H.k, scalar_sl H.p, scalar_sl H.b, cells_sl H.k, cells_sl H.p, cells_sl H.b, pure_sl H.k, pure_sl H.p, pure_sl H.b, Int.toNat_natCast, lenV_sl HM.k, lenV_sl HM.p, lenV_sl HM.b, elem_kd HM.k, elem_pr HM.p, elem_in HM.b, view_sl HM.k, view_sl HM.p, view_sl HM.b, scalar_sl HM.k, scalar_sl HM.p, scalar_sl HM.b, cells_sl HM.k, cells_sl HM.p, cells_sl HM.b, pure_sl HM.k, pure_sl HM.p, pure_sl HM.b, Int.toNat_natCast, a0, hr, a44, a49, h4', n1, n2, s57, hs, a59, a46, hm, c49, hge, s16, gUn, Bool.not_true, Bool.not_false, decide_true, decide_false]
        done
      · rw [decide_eq_false hge] at c49
        simp (disch := first | assumption | omega | (simp only [az]; done)) only [ru, eq_self, if_true, if_false, BEq.rfl, binI, AO.row?, splice, fillL, mmAll, loadV, storeV, zeros, Am.rowAt, Am.part, addOff, Nat.reduceAdd, Nat.reduceMul, Nat.reduceLeDiff, Nat.reduceSub, Nat.reduceLT, Int.reduceEq, Int.reduceLT, Int.reduceLE, Int.reduceGT, Int.reduceGE, Int.reduceAdd, Int.reduceSub, Int.reduceMul, Int.reduceNeg, Int.reduceToNat, reduceCtorEq, reduceIte, lenV_sl H.k, lenV_sl H.p, lenV_sl H.b, elem_kd H.k, elem_pr H.p, elem_in H.b, view_sl H.k, view_sl H.p, view_sl H.b, scalar_sl H.k, scalar_sl H.p, scalar_sl H.b, cells_sl H.k, cells_sl H.p, cells_sl H.b, pure_sl H.k, pure_sl H.p, pure_sl H.b, Int.toNat_natCast, lenV_sl HM.k, lenV_sl HM.p, lenV_sl HM.b, elem_kd HM.k, elem_pr HM.p, elem_in HM.b, view_sl HM.k, view_sl HM.p, view_sl HM.b, scalar_sl HM.k, scalar_sl HM.p, scalar_sl HM.b, cells_sl HM.k, cells_sl HM.p, cells_sl HM.b, pure_sl HM.k, pure_sl HM.p, pure_sl HM.b, Int.toNat_natCast, a0, hr, a44, a49, h4', n1, n2, s57, hs, a59, a46, hm, c49, hge, s16, gUn, Bool.not_true, Bool.not_false, decide_true, decide_false]
        done
  · have z1 : decide (h.pk ≠ []) = true := decide_eq_true hp
    rw [if_pos hp, decide_eq_false hp, if_neg (by decide)] at a44
    rw [z1] at a49
    cases hs : inR s 0 99
    · simp (disch := first | assumption | omega | (simp only [az]; done)) only [ru, eq_self, if_true, if_false, BEq.rfl, binI, AO.row?, splice, fillL, mmAll, loadV, storeV, zeros, Am.rowAt, Am.part, addOff, Nat.reduceAdd, Nat.reduceMul, Nat.reduceLeDiff, Nat.reduceSub, Nat.reduceLT, Int.reduceEq, Int.reduceLT, Int.reduceLE, Int.reduceGT, Int.reduceGE, Int.reduceAdd, Int.reduceSub, Int.reduceMul, Int.reduceNeg, Int.reduceToNat, reduceCtorEq, reduceIte, lenV_sl H.k, lenV_sl H.p, lenV_sl H.b, elem_kd H.k, elem_pr H.p, elem_in H.b, view_sl H.k, view_sl H.p, view_sl H.b, scalar_sl H.k, scalar_sl H.p, scalar_sl H.b, cells_sl H.k, cells_sl H.p, cells_sl H.b, pure_sl H.k, pure_sl H.p, pure_sl H.b, Int.toNat_natCast, a0, hr, a44, a49, h4', s57, hs, s16, gUn, Bool.not_true, Bool.not_false, decide_true, decide_false]
    cases hm : (h.more s).rdy
    · simp (disch := first | assumption | omega | (simp only [az]; done)) only [ru, eq_self, if_true, if_false, BEq.rfl, binI, AO.row?, splice, fillL, mmAll, loadV, storeV, zeros, Am.rowAt, Am.part, addOff, Nat.reduceAdd, Nat.reduceMul, Nat.reduceLeDiff, Nat.reduceSub, Nat.reduceLT, Int.reduceEq, Int.reduceLT, Int.reduceLE, Int.reduceGT, Int.reduceGE, Int.reduceAdd, Int.reduceSub, Int.reduceMul, Int.reduceNeg, Int.reduceToNat, reduceCtorEq, reduceIte, lenV_sl H.k, lenV_sl H.p, lenV_sl H.b, elem_kd H.k, elem_pr H.p, elem_in H.b, view_sl H.k, view_sl H.p, view_sl H.b, scalar_sl H.k, scalar_sl H.p, scalar_sl H.b, cells_sl H.k, cells_sl H.p, cells_sl H.b, pure_sl H.k, pure_sl H.p, pure_sl H.b, Int.toNat_natCast, lenV_sl HM.k, lenV_sl HM.p, lenV_sl HM.b, elem_kd HM.k, elem_pr HM.p, elem_in HM.b, view_sl HM.k, view_sl HM.p, view_sl HM.b, scalar_sl HM.k, scalar_sl HM.p, scalar_sl HM.b, cells_sl HM.k, cells_sl HM.p, cells_sl HM.b, pure_sl HM.k, pure_sl HM.p, pure_sl HM.b, Int.toNat_natCast, a0, hr, a44, a49, h4', s57, hs, a59, a46, hm, s16, gUn, Bool.not_true, Bool.not_false, decide_true, decide_false]
    have GM := (rdy_iff.1 hm).1
    have c49 := fun st => s49 HM GM st
    have hsr := inR_iff.1 hs
    have e9 : decide ((h.more s).pk ≠ []) = true := decide_eq_true ((buy_iff G hb ⟨hsr.1, hsr.2⟩).2 (.inl hp))
    rw [e9] at c49
    simp only [hsV, fls] at c49
    simp (disch := first | assumption | omega | (simp only [az]; done)) only [ru, eq_self, if_true, if_false, BEq.rfl, binI, AO.row?, splice, fillL, mmAll, loadV, storeV, zeros, Am.rowAt, Am.part, addOff, Nat.reduceAdd, Nat.reduceMul, Nat.reduceLeDiff, Nat.reduceSub, Nat.reduceLT, Int.reduceEq, Int.reduceLT, Int.reduceLE, Int.reduceGT, Int.reduceGE, Int.reduceAdd, Int.reduceSub, Int.reduceMul, Int.reduceNeg, Int.reduceToNat, reduceCtorEq, reduceIte, lenV_sl H.k, lenV_sl H.p, lenV_sl H.b, elem_kd H.k, elem_pr H.p, elem_in H.b, view_sl H.k, view_sl H.p, view_sl H.b, scalar_sl H.k, scalar_sl H.p, scalar_sl H.b, cells_sl H.k, cells_sl H.p, cells_sl H.b, pure_sl H.k, pure_sl H.p, pure_sl H.b, Int.toNat_natCast, lenV_sl HM.k, lenV_sl HM.p, lenV_sl HM.b, elem_kd HM.k, elem_pr HM.p, elem_in HM.b, view_sl HM.k, view_sl HM.p, view_sl HM.b, scalar_sl HM.k, scalar_sl HM.p, scalar_sl HM.b, cells_sl HM.k, cells_sl HM.p, cells_sl HM.b, pure_sl HM.k, pure_sl HM.p, pure_sl HM.b, Int.toNat_natCast, a0, hr, a44, a49, h4', s57, hs, a59, a46, hm, c49, s16, gUn, Bool.not_true, Bool.not_false, decide_true, decide_false]
end
end Go.Proofs.Ytcdedbpmjhjehaa.S

