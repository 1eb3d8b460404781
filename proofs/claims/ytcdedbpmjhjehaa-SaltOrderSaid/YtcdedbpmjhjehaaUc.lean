/-
SaltOrder: barrels and parts in another order.
-/
import Derived.Test.YtcdedbpmjhjehaaSx
namespace Go.Proofs.Ytcdedbpmjhjehaa.S
open Go Go.Am Go.Proofs.Ytcdedbpmjhjehaa.T
set_option maxRecDepth 100000
set_option linter.unusedSimpArgs false
set_option linter.unusedVariables false

/-- each list of one house has its like in another -/
structure Tr (h o : Hs) : Prop where
  t : ∀ x, Pko h x → ∃ y, Pko o y ∧ (Pkg h x → Pkg o y) ∧ o.sa y = h.sa x ∧ o.us y = h.us x ∧ (∀ d, o.ea d y = h.ea d x) ∧ o.lbl y = h.lbl x
theorem Tr.trans {a b c : Hs} (h : Tr a b) (h' : Tr b c) : Tr a c := ⟨fun x P => by
  obtain ⟨y, P1, k1, a1, b1, c1, d1⟩ := h.t x P
  obtain ⟨z, P2, k2, a2, b2, c2, d2⟩ := h'.t y P1
  exact ⟨z, P2, fun hp => k2 (k1 hp), a2.trans a1, b2.trans b1, fun d => (c2 d).trans (c1 d), d2.trans d1⟩⟩
theorem Tr.ne {h o : Hs} (G : HG h) (Go : HG o) (T : Tr h o) (hn : h.pk ≠ []) : o.pk ≠ [] := by
  obtain ⟨x, hx⟩ := ex_list hn
  have P := G.mem_pk.1 hx
  obtain ⟨y, _, k, _⟩ := T.t x P.o
  have := Go.mem_pk.2 (k P)
  intro e; rw [e] at this; cases this
theorem Tr.le {h o : Hs} (G : HG h) (Go : HG o) (T : Tr h o) (hn : h.pk ≠ []) : lsf o.sa o.pk ≤ lsf h.sa h.pk ∧ lsf o.us o.pk ≤ lsf h.us h.pk := by
  have hn' := T.ne G Go hn
  obtain ⟨⟨x, hx, ex⟩, _⟩ := lsf_spec (f := h.sa) hn
  obtain ⟨⟨z, hz, ez⟩, _⟩ := lsf_spec (f := h.us) hn
  obtain ⟨y, _, k, e1, _⟩ := T.t x (G.mem_pk.1 hx).o
  obtain ⟨w, _, k2, _, e2, _⟩ := T.t z (G.mem_pk.1 hz).o
  have h1 := (lsf_spec (f := o.sa) hn').2 y (Go.mem_pk.2 (k (G.mem_pk.1 hx)))
  have h2 := (lsf_spec (f := o.us) hn').2 w (Go.mem_pk.2 (k2 (G.mem_pk.1 hz)))
  omega
theorem Tr.mle {h o : Hs} (G : HG h) (Go : HG o) (T : Tr h o) (d s : Int) : mst (h.ea d) h.pk ≤ mst (o.ea d) o.pk ∧ mst (h.sto s) h.po ≤ mst (o.sto s) o.po := by
  constructor
  · refine mst_le mst_ge.1 fun x hx => ?_
    obtain ⟨y, _, k, _, _, e, _⟩ := T.t x (G.mem_pk.1 hx).o
    have := (mst_ge (f := o.ea d) (l := o.pk)).2 y (Go.mem_pk.2 (k (G.mem_pk.1 hx)))
    rw [e] at this; exact this
  · refine mst_le mst_ge.1 fun x hx => ?_
    obtain ⟨y, P, _, e1, _, _, e2⟩ := T.t x (G.mem_po.1 hx)
    have := (mst_ge (f := o.sto s) (l := o.po)).2 y (Go.mem_po.2 P)
    have e : o.sto s y = h.sto s x := by unfold Hs.sto; rw [e1, e2]
    rw [e] at this; exact this
theorem lsf_nil {f : List Int → Int} : lsf f [] = 0 := rfl
/-- what is the same -/
theorem Tr.eq {h o : Hs} (G : HG h) (Go : HG o) (T : Tr h o) (T' : Tr o h) : (h.pk ≠ [] ↔ o.pk ≠ []) ∧ lsf o.sa o.pk = lsf h.sa h.pk ∧ lsf o.us o.pk = lsf h.us h.pk ∧ (∀ d, mst (o.ea d) o.pk = mst (h.ea d) h.pk) ∧ ∀ s, mst (o.sto s) o.po = mst (h.sto s) h.po := by
  refine ⟨⟨T.ne G Go, T'.ne Go G⟩, ?_, ?_, fun d => Int.le_antisymm (T'.mle Go G d 0).1 (T.mle G Go d 0).1, fun s => Int.le_antisymm (T'.mle Go G 0 s).2 (T.mle G Go 0 s).2⟩
  · by_cases hn : h.pk ≠ []
    · exact Int.le_antisymm (T.le G Go hn).1 (T'.le Go G (T.ne G Go hn)).1
    · have e1 := Decidable.not_not.1 hn
      have e2 : o.pk = [] := Decidable.not_not.1 fun h2 => hn (T'.ne Go G h2)
      rw [e1, e2]; rfl
  · by_cases hn : h.pk ≠ []
    · exact Int.le_antisymm (T.le G Go hn).2 (T'.le Go G (T.ne G Go hn)).2
    · have e1 := Decidable.not_not.1 hn
      have e2 : o.pk = [] := Decidable.not_not.1 fun h2 => hn (T'.ne Go G h2)
      rw [e1, e2]; rfl
/-! parts in another order -/
theorem zip_cut {C D : List Pr} {x : List Int} (hx : x.length = (C ++ D).length) : (C ++ D).zip x = C.zip (x.take C.length) ++ D.zip (x.drop C.length) := by
  have : x = x.take C.length ++ x.drop C.length := (List.take_append_drop _ _).symm
  have l : C.length = (x.take C.length).length := by rw [List.length_take, hx, List.length_append]; omega
  conv => lhs; rw [this]
  rw [List.zip_append l]
theorem prs_swap {C D : List Pr} {x : List Int} (hx : x.length = (C ++ D).length) {c : Int} : (prs (D ++ C) (x.drop C.length ++ x.take C.length) c).Perm (prs (C ++ D) x c) := by
  have l : D.length = (x.drop C.length).length := by rw [List.length_drop, hx, List.length_append]; omega
  unfold prs
  rw [zip_cut hx, List.zip_append l, List.filter_append, List.filter_append, List.map_append, List.map_append]
  exact List.perm_append_comm
theorem kp_swap {C D : List Pr} {x : List Int} (hx : x.length = (C ++ D).length) : (kpP (D ++ C) (x.drop C.length ++ x.take C.length)).Perm (kpP (C ++ D) x) := by
  have l : D.length = (x.drop C.length).length := by rw [List.length_drop, hx, List.length_append]; omega
  unfold kpP
  rw [zip_cut hx, List.zip_append l, List.filter_append, List.filter_append, List.map_append, List.map_append]
  exact List.perm_append_comm
theorem tr_ps {h : Hs} {C D : List Pr} (hp : h.ps = C ++ D) : Tr h { h with ps := D ++ C } := ⟨fun x P => by
  have hx : x.length = (C ++ D).length := by rw [P.l, hp]
  have pe : ∀ c : Int, (prs (D ++ C) (x.drop C.length ++ x.take C.length) c).Perm (prs h.ps x c) := fun c => by rw [hp]; exact prs_swap hx
  have mem : ∀ c ∈ x.drop C.length ++ x.take C.length, c ∈ x := fun c hc => by
    rcases List.mem_append.1 hc with h1 | h1
    · exact List.mem_of_mem_drop h1
    · exact List.mem_of_mem_take h1
  have len : (x.drop C.length ++ x.take C.length).length = (D ++ C).length := by
    rw [List.length_append, List.length_append, List.length_drop, List.length_take, hx, List.length_append]; omega
  have hf : Hs.ft { h with ps := D ++ C } (x.drop C.length ++ x.take C.length) = true := by
    rw [Hs.ft_iff]
    intro c hc
    have := Hs.ft_iff.1 P.f c hc
    show ndP h.ks h.fl (prs (D ++ C) (x.drop C.length ++ x.take C.length) c) ≤ h.bs.getD c 0
    rw [nd_perm (pe c)]; exact this
  refine ⟨x.drop C.length ++ x.take C.length, ⟨len, fun c hc => P.c c (mem c hc), hf⟩, fun K => ⟨len, fun c hc => K.c c (mem c hc), hf⟩, ?_, ?_, fun d => ?_, ?_⟩
  · exact sums_congr fun c _ => by
      show slP h.ks h.fl (prs (D ++ C) (x.drop C.length ++ x.take C.length) c) = _
      rw [sl_perm (pe c)]
  · exact sums_congr fun c _ => by
      show (if (prs (D ++ C) (x.drop C.length ++ x.take C.length) c).length = 0 then (0 : Int) else 1) = _
      rw [(pe c).length_eq]
  · exact sums_congr fun c _ => by
      show (if dyP h.ks (prs (D ++ C) (x.drop C.length ++ x.take C.length) c) ≤ d then lbP (prs (D ++ C) (x.drop C.length ++ x.take C.length) c) else 0) = _
      rw [dy_perm (pe c), lb_perm (pe c)]
  · have e1 : Hs.lbl { h with ps := D ++ C } (x.drop C.length ++ x.take C.length) = lbP (kpP (D ++ C) (x.drop C.length ++ x.take C.length)) := by
      unfold Hs.lbl; rw [laid_kp (by rw [len]; exact Nat.le_refl _)]
    have e2 : h.lbl x = lbP (kpP h.ps x) := by unfold Hs.lbl; rw [laid_kp (by rw [P.l]; exact Nat.le_refl _)]
    rw [e1, e2, hp]
    exact lb_perm (kp_swap hx)⟩
/-! barrels in another order -/
def sg (a b : Nat) (c : Int) : Int := if c < 0 then c else if c < a then c + b else if c < (a + b : Nat) then c - a else c
theorem sg_inj {a b : Nat} {c d : Int} (h : sg a b c = sg a b d) : c = d := by
  unfold sg at h
  split at h <;> split at h <;> (try split at h) <;> (try split at h) <;> (try split at h) <;> (try split at h) <;> omega
theorem prs_sg {ps : List Pr} {x : List Int} {a b : Nat} {c : Int} : prs ps (x.map (sg a b)) (sg a b c) = prs ps x c := by
  unfold prs
  rw [List.zip_map_right, List.filter_map, List.map_map]
  have : (fun q : Pr × Int => decide (q.2 = sg a b c)) ∘ (Prod.map id (sg a b)) = fun q : Pr × Int => decide (q.2 = c) := by
    funext q
    simp only [Function.comp, Prod.map, decide_eq_decide]
    exact ⟨sg_inj, fun e => by rw [e]⟩
  rw [this]
  rfl
theorem kp_sg {ps : List Pr} {x : List Int} {a b : Nat} (hx : ∀ c ∈ x, -1 ≤ c) : kpP ps (x.map (sg a b)) = kpP ps x := by
  unfold kpP
  rw [List.zip_map_right, List.filter_map, List.map_map]
  have : ∀ q ∈ ps.zip x, ((fun q : Pr × Int => decide (q.2 ≠ -1)) ∘ (Prod.map id (sg a b))) q = decide (q.2 ≠ -1) := fun q hq => by
    simp only [Function.comp, Prod.map, decide_eq_decide]
    have := hx _ (List.of_mem_zip hq).2
    unfold sg
    split
    · exact Iff.rfl
    · split
      · omega
      · split <;> omega
  rw [List.filter_congr this]
  rfl
theorem sums_cut {m n : Nat} {f : Nat → Int} : sums (m + n) f = sums m f + sums n fun i => f (m + i) := by
  induction n with
  | zero =>
    have : sums 0 (fun i => f (m + i)) = 0 := rfl
    rw [this]; simp
  | succ n ih => rw [← Nat.add_assoc, sums_succ, sums_succ, ih]; omega
theorem sums_swap {a b t : Nat} {f g : Nat → Int} (h1 : ∀ i, i < b → g i = f (a + i)) (h2 : ∀ i, i < a → g (b + i) = f i) (h3 : ∀ i, i < t → g (b + a + i) = f (a + b + i)) : sums (b + a + t) g = sums (a + b + t) f := by
  rw [sums_cut, sums_cut, sums_cut (m := a + b), sums_cut (m := a), sums_congr h1, sums_congr h2, sums_congr h3]; omega
theorem tr_bs {h : Hs} {A B T : List Int} (hb : h.bs = A ++ B ++ T) : Tr h { h with bs := B ++ A ++ T } := ⟨fun x P => by
  obtain ⟨a, ha⟩ : ∃ a, a = A.length := ⟨_, rfl⟩
  obtain ⟨b, hbb⟩ : ∃ b, b = B.length := ⟨_, rfl⟩
  have ln : h.bs.length = a + b + T.length := by rw [hb]; simp only [List.length_append]; omega
  have ln' : (B ++ A ++ T).length = b + a + T.length := by simp only [List.length_append]; omega
  have p1 : ∀ i : Nat, i < b → prs h.ps (x.map (sg a b)) i = prs h.ps x (a + i : Nat) := fun i hi => by
    have : (i : Int) = sg a b ((a + i : Nat) : Int) := by unfold sg; rw [if_neg (by omega), if_neg (by omega), if_pos (by omega)]; omega
    rw [this, prs_sg]
  have p2 : ∀ i : Nat, i < a → prs h.ps (x.map (sg a b)) (b + i : Nat) = prs h.ps x i := fun i hi => by
    have : ((b + i : Nat) : Int) = sg a b (i : Int) := by unfold sg; rw [if_neg (by omega), if_pos (by omega)]; omega
    rw [this, prs_sg]
  have p3 : ∀ i : Nat, prs h.ps (x.map (sg a b)) (b + a + i : Nat) = prs h.ps x (a + b + i : Nat) := fun i => by
    have : ((b + a + i : Nat) : Int) = sg a b ((a + b + i : Nat) : Int) := by unfold sg; rw [if_neg (by omega), if_neg (by omega), if_neg (by omega)]; omega
    rw [this, prs_sg]
  have sm3 : ∀ F : List Pr → Int, sums (B ++ A ++ T).length (fun c => F (prs h.ps (x.map (sg a b)) c)) = sums h.bs.length fun c => F (prs h.ps x c) := fun F => by
    rw [ln, ln']
    exact sums_swap (fun i hi => by rw [p1 i hi]) (fun i hi => by rw [p2 i hi]) (fun i hi => by rw [p3 i])
  have hf : Hs.ft { h with bs := B ++ A ++ T } (x.map (sg a b)) = true := by
    rw [Hs.ft_iff]
    intro c hc
    have hc : c < (B ++ A ++ T).length := hc
    rw [ln'] at hc
    show ndP h.ks h.fl (prs h.ps (x.map (sg a b)) c) ≤ (B ++ A ++ T).getD c 0
    have P0 := Hs.ft_iff.1 P.f
    by_cases h1 : c < b
    · have k1 := P0 (a + c) (by omega)
      have e : h.bs.getD (a + c) 0 = (B ++ A ++ T).getD c 0 := by
        rw [hb, List.append_assoc, List.append_assoc, List.getD_eq_getElem?_getD, List.getD_eq_getElem?_getD, List.getElem?_append_right (by omega), List.getElem?_append_left (by omega), List.getElem?_append_left (by omega), ← ha, Nat.add_sub_cancel_left]
      rw [p1 c h1, ← e]; exact k1
    · by_cases h2 : c < b + a
      · obtain ⟨i, rfl⟩ : ∃ i, c = b + i := ⟨c - b, by omega⟩
        have k1 := P0 i (by omega)
        have e : h.bs.getD i 0 = (B ++ A ++ T).getD (b + i) 0 := by
          rw [hb, List.append_assoc, List.append_assoc, List.getD_eq_getElem?_getD, List.getD_eq_getElem?_getD, List.getElem?_append_left (by omega), List.getElem?_append_right (by omega), List.getElem?_append_left (by omega), ← hbb, Nat.add_sub_cancel_left]
        rw [p2 i (by omega), ← e]; exact k1
      · obtain ⟨i, rfl⟩ : ∃ i, c = b + a + i := ⟨c - (b + a), by omega⟩
        have k1 := P0 (a + b + i) (by omega)
        have e : h.bs.getD (a + b + i) 0 = (B ++ A ++ T).getD (b + a + i) 0 := by
          rw [hb, List.getD_eq_getElem?_getD, List.getD_eq_getElem?_getD, List.getElem?_append_right (by simp only [List.length_append]; omega), List.getElem?_append_right (by simp only [List.length_append]; omega)]
          congr 2
          simp only [List.length_append]; omega
        rw [p3 i, ← e]; exact k1
  have rng : ∀ c : Int, -1 ≤ c → c < h.bs.length → -1 ≤ sg a b c ∧ sg a b c < ((B ++ A ++ T).length : Int) := fun c h1 h2 => by
    rw [ln] at h2; rw [ln']
    unfold sg; split
    · omega
    · split
      · omega
      · split <;> omega
  have rng0 : ∀ c : Int, 0 ≤ c → 0 ≤ sg a b c := fun c h1 => by
    unfold sg; split
    · omega
    · split
      · omega
      · split <;> omega
  have len : (x.map (sg a b)).length = h.ps.length := by rw [List.length_map]; exact P.l
  refine ⟨x.map (sg a b), ⟨len, fun c hc => ?_, hf⟩, fun K => ⟨len, fun c hc => ?_, hf⟩, sm3 fun l => slP h.ks h.fl l, sm3 fun l => if l.length = 0 then 0 else 1, fun d => sm3 fun l => if dyP h.ks l ≤ d then lbP l else 0, ?_⟩
  · obtain ⟨e, he, rfl⟩ := List.mem_map.1 hc
    have := P.c e he
    exact rng e this.1 this.2
  · obtain ⟨e, he, rfl⟩ := List.mem_map.1 hc
    have := K.c e he
    exact ⟨rng0 e this.1, (rng e (by omega) this.2).2⟩
  · have e1 : Hs.lbl { h with bs := B ++ A ++ T } (x.map (sg a b)) = lbP (kpP h.ps (x.map (sg a b))) := by
      unfold Hs.lbl; rw [laid_kp (by rw [len]; exact Nat.le_refl _)]
    have e2 : h.lbl x = lbP (kpP h.ps x) := by unfold Hs.lbl; rw [laid_kp (by rw [P.l]; exact Nat.le_refl _)]
    rw [e1, e2, kp_sg fun c hc => (P.c c hc).1]⟩
end Go.Proofs.Ytcdedbpmjhjehaa.S

