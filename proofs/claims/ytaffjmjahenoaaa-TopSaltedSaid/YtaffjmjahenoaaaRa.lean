/-
Lighter parts: less salt, no more barrels, and no greater one.
-/
import Derived.Test.YtaffjmjahenoaaaA2
namespace Go.Proofs.Ytaffjmjahenoaaa.A
set_option linter.unusedVariables false
set_option linter.unusedSimpArgs false

/-- parts of the same kinds, each of which is not heavier -/
def Lp : List Pr → List Pr → Prop
  | [], [] => True
  | a :: l, b :: m => (a.k = b.k ∧ 0 ≤ a.p ∧ a.p ≤ b.p) ∧ Lp l m
  | _, _ => False
theorem Lp.len : ∀ {l m : List Pr}, Lp l m → l.length = m.length
  | [], [], _ => rfl
  | [], _ :: _, h => h.elim
  | _ :: _, [], h => h.elim
  | a :: l, b :: m, h => by simp only [List.length_cons, h.2.len]
theorem Lp.lb : ∀ {l m : List Pr}, Lp l m → 0 ≤ lbP l ∧ lbP l ≤ lbP m
  | [], [], _ => by simp [lbP, sm]
  | [], _ :: _, h => h.elim
  | _ :: _, [], h => h.elim
  | a :: l, b :: m, h => by
    have h1 := h.2.lb
    have h2 := h.1
    simp only [lbP, List.map_cons, sm] at h1 ⊢
    omega
theorem Lp.kd (ks : List Kd) : ∀ {l m : List Pr}, Lp l m → (l.map fun q => (kdP ks q).s) = m.map fun q => (kdP ks q).s
  | [], [], _ => rfl
  | [], _ :: _, h => h.elim
  | _ :: _, [], h => h.elim
  | a :: l, b :: m, h => by
    have e : kdP ks a = kdP ks b := by unfold kdP; rw [h.1.1]
    rw [List.map_cons, List.map_cons, h.2.kd ks, e]
theorem Lp.st {ks : List Kd} {l m : List Pr} (h : Lp l m) : stP ks l = stP ks m := by unfold stP; rw [h.kd]
theorem prs_cons {a : Pr} {ps : List Pr} {d c : Int} {x : List Int} : prs (a :: ps) (d :: x) c = if d = c then a :: prs ps x c else prs ps x c := by
  unfold prs
  by_cases e : d = c <;> simp [e]
theorem Lp.prs {c : Int} : ∀ {l m : List Pr} {x : List Int}, Lp l m → Lp (prs l x c) (prs m x c)
  | [], [], x, _ => by simp [A.prs, Lp]
  | [], _ :: _, _, h => h.elim
  | _ :: _, [], _, h => h.elim
  | a :: l, b :: m, [], h => by simp [A.prs, Lp]
  | a :: l, b :: m, d :: x, h => by
    rw [prs_cons, prs_cons]
    split
    · exact ⟨h.1, h.2.prs⟩
    · exact h.2.prs
theorem Lp.sl {ks : List Kd} {fl : Int} (K : KG ks fl) {l m : List Pr} (h : Lp l m) : slP ks fl l ≤ slP ks fl m := by
  have h1 := st_bd K m
  have h2 := h.lb
  have h3 := h.st (ks := ks)
  unfold slP
  rw [h.len, h3]
  split
  · exact Int.le_refl _
  · have : lbP l * stP ks m ≤ lbP m * stP ks m := Int.mul_le_mul_of_nonneg_right h2.2 h1.1
    omega
theorem Lp.nd {ks : List Kd} {fl : Int} (K : KG ks fl) {l m : List Pr} (h : Lp l m) : ndP ks fl l ≤ ndP ks fl m := by
  have := h.lb; have := h.sl K; unfold ndP; omega

/-- a house that is lighter -/
structure Li (h o : Hs) : Prop where
  k : h.ks = o.ks
  f : h.fl = o.fl
  b : h.bs = o.bs
  p : Lp h.ps o.ps
section
variable {h o : Hs}
theorem Li.ft (L : Li h o) (K : KG o.ks o.fl) {x : List Int} (hx : o.ft x = true) : h.ft x = true := by
  rw [Hs.ft_iff] at hx ⊢
  rw [L.k, L.f, L.b]
  exact fun c hc => Int.le_trans (L.p.prs.nd K) (hx c hc)
theorem Li.pk (L : Li h o) (K : KG o.ks o.fl) {x : List Int} (P : Pkg o x) : Pkg h x := ⟨by rw [L.p.len]; exact P.l, by rw [L.b]; exact P.c, L.ft K P.f⟩
theorem Li.sa (L : Li h o) (K : KG o.ks o.fl) {x : List Int} : h.sa x ≤ o.sa x := by
  unfold Hs.sa
  rw [L.k, L.f, L.b]
  exact sums_le fun c _ => L.p.prs.sl K
theorem Li.us (L : Li h o) {x : List Int} : h.us x = o.us x := by
  unfold Hs.us
  rw [L.b]
  exact sums_congr fun c _ => by rw [L.p.prs.len]
theorem Li.ne (L : Li h o) (G : HG h) (Go : HG o) (hn : o.pk ≠ []) : h.pk ≠ [] := by
  obtain ⟨x, hx⟩ := ex_list hn
  have := G.mem_pk.2 (L.pk Go.g (Go.mem_pk.1 hx))
  intro e; rw [e] at this; cases this
theorem Li.lsf (L : Li h o) (G : HG h) (Go : HG o) (hn : o.pk ≠ []) : A.lsf h.sa h.pk ≤ A.lsf o.sa o.pk ∧ A.lsf h.us h.pk ≤ A.lsf o.us o.pk ∧ 0 ≤ A.lsf h.sa h.pk ∧ 0 ≤ A.lsf h.us h.pk := by
  have hn' := L.ne G Go hn
  obtain ⟨⟨x, hx, ex⟩, _⟩ := lsf_spec (f := o.sa) hn
  obtain ⟨⟨y, hy, ey⟩, _⟩ := lsf_spec (f := o.us) hn
  obtain ⟨⟨x', hx', ex'⟩, h1⟩ := lsf_spec (f := h.sa) hn'
  obtain ⟨⟨y', hy', ey'⟩, h2⟩ := lsf_spec (f := h.us) hn'
  have h1 := h1 _ (G.mem_pk.2 (L.pk Go.g (Go.mem_pk.1 hx)))
  have h2 := h2 _ (G.mem_pk.2 (L.pk Go.g (Go.mem_pk.1 hy)))
  have h3 := L.sa Go.g (x := x)
  have h4 := L.us (x := y)
  have h5 := (sa_bd G x').1
  have h6 := (us_bd (h := h) y').1
  omega
def buyA (h : Hs) : Int := if h.valid && decide (h.pk = []) && decide (h.bs.length ≠ 4) then buyN h else 0
theorem buyA_no (hp : h.pk ≠ []) : buyA h = 0 := by unfold buyA; rw [decide_eq_false hp]; simp
theorem buyN_bd : 0 ≤ buyN h ∧ buyN h ≤ 99 := by
  unfold buyN
  cases hf : buyF h 100 with
  | none => simp
  | some s =>
    have := List.mem_of_find?_eq_some hf
    have := List.mem_range.1 this
    simp only
    omega
theorem Li.more (L : Li h o) (s : Int) : Li (h.more s) (o.more s) := ⟨L.k, L.f, by show h.bs ++ [s] = o.bs ++ [s]; rw [L.b], L.p⟩
theorem buyF_is (hs : (buyF h 100).isSome = true) : (h.more (buyN h)).pk ≠ [] := by
  unfold buyN
  cases hf : buyF h 100 with
  | none => rw [hf] at hs; cases hs
  | some s => simpa using List.find?_some hf
theorem buyF_le {s : Nat} (hs : s < 100) (hn : (h.more (s : Int)).pk ≠ []) : (buyF h 100).isSome = true ∧ buyN h ≤ s := by
  have h1 : (buyF h 100).isSome = true := by
    unfold buyF
    rw [List.find?_isSome]
    exact ⟨s, List.mem_range.2 hs, decide_eq_true hn⟩
  refine ⟨h1, ?_⟩
  unfold buyN
  cases hf : buyF h 100 with
  | none => rw [hf] at h1; cases h1
  | some t =>
    simp only
    unfold buyF at hf
    rw [List.find?_eq_some_iff_getElem] at hf
    obtain ⟨_, i, hi, e, hj⟩ := hf
    rw [List.getElem_range] at e
    subst e
    by_cases c : i ≤ s
    · omega
    · have hs' : s < i := by omega
      have := hj s hs'
      rw [List.getElem_range] at this
      simp only [Bool.not_eq_true', decide_eq_false_iff_not] at this
      exact absurd hn this
theorem Li.buy (L : Li h o) (G : HG h) (Go : HG o) (he : buyE o = 0) : buyE h = 0 ∧ buyA h ≤ buyA o ∧ 0 ≤ buyA h := by
  have hv := valid_iff.2 G
  have hvo := valid_iff.2 Go
  have bo := buyN_bd (h := o)
  have bh := buyN_bd (h := h)
  have A0 : 0 ≤ buyA h := by unfold buyA; split <;> omega
  have B0 : 0 ≤ buyA o := by unfold buyA; split <;> omega
  by_cases hp : h.pk ≠ []
  · refine ⟨by unfold buyE; rw [hv, if_pos rfl, if_pos hp], ?_, A0⟩
    rw [buyA_no hp]; exact B0
  have hp' : h.pk = [] := Decidable.not_not.1 hp
  have hpo : ¬ o.pk ≠ [] := fun hn => hp (L.ne G Go hn)
  have hpo' : o.pk = [] := Decidable.not_not.1 hpo
  unfold buyE at he
  rw [hvo, if_pos rfl, if_neg hpo] at he
  by_cases h4 : o.bs.length = 4
  · rw [if_pos h4] at he; cases he
  rw [if_neg h4] at he
  have h4' : ¬ h.bs.length = 4 := by rw [L.b]; exact h4
  have nb := Go.nb
  have nb' := G.nb
  cases hs : (buyF o 100).isSome
  · rw [hs] at he; cases he
  have hm := buyF_is hs
  obtain ⟨s, hse⟩ : ∃ s : Nat, buyN o = s := ⟨(buyN o).toNat, by omega⟩
  rw [hse] at hm
  have hm2 := (L.more s).ne (more_G G (by omega) (by omega)) (more_G Go (by omega) (by omega)) hm
  obtain ⟨b1, b2⟩ := buyF_le (h := h) (s := s) (by omega) hm2
  refine ⟨by unfold buyE; rw [hv, if_pos rfl, if_neg hp, if_neg h4', b1, if_pos rfl], ?_, A0⟩
  unfold buyA
  rw [hv, hvo, hp', hpo']
  simp only [decide_true, Bool.true_and]
  rw [decide_eq_true h4, decide_eq_true h4', if_pos rfl, if_pos rfl]; omega
end

/-! parts that weigh what a list says -/
def lay : List Pr → List Int → List Pr
  | [], _ => []
  | q :: ps, [] => q :: ps
  | q :: ps, w :: ws => ⟨q.k, w⟩ :: lay ps ws
theorem lay_nil : ∀ {ps : List Pr}, lay ps [] = ps
  | [] => rfl
  | _ :: _ => rfl
theorem lay_len : ∀ {ps : List Pr} {ws : List Int}, (lay ps ws).length = ps.length
  | [], _ => by simp [lay]
  | _ :: _, [] => by simp [lay]
  | q :: ps, w :: ws => by simp [lay, lay_len (ps := ps) (ws := ws)]
theorem lay_at : ∀ {ps : List Pr} {ws : List Int} {i : Nat}, ws.length ≤ i → (lay ps ws).getD i default = ps.getD i default
  | [], _, _, _ => by simp [lay]
  | _ :: _, [], _, _ => by simp [lay]
  | q :: ps, w :: ws, 0, h => by simp at h
  | q :: ps, w :: ws, i + 1, h => by
    have := lay_at (ps := ps) (ws := ws) (i := i) (by simpa using h)
    simpa [lay] using this
theorem lay_snoc : ∀ {ps : List Pr} {ws : List Int} {w : Int}, ws.length < ps.length → (lay ps ws).set ws.length ⟨(ps.getD ws.length default).k, w⟩ = lay ps (ws ++ [w])
  | [], _, _, h => by simp at h
  | q :: ps, [], w, _ => by simp [lay, lay_nil]
  | q :: ps, v :: ws, w, h => by
    have := lay_snoc (ps := ps) (ws := ws) (w := w) (by simpa using h)
    simpa [lay] using this
theorem lay_take : ∀ {ps : List Pr} {ws : List Int}, lay ps (ws.take ps.length) = lay ps ws
  | [], ws => by simp [lay]
  | _ :: _, [] => by simp [lay]
  | q :: ps, w :: ws => by simp [lay, lay_take (ps := ps) (ws := ws)]
theorem lay_all {P : Pr → Prop} {Q : Int → Prop} (hP : ∀ q w, P q → Q w → P ⟨q.k, w⟩) : ∀ {ps : List Pr} {ws : List Int}, (∀ q ∈ ps, P q) → (∀ w ∈ ws, Q w) → ∀ q ∈ lay ps ws, P q
  | [], _, _, _ => by simp [lay]
  | q :: ps, [], h, _ => by simpa [lay] using h
  | q :: ps, w :: ws, h, g => by
    have ih := lay_all hP (ps := ps) (ws := ws) (fun q hq => h q (by simp [hq])) fun w hw => g w (by simp [hw])
    intro r hr
    simp only [lay, List.mem_cons] at hr
    rcases hr with rfl | hr
    · exact hP _ _ (h q (by simp)) (g w (by simp))
    · exact ih r hr
theorem lay_lp : ∀ {ps : List Pr} {ws vs : List Int}, PG ps → ws.length = vs.length → (∀ i, i < ws.length → 0 ≤ ws.getD i 0 ∧ ws.getD i 0 ≤ vs.getD i 0) → Lp (lay ps ws) (lay ps vs)
  | [], _, _, _, _, _ => by simp [lay, Lp]
  | q :: ps, [], [], h, _, _ => by
    have key : ∀ {l : List Pr}, PG l → Lp l l := by
      intro l
      induction l with
      | nil => intro _; trivial
      | cons a l ih => intro h; exact ⟨⟨rfl, (h a (by simp)).1, Int.le_refl _⟩, ih fun q hq => h q (by simp [hq])⟩
    simpa [lay] using key h
  | _ :: _, [], _ :: _, _, h, _ => by simp at h
  | _ :: _, _ :: _, [], _, h, _ => by simp at h
  | q :: ps, w :: ws, v :: vs, h, hl, hw => by
    have h0 := hw 0 (by simp)
    refine ⟨⟨rfl, by simpa using h0⟩, lay_lp (fun q hq => h q (by simp [hq])) (by simpa using hl) fun i hi => ?_⟩
    have := hw (i + 1) (by simpa using hi)
    simpa using this
def Hs.ly (h : Hs) (ws : List Int) : Hs := { h with ps := lay h.ps ws }
theorem ly_G {h : Hs} (G : HG h) {ws : List Int} (hw : ∀ w ∈ ws, 0 ≤ w ∧ w ≤ 30) : HG (h.ly ws) where
  nk := G.nk
  np := by show (lay h.ps ws).length ≤ 6; rw [lay_len]; exact G.np
  nb := G.nb
  g := G.g
  q := by
    have key : ∀ q ∈ lay h.ps ws, (0 ≤ q.k ∧ q.k < h.ks.length) ∧ 0 ≤ q.p ∧ q.p ≤ 40 := lay_all (Q := fun w => 0 ≤ w ∧ w ≤ 30) (fun q w a b => ⟨a.1, b.1, by show w ≤ 40; omega⟩) (fun q hq => by
      obtain ⟨i, hi, rfl⟩ := mem_getD (d := default) hq
      exact G.q i hi) hw
    intro i hi
    exact key _ (by rw [List.getD_eq_getElem?_getD, List.getElem?_eq_getElem hi]; exact List.getElem_mem hi)
  b := G.b
theorem ly_li {h : Hs} (G : HG h) {ws vs : List Int} (hl : ws.length = vs.length) (hw : ∀ i, i < ws.length → 0 ≤ ws.getD i 0 ∧ ws.getD i 0 ≤ vs.getD i 0) : Li (h.ly ws) (h.ly vs) := ⟨rfl, rfl, rfl, lay_lp G.pg hl hw⟩
end Go.Proofs.Ytaffjmjahenoaaa.A
