/-
A net whose walls have other sails: what drags with less drags with more.
-/
import Derived.Test.YtjgbiclbpgkfeaaA2
namespace Go.Proofs.Ytjgbiclbpgkfeaa.A
open Go Go.Am Go.Proofs.Ytjgbiclbpgkfeaa.T
set_option maxRecDepth 100000
set_option linter.unusedSimpArgs false
set_option linter.unusedVariables false

/-- the second net's walls have sails that are not less -/
structure Softer (n n' : Net) : Prop where
  wd : n'.wind = n.wind
  cu : n'.cur = n.cur
  gr : n'.grips = n.grips
  an : n'.ancs = n.ancs
  wl : n'.walls.length = n.walls.length
  s : ∀ i, i < n.walls.length → (n.walls.getD i default).sail ≤ (n'.walls.getD i default).sail
  d : ∀ i, i < n.walls.length → (n'.walls.getD i default).drag = (n.walls.getD i default).drag
section
variable {n n' : Net} {t : Tru}
theorem ld_softer (G : Fair n t) (C : Softer n n') {i : Nat} (hi : i < n.walls.length) : ldI n t i ≤ ldI n' t i := by
  obtain ⟨_, ⟨h0, _⟩, _⟩ := G
  have h1 := Int.mul_le_mul_of_nonneg_right (C.s i hi) h0
  unfold ldI
  rw [C.d i hi]
  omega
theorem bears_softer (G : Fair n t) (C : Softer n n') {i : Nat} (hi : i < n.ancs.length) (D : Nat → Bool) : bearsI n t i D ≤ bearsI n' t i D := by
  have lw := (netB G.v).lw
  unfold bearsI
  rw [C.an]
  apply Int.add_le_add
  · split
    · exact twice_le (ld_softer G C (by omega))
    · exact Int.le_refl _
  · split
    · exact twice_le (ld_softer G C (by omega))
    · exact Int.le_refl _
theorem drg_softer (G : Fair n t) (C : Softer n n') {i : Nat} (hi : i < n.ancs.length) {D : Nat → Bool} (h : drg n t i D = true) : drg n' t i D = true := by
  have h2 := bears_softer G C hi D
  simp only [drg, decide_eq_true_eq] at h ⊢
  have e : canI n' t i = canI n t i := by unfold canI; rw [C.an]
  omega
theorem lfp_softer (G : Fair n t) (G' : Fair n' t) (C : Softer n n') : Le n (lfp n t none6) (lfp n' t none6) :=
  (none_lfp G).least _ (fun i hi h => (none_lfp G').cl i (by rw [C.an]; exact hi) (drg_softer G C hi h)) fun i hi h => (none_lfp G').le i (by rw [C.an]; exact hi) h
end
/-- the sail of a wall that holds so many fish -/
def sailOf (f : Int) : Int := mmx false 9 f
theorem sailOf_eq {f : Int} : sailOf f = if f < 9 then f else 9 := rfl
def ldW : List Wal → List Int → List Wal
  | w :: ws, f :: fs => { w with sail := sailOf f } :: ldW ws fs
  | ws, [] => ws
  | [], _ :: _ => []
theorem ldW_len : ∀ {ws : List Wal} {fs : List Int}, (ldW ws fs).length = ws.length
  | _ :: _, _ :: _ => by simp [ldW, ldW_len]
  | [], [] => rfl
  | _ :: _, [] => rfl
  | [], _ :: _ => rfl
theorem ldW_at : ∀ {ws : List Wal} {fs : List Int} {i : Nat}, i < ws.length → i < fs.length → (ldW ws fs).getD i default = { ws.getD i default with sail := sailOf (fs.getD i default) }
  | w :: ws, f :: fs, 0, _, _ => rfl
  | w :: ws, f :: fs, i + 1, h, h' => by
    have := ldW_at (ws := ws) (fs := fs) (i := i) (by simpa using h) (by simpa using h')
    simpa [ldW] using this
  | [], _, _, h, _ => by simp at h
  | _ :: _, [], _, _, h => by simp at h
theorem ldW_out : ∀ {ws : List Wal} {fs : List Int} {i : Nat}, fs.length ≤ i → (ldW ws fs).getD i default = ws.getD i default
  | w :: ws, f :: fs, 0, h => by simp at h
  | w :: ws, f :: fs, i + 1, h => by
    have := ldW_out (ws := ws) (fs := fs) (i := i) (by simpa using h)
    simpa [ldW] using this
  | _ :: _, [], _, _ => rfl
  | [], [], _, _ => rfl
  | [], _ :: _, _, _ => rfl
/-- a number of fish more -/
theorem ldW_take : ∀ {ws : List Wal} {fs : List Int} {i : Nat}, i < ws.length → i < fs.length → (ldW ws (fs.take i)).set i { ws.getD i default with sail := sailOf (fs.getD i default) } = ldW ws (fs.take (i + 1))
  | w :: ws, f :: fs, 0, _, _ => by cases ws <;> rfl
  | w :: ws, f :: fs, i + 1, h, h' => by
    have := ldW_take (ws := ws) (fs := fs) (i := i) (by simpa using h) (by simpa using h')
    simp only [List.take_succ_cons, ldW, List.set_cons_succ, List.getD_cons_succ]
    rw [this]
  | [], _, _, h, _ => by simp at h
  | _ :: _, [], _, _, h => by simp at h
theorem ldW_all {ws : List Wal} : ∀ {fs : List Int} {i : Nat}, (ws.length ≤ i ∨ fs.length ≤ i) → ldW ws (fs.take i) = ldW ws fs := by
  induction ws with
  | nil => intro fs i _; cases fs <;> cases i <;> rfl
  | cons w ws ih =>
    intro fs i h
    match fs, i with
    | [], i => rw [List.take_nil]
    | f :: fs, 0 => simp at h
    | f :: fs, i + 1 =>
      rw [List.take_succ_cons, ldW, ldW, ih (by simpa using h)]
def Net.ld (n : Net) (fs : List Int) : Net := { n with walls := ldW n.walls fs }
theorem ld_soft {n : Net} {f g : List Int} (hl : f.length = g.length) (h : ∀ i, i < f.length → f.getD i default ≤ g.getD i default) : Softer (n.ld f) (n.ld g) := by
  have back : ∀ i, i < (n.ld f).walls.length → i < n.walls.length := fun i hi => by
    have : (ldW n.walls f).length = n.walls.length := ldW_len
    rw [← this]; exact hi
  refine ⟨rfl, rfl, rfl, rfl, by show (ldW _ _).length = (ldW _ _).length; rw [ldW_len, ldW_len], fun i hi => ?_, fun i hi => ?_⟩
  · show ((ldW n.walls f).getD i default).sail ≤ ((ldW n.walls g).getD i default).sail
    by_cases hf : i < f.length
    · rw [ldW_at (back i hi) hf, ldW_at (back i hi) (by omega)]
      have := h i hf
      show sailOf (f.getD i default) ≤ sailOf (g.getD i default)
      rw [sailOf_eq, sailOf_eq]
      split <;> split <;> omega
    · rw [ldW_out (by omega), ldW_out (by omega)]
      exact Int.le_refl _
  · show ((ldW n.walls g).getD i default).drag = ((ldW n.walls f).getD i default).drag
    by_cases hf : i < f.length
    · rw [ldW_at (back i hi) hf, ldW_at (back i hi) (by omega)]
    · rw [ldW_out (by omega), ldW_out (by omega)]
theorem ldW_mem {x : Wal} : ∀ {ws : List Wal} {fs : List Int}, x ∈ ldW ws fs → x ∈ ws ∨ ∃ w ∈ ws, ∃ f ∈ fs, x = { w with sail := sailOf f }
  | w :: ws, f :: fs, h => by
    rcases List.mem_cons.1 h with rfl | h
    · exact .inr ⟨w, by simp, f, by simp, rfl⟩
    · rcases ldW_mem h with h | ⟨w', h1, f', h2, e⟩
      · exact .inl (by simp [h])
      · exact .inr ⟨w', by simp [h1], f', by simp [h2], e⟩
  | [], [], h => .inl h
  | _ :: _, [], h => .inl h
  | [], _ :: _, h => by cases h
theorem ld_valid {n : Net} {f : List Int} (hv : n.valid = true) (hf : ∀ x ∈ f, 0 ≤ x) : (n.ld f).valid = true := by
  have e : (n.ld f).walls.length = n.walls.length := ldW_len
  simp only [Net.valid, Bool.and_eq_true, decide_eq_true_eq, List.all_eq_true] at hv ⊢
  obtain ⟨h1, h2⟩ := hv
  rw [e]
  refine ⟨h1, fun x hx => ?_⟩
  rcases ldW_mem (show x ∈ ldW n.walls f from hx) with hx | ⟨w, hw, g, hg, rfl⟩
  · exact h2 x hx
  · have h3 := h2 w hw
    have h4 := hf g hg
    have h5 : inR (sailOf g) 0 9 = true := by
      rw [inR_iff, sailOf_eq]
      split <;> omega
    simp only [walOk, Bool.and_eq_true] at h3 ⊢
    exact ⟨⟨⟨⟨h5, h3.1.1.1.2⟩, h3.1.1.2⟩, h3.1.2⟩, h3.2⟩
theorem ld_truth {n : Net} {f : List Int} {t : Tru} : truthOk (n.ld f) t = truthOk n t := rfl
theorem ld_good {n : Net} {f : List Int} {t : Tru} (G : Good n t) (hf : ∀ x ∈ f, 0 ≤ x) : Good (n.ld f) t := good_of (ld_valid G.v hf) G.tr
/-- what drags with these fish -/
noncomputable def dragOf (n : Net) (t : Tru) (f : List Int) : List Int := lst n (lfp (n.ld f) t none6)
theorem drag_part {n : Net} {t : Tru} (G : Good n t) {f g : List Int} (hf : ∀ x ∈ f, 0 ≤ x) (hg : ∀ x ∈ g, 0 ≤ x) (hl : f.length = g.length) (h : ∀ i, i < f.length → f.getD i default ≤ g.getD i default) : ∀ i, i < (dragOf n t f).length → anyIs (dragOf n t g) ((dragOf n t f).getD i default) = true :=
  lst_part (n := n) (lfp_softer (n := n.ld f) (n' := n.ld g) (ld_good G hf).toFair (ld_good G hg).toFair (ld_soft hl h))
end Go.Proofs.Ytjgbiclbpgkfeaa.A
