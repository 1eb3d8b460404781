/-
What drags at last: the least set that is closed; two ways to come to it.
-/
import Derived.Test.YtpflneddfhifkaaS8
namespace Go.Proofs.Ytpflneddfhifkaa.S
open Go Go.Am Go.Proofs.Ytpflneddfhifkaa.T
set_option linter.unusedSimpArgs false
set_option linter.unusedVariables false

structure Tru where
  wind : Int
  cur : Int
  grips : List Int

def ldI (n : Net) (t : Tru) (i : Nat) : Int := (n.walls.getD i default).sail * t.wind + (n.walls.getD i default).drag * t.cur
def twice (d : Bool) (x : Int) : Int := if d then x + x else x
def bearsI (n : Net) (t : Tru) (i : Nat) (D : Nat → Bool) : Int :=
  (if 0 < i then twice (D (i - 1)) (ldI n t (i - 1)) else 0) + (if i + 1 < n.ancs.length then twice (D (i + 1)) (ldI n t i) else 0)
def canI (n : Net) (t : Tru) (i : Nat) : Int := 2 * (n.ancs.getD i default).w * t.grips.getD (n.ancs.getD i default).b.toNat default
def drg (n : Net) (t : Tru) (i : Nat) (D : Nat → Bool) : Bool := decide (bearsI n t i D > canI n t i)

/-- loads are never below 0 -/
def Pos (n : Net) (t : Tru) : Prop := ∀ i, i < n.walls.length → 0 ≤ ldI n t i

def Cl (n : Net) (t : Tru) (D : Nat → Bool) : Prop := ∀ i, i < n.ancs.length → drg n t i D = true → D i = true
def Le (n : Net) (D D' : Nat → Bool) : Prop := ∀ i, i < n.ancs.length → D i = true → D' i = true
structure IsLfp (n : Net) (t : Tru) (S A : Nat → Bool) : Prop where
  cl : Cl n t A
  le : Le n S A
  least : ∀ D, Cl n t D → Le n S D → Le n A D

theorem Le.refl (n : Net) (D : Nat → Bool) : Le n D D := fun _ _ h => h
theorem Le.trans {n : Net} {A B C : Nat → Bool} (h : Le n A B) (h' : Le n B C) : Le n A C := fun i hi x => h' i hi (h i hi x)

theorem twice_mono {d d' : Bool} {x : Int} (h : d = true → d' = true) (hx : 0 ≤ x) : twice d x ≤ twice d' x := by
  cases d <;> cases d' <;> simp [twice] at * <;> omega

theorem drg_mono {n : Net} {t : Tru} (hp : Pos n t) (hw : n.walls.length = n.ancs.length - 1) {A B : Nat → Bool} (h : Le n A B) {i : Nat} (hi : i < n.ancs.length) (hd : drg n t i A = true) : drg n t i B = true := by
  simp only [drg, decide_eq_true_eq] at hd ⊢
  have : bearsI n t i A ≤ bearsI n t i B := by
    unfold bearsI
    apply Int.add_le_add
    · split
      · exact twice_mono (h (i - 1) (by omega)) (hp _ (by omega))
      · exact Int.le_refl _
    · split
      · exact twice_mono (h (i + 1) (by omega)) (hp _ (by omega))
      · exact Int.le_refl _
  omega

theorem lfp_unique {n : Net} {t : Tru} {S A B : Nat → Bool} (ha : IsLfp n t S A) (hb : IsLfp n t S B) : ∀ i, i < n.ancs.length → A i = B i := by
  intro i hi
  have h1 := ha.least B hb.cl hb.le i hi
  have h2 := hb.least A ha.cl ha.le i hi
  cases hA : A i <;> cases hB : B i <;> simp_all

/-- the numbers of a set, ascending -/
def lst (n : Net) (D : Nat → Bool) : List Int := ((List.range n.ancs.length).filter D).map fun (i : Nat) => (i : Int)
theorem lst_congr {n : Net} {A B : Nat → Bool} (h : ∀ i, i < n.ancs.length → A i = B i) : lst n A = lst n B := by
  unfold lst
  congr 1
  apply List.filter_congr
  intro i hi
  exact h i (List.mem_range.1 hi)
theorem mem_lst {n : Net} {D : Nat → Bool} {i : Nat} (hi : i < n.ancs.length) : ((i : Int) ∈ lst n D) ↔ D i = true := by
  simp only [lst, List.mem_map, List.mem_filter, List.mem_range]
  constructor
  · rintro ⟨j, ⟨_, hj⟩, e⟩
    have : j = i := by omega
    subst this; exact hj
  · intro h; exact ⟨i, ⟨hi, h⟩, rfl⟩
theorem lst_len {n : Net} {D : Nat → Bool} : (lst n D).length = ((List.range n.ancs.length).filter D).length := by simp [lst]
theorem lst_le {n : Net} {D : Nat → Bool} : (lst n D).length ≤ n.ancs.length := by
  rw [lst_len]; exact Nat.le_trans (List.length_filter_le _ _) (by simp)

theorem filter_le {α : Type} {p q : α → Bool} : ∀ {l : List α}, (∀ x ∈ l, p x = true → q x = true) → (l.filter p).length ≤ (l.filter q).length
  | [], _ => Nat.le_refl _
  | a :: l, h => by
    have ih := filter_le (l := l) (p := p) (q := q) (fun x hx => h x (by simp [hx]))
    have h1 := h a (by simp)
    cases hp : p a <;> cases hq : q a <;> simp_all [List.filter_cons] <;> omega
theorem filter_eq {α : Type} {p q : α → Bool} : ∀ {l : List α}, (∀ x ∈ l, p x = true → q x = true) → (l.filter p).length = (l.filter q).length → ∀ x ∈ l, q x = true → p x = true
  | [], _, _, x, hx, _ => by simp at hx
  | a :: l, h, he, x, hx, hq => by
    have hle := filter_le (l := l) (p := p) (q := q) (fun x hx => h x (by simp [hx]))
    have h1 := h a (by simp)
    have key : (l.filter p).length = (l.filter q).length ∧ (q a = true → p a = true) := by
      cases hp : p a <;> cases hq : q a <;> simp_all [List.filter_cons] <;> omega
    rcases List.mem_cons.1 hx with rfl | hx'
    · exact key.2 hq
    · exact filter_eq (fun x hx => h x (by simp [hx])) key.1 x hx' hq

/-- one round of all at once -/
def stepS (n : Net) (t : Tru) (S : Nat → Bool) : Nat → Bool := fun i => S i || drg n t i S

theorem step_le {n : Net} {t : Tru} {S : Nat → Bool} : Le n S (stepS n t S) := fun i _ h => by simp [stepS, h]
theorem step_least {n : Net} {t : Tru} (hp : Pos n t) (hw : n.walls.length = n.ancs.length - 1) {S D : Nat → Bool} (hc : Cl n t D) (hs : Le n S D) : Le n (stepS n t S) D := fun i hi h => by
  simp only [stepS, Bool.or_eq_true] at h
  rcases h with h | h
  · exact hs i hi h
  · exact hc i hi (drg_mono hp hw hs hi h)
/-- where a round adds nothing it is the end -/
theorem step_end {n : Net} {t : Tru} (hp : Pos n t) (hw : n.walls.length = n.ancs.length - 1) {S : Nat → Bool} (he : (lst n (stepS n t S)).length = (lst n S).length) : IsLfp n t S (stepS n t S) := by
  rw [lst_len, lst_len] at he
  have back : Le n (stepS n t S) S := fun i hi h => filter_eq (p := S) (q := stepS n t S) (l := List.range n.ancs.length) (fun x hx h => step_le x (List.mem_range.1 hx) h) he.symm i (List.mem_range.2 hi) h
  exact ⟨fun i hi h => by
    have := drg_mono hp hw back hi h
    simp [stepS, this], step_le, fun D hc hs => step_least hp hw hc hs⟩
theorem step_more {n : Net} {t : Tru} {S : Nat → Bool} : (lst n S).length ≤ (lst n (stepS n t S)).length := by
  rw [lst_len, lst_len]
  exact filter_le (fun x hx h => step_le x (List.mem_range.1 hx) h)
theorem lfp_step {n : Net} {t : Tru} (hp : Pos n t) (hw : n.walls.length = n.ancs.length - 1) {S A : Nat → Bool} (h : IsLfp n t (stepS n t S) A) : IsLfp n t S A :=
  ⟨h.cl, step_le.trans h.le, fun D hc hs => h.least D hc (step_least hp hw hc hs)⟩

/-! the other way: one after the other, in rounds -/
def gb (b : List Bool) : Nat → Bool := fun i => b.getD i false
theorem gb_set {b : List Bool} {i j : Nat} {x : Bool} (hi : i < b.length) : gb (b.set i x) j = if i = j then x else gb b j := by
  simp only [gb, List.getD_eq_getElem?_getD, List.getElem?_set]
  by_cases e : i = j
  · subst e; simp [hi]
  · simp [e]
def sw1 (n : Net) (t : Tru) (b : List Bool) (a : Nat) : List Bool := if gb b a then b else b.set a (drg n t a (gb b))
def sw (n : Net) (t : Tru) (b : List Bool) : Nat → List Bool
  | 0 => b
  | a + 1 => sw1 n t (sw n t b a) a
def rd (n : Net) (t : Tru) (b : List Bool) : Nat → List Bool
  | 0 => b
  | k + 1 => sw n t (rd n t b k) n.ancs.length

theorem sw1_len {n : Net} {t : Tru} {b : List Bool} {a : Nat} : (sw1 n t b a).length = b.length := by unfold sw1; split <;> simp
theorem sw_len {n : Net} {t : Tru} {b : List Bool} : ∀ {a : Nat}, (sw n t b a).length = b.length
  | 0 => rfl
  | a + 1 => by rw [sw, sw1_len, sw_len]
theorem rd_len {n : Net} {t : Tru} {b : List Bool} : ∀ {k : Nat}, (rd n t b k).length = b.length
  | 0 => rfl
  | k + 1 => by rw [rd, sw_len, rd_len]

theorem sw1_up {n : Net} {t : Tru} {b : List Bool} {a : Nat} (ha : a < b.length) : ∀ i, gb b i = true → gb (sw1 n t b a) i = true := by
  intro i h
  unfold sw1
  split
  · exact h
  · rename_i hn
    rw [gb_set ha]
    split
    · rename_i e; subst e; exact absurd h hn
    · exact h
theorem sw_up {n : Net} {t : Tru} {b : List Bool} : ∀ {a : Nat}, a ≤ b.length → ∀ i, gb b i = true → gb (sw n t b a) i = true
  | 0, _, i, h => h
  | a + 1, ha, i, h => sw1_up (by rw [sw_len]; omega) i (sw_up (by omega) i h)
/-- places beyond are as they were -/
theorem sw_out {n : Net} {t : Tru} {b : List Bool} : ∀ {a : Nat}, a ≤ b.length → ∀ i, a ≤ i → gb (sw n t b a) i = gb b i
  | 0, _, i, _ => rfl
  | a + 1, ha, i, hi => by
    rw [sw, sw1]
    split
    · exact sw_out (by omega) i (by omega)
    · rw [gb_set (by rw [sw_len]; omega), if_neg (by omega)]
      exact sw_out (by omega) i (by omega)
theorem rd_out {n : Net} {t : Tru} {b : List Bool} (hb : n.ancs.length ≤ b.length) : ∀ {k : Nat} (i : Nat), n.ancs.length ≤ i → gb (rd n t b k) i = gb b i
  | 0, i, _ => rfl
  | k + 1, i, hi => by rw [rd, sw_out (by rw [rd_len]; exact hb) i hi]; exact rd_out hb i hi
theorem sw1_least {n : Net} {t : Tru} (hp : Pos n t) (hw : n.walls.length = n.ancs.length - 1) {b : List Bool} {a : Nat} (ha : a < n.ancs.length) (hab : a < b.length) {D : Nat → Bool} (hc : Cl n t D) (hs : Le n (gb b) D) : Le n (gb (sw1 n t b a)) D := by
  intro i hi h
  unfold sw1 at h
  split at h
  · exact hs i hi h
  · rw [gb_set hab] at h
    split at h
    · rename_i e; subst e; exact hc _ ha (drg_mono hp hw hs ha h)
    · exact hs i hi h
theorem sw_least {n : Net} {t : Tru} (hp : Pos n t) (hw : n.walls.length = n.ancs.length - 1) {b : List Bool} (hb : n.ancs.length ≤ b.length) {D : Nat → Bool} (hc : Cl n t D) (hs : Le n (gb b) D) : ∀ {a : Nat}, a ≤ n.ancs.length → Le n (gb (sw n t b a)) D
  | 0, _ => hs
  | a + 1, ha => sw1_least hp hw (by omega) (by rw [sw_len]; omega) hc (sw_least hp hw hb hc hs (by omega))
theorem rd_least {n : Net} {t : Tru} (hp : Pos n t) (hw : n.walls.length = n.ancs.length - 1) {b : List Bool} (hb : n.ancs.length ≤ b.length) {D : Nat → Bool} (hc : Cl n t D) (hs : Le n (gb b) D) : ∀ {k : Nat}, Le n (gb (rd n t b k)) D
  | 0 => hs
  | k + 1 => sw_least hp hw (by rw [rd_len]; exact hb) hc (rd_least hp hw hb hc hs) (Nat.le_refl _)
theorem rd_up {n : Net} {t : Tru} {b : List Bool} (hb : n.ancs.length ≤ b.length) : ∀ {k : Nat}, ∀ i, gb b i = true → gb (rd n t b k) i = true
  | 0, i, h => h
  | k + 1, i, h => sw_up (by rw [rd_len]; exact hb) i (rd_up hb i h)

/-- what is closed stays as it is -/
theorem sw_closed {n : Net} {t : Tru} {b : List Bool} (hb : n.ancs.length ≤ b.length) (hc : Cl n t (gb b)) : ∀ {a : Nat}, a ≤ n.ancs.length → sw n t b a = b
  | 0, _ => rfl
  | a + 1, ha => by
    rw [sw, sw_closed hb hc (by omega), sw1]
    split
    · rfl
    · rename_i hn
      have : drg n t a (gb b) = false := by
        cases h : drg n t a (gb b) with
        | false => rfl
        | true => exact absurd (hc a (by omega) h) hn
      rw [this]
      have hf : gb b a = false := by simpa using hn
      simp only [gb, List.getD_eq_getElem?_getD] at hf
      apply List.ext_getElem?
      intro j
      rw [List.getElem?_set]
      split
      · rename_i e; subst e
        rw [if_pos (by omega)]
        rw [List.getElem?_eq_getElem (by omega)] at hf ⊢
        simpa using hf.symm
      · rfl
/-- what is not closed gets more -/
theorem sw_grows {n : Net} {t : Tru} (hp : Pos n t) (hw : n.walls.length = n.ancs.length - 1) {b : List Bool} (hb : n.ancs.length ≤ b.length) (hc : ¬ Cl n t (gb b)) : (lst n (gb b)).length < (lst n (gb (sw n t b n.ancs.length))).length := by
  rw [lst_len, lst_len]
  have hle : ∀ x ∈ List.range n.ancs.length, gb b x = true → gb (sw n t b n.ancs.length) x = true := fun x hx h => sw_up hb x h
  apply Nat.lt_of_le_of_ne (filter_le hle)
  intro he
  apply hc
  intro i hi hd
  refine filter_eq hle he i (List.mem_range.2 hi) ?_
  -- at its turn it drags, if it has not yet
  have h1 : drg n t i (gb (sw n t b i)) = true := drg_mono hp hw (fun j hj h => sw_up (a := i) (by omega) j h) hi hd
  have h2 : gb (sw n t b (i + 1)) i = true := by
    rw [sw, sw1]
    split
    · assumption
    · rw [gb_set (by rw [sw_len]; omega), if_pos rfl]; exact h1
  have h3 : ∀ k, i + 1 + k ≤ n.ancs.length → gb (sw n t b (i + 1 + k)) i = true := by
    intro k
    induction k with
    | zero => intro _; exact h2
    | succ k ih =>
      intro hk
      show gb (sw n t b ((i + 1 + k) + 1)) i = true
      rw [sw]
      exact sw1_up (a := i + 1 + k) (by rw [sw_len]; omega) i (ih (by omega))
  have := h3 (n.ancs.length - (i + 1)) (by omega)
  rwa [show i + 1 + (n.ancs.length - (i + 1)) = n.ancs.length by omega] at this

theorem rd_cl {n : Net} {t : Tru} (hp : Pos n t) (hw : n.walls.length = n.ancs.length - 1) {b : List Bool} (hb : n.ancs.length ≤ b.length) : ∀ k, Cl n t (gb (rd n t b k)) ∨ k ≤ (lst n (gb (rd n t b k))).length
  | 0 => .inr (Nat.zero_le _)
  | k + 1 => by
    by_cases hc : Cl n t (gb (rd n t b k))
    · left
      rw [rd, sw_closed (by rw [rd_len]; exact hb) hc (Nat.le_refl _)]
      exact hc
    · right
      rcases rd_cl hp hw hb k with h | h
      · exact absurd h hc
      · have := sw_grows hp hw (by rw [rd_len]; exact hb) hc
        rw [rd]; omega

/-- so many rounds as there are anchors are enough -/
theorem rd_lfp {n : Net} {t : Tru} (hp : Pos n t) (hw : n.walls.length = n.ancs.length - 1) {b : List Bool} (hb : n.ancs.length ≤ b.length) : IsLfp n t (gb b) (gb (rd n t b n.ancs.length)) := by
  refine ⟨?_, fun i _ h => rd_up hb i h, fun D hc hs => rd_least hp hw hb hc hs⟩
  rcases rd_cl hp hw hb n.ancs.length with h | h
  · exact h
  · intro i hi _
    rw [lst_len] at h
    have hall : ((List.range n.ancs.length).filter (gb (rd n t b n.ancs.length))).length = ((List.range n.ancs.length).filter fun _ => true).length := by
      have h1 := List.length_filter_le (gb (rd n t b n.ancs.length)) (List.range n.ancs.length)
      simp only [List.length_range] at h1
      have hf : (List.range n.ancs.length).filter (fun _ => true) = List.range n.ancs.length := by simp
      rw [hf, List.length_range]
      omega
    exact filter_eq (fun _ _ _ => rfl) hall i (List.mem_range.2 hi) rfl

theorem lfp_start {n : Net} {t : Tru} {S S' A : Nat → Bool} (h : IsLfp n t S A) (he : ∀ i, i < n.ancs.length → S i = S' i) : IsLfp n t S' A :=
  ⟨h.cl, fun i hi x => h.le i hi (by rw [he i hi]; exact x), fun D hc hs => h.least D hc fun i hi x => hs i hi (by rw [← he i hi]; exact x)⟩

end Go.Proofs.Ytpflneddfhifkaa.S
