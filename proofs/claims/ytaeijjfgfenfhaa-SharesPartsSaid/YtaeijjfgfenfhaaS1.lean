/-
The mathematics and the functions, one after another (S1).
-/
import Derived.Test.YtaeijjfgfenfhaaAmX
import Derived.Test.YtaeijjfgfenfhaaTab
import Derived.Test.YtaeijjfgfenfhaaAmY

/-
Numbers, lists, the first of the best: what the stages share.
-/
namespace Go.Proofs.Ytaeijjfgfenfhaa.S
set_option linter.unusedVariables false
set_option linter.unusedSimpArgs false

def mx (x y : Int) : Int := if y > x then y else x
def mn (x y : Int) : Int := if y < x then y else x
theorem le_mx1 {x y : Int} : x ≤ mx x y := by unfold mx; split <;> omega
theorem le_mx2 {x y : Int} : y ≤ mx x y := by unfold mx; split <;> omega
theorem mx_le {x y z : Int} (h1 : x ≤ z) (h2 : y ≤ z) : mx x y ≤ z := by unfold mx; split <;> omega
theorem mn_le1 {x y : Int} : mn x y ≤ x := by unfold mn; split <;> omega
theorem mn_le2 {x y : Int} : mn x y ≤ y := by unfold mn; split <;> omega
theorem le_mn {x y z : Int} (h1 : z ≤ x) (h2 : z ≤ y) : z ≤ mn x y := by unfold mn; split <;> omega
theorem mx_or {x y : Int} : mx x y = x ∨ mx x y = y := by unfold mx; split <;> simp
theorem mn_or {x y : Int} : mn x y = x ∨ mn x y = y := by unfold mn; split <;> simp
def inR (n lo hi : Int) : Bool := decide (lo ≤ n) && decide (n ≤ hi)
theorem inR_iff {n lo hi : Int} : inR n lo hi = true ↔ lo ≤ n ∧ n ≤ hi := by simp [inR]
def sm : List Int → Int
  | [] => 0
  | a :: l => a + sm l
theorem sm_app : ∀ {a b : List Int}, sm (a ++ b) = sm a + sm b
  | [], b => by simp [sm]
  | x :: a, b => by simp [sm, sm_app (a := a)]; omega
theorem getD_mem {α : Type} [Inhabited α] {l : List α} {i : Nat} (h : i < l.length) : l.getD i default ∈ l := by
  rw [List.getD_eq_getElem?_getD, List.getElem?_eq_getElem h]; exact List.getElem_mem h
theorem mem_getD {α : Type} {d : α} {l : List α} {x : α} (h : x ∈ l) : ∃ i, i < l.length ∧ l.getD i d = x := by
  obtain ⟨i, hi, e⟩ := List.mem_iff_getElem.1 h
  exact ⟨i, hi, by rw [List.getD_eq_getElem?_getD, List.getElem?_eq_getElem hi]; exact e⟩
theorem mn_comm {x y : Int} : mn x y = mn y x := by unfold mn; split <;> split <;> omega
/-- one list ahead of another one -/
def ear : List Int → List Int → Bool
  | a :: l, b :: m => if a ≠ b then decide (a < b) else ear l m
  | _, _ => false
theorem ear_app : ∀ {F l m : List Int}, ear (F ++ l) (F ++ m) = ear l m
  | [], _, _ => rfl
  | a :: F, l, m => by simp [ear, ear_app (F := F)]
theorem ear_asym : ∀ {l m : List Int}, ear l m = true → ear m l = false
  | [], m, h => by simp [ear] at h
  | a :: l, [], h => by simp [ear] at h
  | a :: l, b :: m, h => by
    simp only [ear] at h ⊢
    by_cases e : a = b
    · subst e; simp only [ne_eq, not_true_eq_false, if_false] at h ⊢; exact ear_asym h
    · rw [if_pos e] at h; rw [if_pos (Ne.symm e)]; simp at h ⊢; omega
theorem ear_total : ∀ {l m : List Int}, l.length = m.length → ear l m = false → ear m l = false → l = m
  | [], [], _, _, _ => rfl
  | [], _ :: _, h, _, _ => by simp at h
  | _ :: _, [], h, _, _ => by simp at h
  | a :: l, b :: m, h, h1, h2 => by
    simp only [ear] at h1 h2
    by_cases e : a = b
    · subst e; simp only [ne_eq, not_true_eq_false, if_false] at h1 h2; rw [ear_total (by simpa using h) h1 h2]
    · rw [if_pos e] at h1; rw [if_pos (Ne.symm e)] at h2; simp at h1 h2; omega
def bstS (f : List Int → Bool) (cost : List Int → Int) (b : Option (List Int)) (c : List Int) : Option (List Int) :=
  if f c then (match b with | none => some c | some x => if cost c < cost x then some c else b) else b
def bst (f : List Int → Bool) (cost : List Int → Int) (l : List (List Int)) : Option (List Int) := l.foldl (bstS f cost) none
theorem bst_snoc {f : List Int → Bool} {cost : List Int → Int} {l : List (List Int)} {c : List Int} : bst f cost (l ++ [c]) = bstS f cost (bst f cost l) c := by
  simp [bst, List.foldl_append]
theorem snocRec {α : Type} (P : List α → Prop) (l : List α) (nil : P []) (snoc : ∀ l c, P l → P (l ++ [c])) : P l := by
  rw [← List.reverse_reverse l]
  induction l.reverse with
  | nil => exact nil
  | cons c l ih => rw [List.reverse_cons]; exact snoc _ _ ih
theorem bst_none {f : List Int → Bool} {cost : List Int → Int} {l : List (List Int)} : bst f cost l = none ↔ ∀ c ∈ l, f c = false := by
  refine snocRec (fun l => bst f cost l = none ↔ ∀ c ∈ l, f c = false) l (by simp [bst]) ?_
  intro l c ih
  rw [bst_snoc]
  constructor
  · intro h x hx
    unfold bstS at h
    split at h
    · split at h
      · cases h
      · split at h
        · cases h
        · rename_i e _; rw [e] at h; cases h
    · rename_i hf
      rcases List.mem_append.1 hx with hx | hx
      · exact ih.1 h x hx
      · rw [List.mem_singleton] at hx; subst hx; simpa using hf
  · intro h
    unfold bstS
    rw [if_neg (by rw [h c (by simp)]; simp)]
    exact ih.2 fun x hx => h x (by simp [hx])
theorem bst_some {f : List Int → Bool} {cost : List Int → Int} {l : List (List Int)} : l.Pairwise (fun x y => ear x y = true) → ∀ {x : List Int}, bst f cost l = some x → (x ∈ l ∧ f x = true ∧ ∀ c ∈ l, f c = true → cost x ≤ cost c ∧ (cost c = cost x → ear c x = false)) := by
  refine snocRec (fun l => l.Pairwise (fun x y => ear x y = true) → ∀ {x : List Int}, bst f cost l = some x → (x ∈ l ∧ f x = true ∧ ∀ c ∈ l, f c = true → cost x ≤ cost c ∧ (cost c = cost x → ear c x = false))) l (by intro _ x h; cases h) ?_
  intro l c ih hp x h
  rw [List.pairwise_append] at hp
  obtain ⟨hp, _, hc⟩ := hp
  rw [bst_snoc] at h
  unfold bstS at h
  split at h
  · rename_i hf
    split at h
    · rename_i e
      cases h
      refine ⟨by simp, hf, fun y hy hfy => ?_⟩
      rcases List.mem_append.1 hy with hy | hy
      · rw [bst_none.1 e y hy] at hfy; cases hfy
      · rw [List.mem_singleton] at hy; subst hy
        refine ⟨Int.le_refl _, fun _ => ?_⟩
        cases hh : ear y y with
        | false => rfl
        | true => have := ear_asym hh; rw [hh] at this; cases this
    · rename_i z e
      split at h
      · rename_i hlt
        cases h
        obtain ⟨h1, h2, h3⟩ := ih hp e
        refine ⟨by simp, hf, fun y hy hfy => ?_⟩
        rcases List.mem_append.1 hy with hy | hy
        · have := (h3 y hy hfy).1
          exact ⟨by omega, fun e => by omega⟩
        · rw [List.mem_singleton] at hy; subst hy
          refine ⟨Int.le_refl _, fun _ => ?_⟩
          cases hh : ear y y with
          | false => rfl
          | true => have := ear_asym hh; rw [hh] at this; cases this
      · rename_i hlt
        obtain ⟨h1, h2, h3⟩ := ih hp h
        rw [e] at h
        cases h
        refine ⟨by simp [h1], h2, fun y hy hfy => ?_⟩
        rcases List.mem_append.1 hy with hy | hy
        · exact h3 y hy hfy
        · rw [List.mem_singleton] at hy; subst hy
          exact ⟨by omega, fun _ => ear_asym (hc _ h1 _ (by simp))⟩
  · rename_i hf
    obtain ⟨h1, h2, h3⟩ := ih hp h
    refine ⟨by simp [h1], h2, fun y hy hfy => ?_⟩
    rcases List.mem_append.1 hy with hy | hy
    · exact h3 y hy hfy
    · rw [List.mem_singleton] at hy; subst hy; exact absurd hfy hf
def mst (f : List Int → Int) (l : List (List Int)) : Int := l.foldl (fun m c => mx m (f c)) 0
theorem mst_snoc {f : List Int → Int} {l : List (List Int)} {c : List Int} : mst f (l ++ [c]) = mx (mst f l) (f c) := by simp [mst, List.foldl_append]
theorem mst_ge {f : List Int → Int} {l : List (List Int)} : 0 ≤ mst f l ∧ ∀ c ∈ l, f c ≤ mst f l := by
  refine snocRec (fun l => 0 ≤ mst f l ∧ ∀ c ∈ l, f c ≤ mst f l) l (by simp [mst]) ?_
  intro l c ih
  rw [mst_snoc]
  refine ⟨Int.le_trans ih.1 le_mx1, fun x hx => ?_⟩
  rcases List.mem_append.1 hx with hx | hx
  · exact Int.le_trans (ih.2 x hx) le_mx1
  · rw [List.mem_singleton] at hx; subst hx; exact le_mx2
theorem mst_at {f : List Int → Int} {l : List (List Int)} : mst f l = 0 ∨ ∃ c ∈ l, f c = mst f l := by
  refine snocRec (fun l => mst f l = 0 ∨ ∃ c ∈ l, f c = mst f l) l (by simp [mst]) ?_
  intro l c ih
  rw [mst_snoc]
  rcases mx_or (x := mst f l) (y := f c) with h | h
  · rw [h]
    rcases ih with ih | ⟨x, hx, e⟩
    · exact .inl ih
    · exact .inr ⟨x, by simp [hx], e⟩
  · rw [h]; exact .inr ⟨c, by simp, rfl⟩
theorem mst_le {f : List Int → Int} {l : List (List Int)} {x : Int} (h0 : 0 ≤ x) (h : ∀ c ∈ l, f c ≤ x) : mst f l ≤ x := by
  rcases mst_at (f := f) (l := l) with e | ⟨c, hc, e⟩
  · omega
  · rw [← e]; exact h c hc
theorem mst_congr {f g : List Int → Int} {l : List (List Int)} (h : ∀ c ∈ l, f c = g c) : mst f l = mst g l := by
  unfold mst
  generalize (0 : Int) = z
  induction l generalizing z with
  | nil => rfl
  | cons a l ih =>
    simp only [List.foldl_cons, h a (by simp)]
    exact ih (fun c hc => h c (by simp [hc])) _
/-- a list without repeats in another one is no longer -/
theorem nodup_le {α : Type} [DecidableEq α] : ∀ {l m : List α}, l.Nodup → (∀ x ∈ l, x ∈ m) → l.length ≤ m.length
  | [], m, _, _ => by simp
  | a :: l, m, h, hm => by
    rw [List.nodup_cons] at h
    have h1 := nodup_le (l := l) (m := m.erase a) h.2 fun x hx => (List.mem_erase_of_ne (by rintro rfl; exact h.1 hx)).2 (hm x (by simp [hx]))
    have h2 := hm a (by simp)
    rw [List.length_erase_of_mem h2] at h1
    have := List.length_pos_of_mem h2
    simp only [List.length_cons]; omega
theorem filter_sub {α : Type} {p q : α → Bool} : ∀ {l : List α}, (∀ x ∈ l, p x = true → q x = true) → (l.filter p).length ≤ (l.filter q).length
  | [], _ => by simp
  | a :: l, h => by
    have ih := filter_sub (l := l) (p := p) (q := q) fun x hx => h x (by simp [hx])
    have h0 := h a (by simp)
    simp only [List.filter_cons]
    cases hp : p a
    · simp only [Bool.false_eq_true, if_false]; split <;> simp <;> omega
    · rw [h0 hp]; simp only [if_true, List.length_cons]; omega
theorem nodup_inj {α : Type} {l : List α} (h : l.Nodup) {i j : Nat} (hi : i < l.length) (hj : j < l.length) (e : l[i] = l[j]) : i = j := by
  have h1 := List.pairwise_iff_getElem.1 h
  by_cases c1 : i < j
  · exact absurd e (h1 i j hi hj c1)
  · by_cases c2 : j < i
    · exact absurd e.symm (h1 j i hj hi c2)
    · omega
/-- the numbers of places, as integers -/
def ofN (l : List Nat) : List Int := l.map fun (n : Nat) => (n : Int)
theorem ofN_take {l : List Nat} {f : Nat} : ofN (l.take f) = (ofN l).take f := by simp [ofN, List.map_take]
theorem ofN_len {l : List Nat} : (ofN l).length = l.length := by simp [ofN]
end Go.Proofs.Ytaeijjfgfenfhaa.S

/-
Customs: what each node gets and keeps of some pence.
-/
namespace Go.Proofs.Ytaeijjfgfenfhaa.S
set_option linter.unusedVariables false
set_option linter.unusedSimpArgs false

structure Nd where
  up : Int
  w : Int
  f : Int
  deriving Inhabited, DecidableEq
def ndA (C : List Nd) (i : Nat) : Nd := C.getD i default
/-- the nodes below a node, of the first so many -/
def bl (C : List Nd) (i : Int) (m : Nat) : List Nat := (List.range m).filter fun j => decide ((ndA C j).up = i)
theorem bl_succ {C : List Nd} {i : Int} {m : Nat} : bl C i (m + 1) = if (ndA C m).up = i then bl C i m ++ [m] else bl C i m := by
  unfold bl
  rw [List.range_succ, List.filter_append]
  split <;> simp [*]
theorem bl_yes {C : List Nd} {i : Int} {m : Nat} (h : (ndA C m).up = i) : bl C i (m + 1) = bl C i m ++ [m] := by rw [bl_succ, if_pos h]
theorem bl_no {C : List Nd} {i : Int} {m : Nat} (h : ¬ (ndA C m).up = i) : bl C i (m + 1) = bl C i m := by rw [bl_succ, if_neg h]
theorem bl_zero {C : List Nd} {i : Int} : bl C i 0 = [] := rfl
theorem mem_bl {C : List Nd} {i : Int} {m j : Nat} : j ∈ bl C i m ↔ j < m ∧ (ndA C j).up = i := by simp [bl]
/-- what is left of the pence when some nodes have got their Fixed -/
def fxR (C : List Nd) (p : Int) (l : List Nat) : Int := l.foldl (fun r j => r - mn (ndA C j).f r) p
theorem fxR_snoc {C : List Nd} {p : Int} {l : List Nat} {j : Nat} : fxR C p (l ++ [j]) = fxR C p l - mn (ndA C j).f (fxR C p l) := by simp [fxR, List.foldl_append]
def smW (C : List Nd) (l : List Nat) : Int := l.foldl (fun r j => r + (ndA C j).w) 0
theorem smW_snoc {C : List Nd} {l : List Nat} {j : Nat} : smW C (l ++ [j]) = smW C l + (ndA C j).w := by simp [smW, List.foldl_append]
/-- a part, rounded down -/
def pt (C : List Nd) (R S : Int) (j : Nat) : Int := (R * (ndA C j).w).tdiv S
def lfR (C : List Nd) (R S : Int) (l : List Nat) : Int := l.foldl (fun r j => r - pt C R S j) R
theorem lfR_snoc {C : List Nd} {R S : Int} {l : List Nat} {j : Nat} : lfR C R S (l ++ [j]) = lfR C R S l - pt C R S j := by simp [lfR, List.foldl_append]
/-- the pence that are still left -/
def exR (C : List Nd) (r : Int) (l : List Nat) : Int := l.foldl (fun r j => if 0 < (ndA C j).w ∧ 0 < r then r - 1 else r) r
theorem exR_snoc {C : List Nd} {r : Int} {l : List Nat} {j : Nat} : exR C r (l ++ [j]) = if 0 < (ndA C j).w ∧ 0 < exR C r l then exR C r l - 1 else exR C r l := by unfold exR; rw [List.foldl_append]; rfl
def exV (C : List Nd) (r : Int) (l : List Nat) (j : Nat) : Int := if 0 < (ndA C j).w ∧ 0 < exR C r l then 1 else 0
/-- what is divided by weights, and by how many -/
def rsR (C : List Nd) (i p : Int) : Int := fxR C p (bl C i C.length)
def rsS (C : List Nd) (i : Int) : Int := smW C (bl C i C.length)
def rsL (C : List Nd) (i p : Int) : Int := lfR C (rsR C i p) (rsS C i) (bl C i C.length)
/-- what a node gets of what its Up gets: first, and in all -/
def fvV (C : List Nd) (i p : Int) (j : Nat) : Int := mn (ndA C j).f (fxR C p (bl C i j))
def spv (C : List Nd) (i p : Int) (j : Nat) : Int :=
  if rsS C i = 0 then fvV C i p j else fvV C i p j + pt C (rsR C i p) (rsS C i) j + exV C (rsL C i p) (bl C i j) j
def spk (C : List Nd) (i p : Int) : Int := if rsS C i = 0 then rsR C i p else 0
def GF (C : List Nd) (p : Int) : Nat → Nat → Int
  | 0, _ => 0
  | k + 1, j => if j = 0 then p else spv C (ndA C j).up (GF C p k (ndA C j).up.toNat) j
/-- what a node gets, and keeps -/
def gG (C : List Nd) (p : Int) (j : Nat) : Int := GF C p (j + 1) j
def kK (C : List Nd) (p : Int) (j : Nat) : Int := spk C j (gG C p j)
def ndOk (n : Nd) : Bool := inR n.w 0 9 && inR n.f 0 20
def upOk (C : List Nd) (j : Nat) : Bool := if j = 0 then decide ((ndA C j).up = -1) else inR (ndA C j).up 0 (j - 1)
def cuB (C : List Nd) : Bool := inR C.length 1 8 && (List.range C.length).all (upOk C) && C.all ndOk
structure CuOk (C : List Nd) : Prop where
  n1 : 1 ≤ C.length
  n8 : C.length ≤ 8
  top : (ndA C 0).up = -1
  up : ∀ j, 1 ≤ j → j < C.length → 0 ≤ (ndA C j).up ∧ (ndA C j).up < j
  w : ∀ j, j < C.length → 0 ≤ (ndA C j).w ∧ (ndA C j).w ≤ 9
  f : ∀ j, j < C.length → 0 ≤ (ndA C j).f ∧ (ndA C j).f ≤ 20
theorem cuOk_iff {C : List Nd} : cuB C = true ↔ CuOk C := by
  unfold cuB
  simp only [Bool.and_eq_true, inR_iff, List.all_eq_true, List.mem_range]
  constructor
  · rintro ⟨⟨⟨h1, h2⟩, h3⟩, h4⟩
    have hn : ∀ j, j < C.length → ndOk (ndA C j) = true := fun j hj => h4 _ (by
      unfold ndA; rw [List.getD_eq_getElem?_getD, List.getElem?_eq_getElem hj]; exact List.getElem_mem hj)
    refine ⟨by omega, by omega, ?_, ?_, ?_, ?_⟩
    · have := h3 0 (by omega); simpa [upOk] using this
    · intro j hj hl
      have := h3 j hl
      unfold upOk at this
      rw [if_neg (by omega), inR_iff] at this
      omega
    · intro j hj
      have := hn j hj
      simp only [ndOk, Bool.and_eq_true, inR_iff] at this; exact this.1
    · intro j hj
      have := hn j hj
      simp only [ndOk, Bool.and_eq_true, inR_iff] at this; exact this.2
  · intro H
    refine ⟨⟨⟨by have := H.n1; omega, by have := H.n8; omega⟩, fun j hj => ?_⟩, fun x hx => ?_⟩
    · unfold upOk
      split
      · rename_i e; subst e; simpa using H.top
      · have := H.up j (by omega) hj
        rw [inR_iff]; omega
    · obtain ⟨j, hj, rfl⟩ := mem_getD (d := default) hx
      have h1 := H.w j hj
      have h2 := H.f j hj
      simp only [ndOk, Bool.and_eq_true, inR_iff]; exact ⟨h1, h2⟩

section
variable {C : List Nd} (H : CuOk C)
include H
omit H in
theorem bl_lt {i : Int} {m j : Nat} (hm : m ≤ C.length) (h : j ∈ bl C i m) : j < C.length := by have := (mem_bl.1 h).1; omega
theorem GF_fuel {p : Int} : ∀ (k k' j : Nat), j < k → j < k' → j < C.length → GF C p k j = GF C p k' j
  | 0, _, _, h, _, _ => by omega
  | _, 0, _, _, h, _ => by omega
  | k + 1, k' + 1, j, h, h', hj => by
    simp only [GF]
    by_cases e : j = 0
    · simp [e]
    · have hu := H.up j (by omega) hj
      rw [if_neg e, if_neg e, GF_fuel k k' _ (by omega) (by omega) (by omega)]
omit H in
theorem gG_zero {p : Int} : gG C p 0 = p := by simp [gG, GF]
theorem gG_eq {p : Int} {j : Nat} (h1 : 1 ≤ j) (hj : j < C.length) : gG C p j = spv C (ndA C j).up (gG C p (ndA C j).up.toNat) j := by
  have hu := H.up j h1 hj
  unfold gG
  conv => lhs; unfold GF
  rw [if_neg (by omega), GF_fuel H j _ _ (by omega) (Nat.lt_succ_self _) (by omega)]
/-! bounds -/
theorem fxR_bd {p : Int} (hp : 0 ≤ p) {l : List Nat} (hl : ∀ j ∈ l, j < C.length) : 0 ≤ fxR C p l ∧ fxR C p l ≤ p := by
  refine snocRec (fun l => (∀ j ∈ l, j < C.length) → 0 ≤ fxR C p l ∧ fxR C p l ≤ p) l (fun _ => ⟨hp, Int.le_refl _⟩) ?_ hl
  intro l c ih hl
  have := ih fun j hj => hl j (by simp [hj])
  have hf := H.f c (hl c (by simp))
  rw [fxR_snoc]
  unfold mn; split <;> omega
theorem smW_bd {l : List Nat} (hl : ∀ j ∈ l, j < C.length) : 0 ≤ smW C l ∧ smW C l ≤ 9 * l.length := by
  refine snocRec (fun l => (∀ j ∈ l, j < C.length) → 0 ≤ smW C l ∧ smW C l ≤ 9 * l.length) l (fun _ => ⟨Int.le_refl _, by simp [smW]⟩) ?_ hl
  intro l c ih hl
  have := ih fun j hj => hl j (by simp [hj])
  have hw := H.w c (hl c (by simp))
  rw [smW_snoc, List.length_append, List.length_singleton]
  omega
theorem pt_ediv {R S : Int} (hR : 0 ≤ R) {j : Nat} (hj : j < C.length) : pt C R S j = R * (ndA C j).w / S := by
  unfold pt
  exact Int.tdiv_eq_ediv_of_nonneg (Int.mul_nonneg hR (H.w j hj).1)
theorem pt_bd {R S : Int} (hR : 0 ≤ R) (hS : 0 < S) {j : Nat} (hj : j < C.length) : 0 ≤ pt C R S j ∧ S * pt C R S j ≤ R * (ndA C j).w ∧ R * (ndA C j).w < S * pt C R S j + S := by
  rw [pt_ediv H hR hj]
  have h0 := Int.mul_nonneg hR (H.w j hj).1
  refine ⟨Int.ediv_nonneg h0 (by omega), Int.mul_ediv_self_le (by omega), ?_⟩
  have := Int.lt_mul_ediv_self_add (x := R * (ndA C j).w) hS
  omega
/-- how many have a weight -/
def cnW (C : List Nd) (l : List Nat) : Int := l.foldl (fun r j => if 0 < (ndA C j).w then r + 1 else r) 0
omit H in
theorem cnW_snoc {l : List Nat} {j : Nat} : cnW C (l ++ [j]) = if 0 < (ndA C j).w then cnW C l + 1 else cnW C l := by unfold cnW; rw [List.foldl_append]; rfl
theorem lfR_bd {R S : Int} (hR : 0 ≤ R) (hS : 0 < S) {l : List Nat} (hl : ∀ j ∈ l, j < C.length) : R * (S - smW C l) ≤ S * lfR C R S l ∧ S * lfR C R S l ≤ R * (S - smW C l) + S * cnW C l ∧ (0 < cnW C l → S * lfR C R S l < R * (S - smW C l) + S * cnW C l) ∧ lfR C R S l ≤ R ∧ 0 ≤ cnW C l := by
  refine snocRec (fun l => (∀ j ∈ l, j < C.length) → R * (S - smW C l) ≤ S * lfR C R S l ∧ S * lfR C R S l ≤ R * (S - smW C l) + S * cnW C l ∧ (0 < cnW C l → S * lfR C R S l < R * (S - smW C l) + S * cnW C l) ∧ lfR C R S l ≤ R ∧ 0 ≤ cnW C l) l (fun _ => ?_) ?_ hl
  · simp [smW, lfR, cnW, Int.mul_comm]
  · intro l c ih hl
    obtain ⟨i1, i2, i3, i4, i5⟩ := ih fun j hj => hl j (by simp [hj])
    have hc := hl c (by simp)
    obtain ⟨b1, b2, b3⟩ := pt_bd H hR hS hc
    have hw := H.w c hc
    rw [smW_snoc, lfR_snoc, cnW_snoc]
    have e1 : R * (S - (smW C l + (ndA C c).w)) = R * (S - smW C l) - R * (ndA C c).w := by rw [← Int.mul_sub]; congr 1; omega
    have e2 : S * (lfR C R S l - pt C R S c) = S * lfR C R S l - S * pt C R S c := Int.mul_sub _ _ _
    rw [e1, e2]
    split
    · rename_i hp
      rw [Int.mul_add, Int.mul_one]
      refine ⟨by omega, by omega, fun _ => by omega, by omega, by omega⟩
    · rename_i hp
      have hz : (ndA C c).w = 0 := by omega
      have hq : pt C R S c = 0 := by rw [pt, hz]; simp
      rw [hz, hq]
      simp only [Int.mul_zero, Int.sub_zero]
      exact ⟨i1, i2, i3, i4, i5⟩
theorem rsL_bd {i p : Int} (hp : 0 ≤ p) (hS : rsS C i ≠ 0) : 0 ≤ rsL C i p ∧ rsL C i p ≤ rsR C i p ∧ (0 < cnW C (bl C i C.length) → rsL C i p < cnW C (bl C i C.length)) := by
  have hl : ∀ j ∈ bl C i C.length, j < C.length := fun j hj => bl_lt (Nat.le_refl _) hj
  have hR := fxR_bd H hp hl
  have hS0 := (smW_bd H hl).1
  have hS1 : 0 < rsS C i := by unfold rsS at hS ⊢; omega
  obtain ⟨b1, b2, b3, b4, b5⟩ := lfR_bd H (R := rsR C i p) (S := rsS C i) hR.1 hS1 hl
  have e : rsS C i - smW C (bl C i C.length) = 0 := by unfold rsS; omega
  rw [e, Int.mul_zero] at b1 b2 b3
  refine ⟨?_, b4, fun h => ?_⟩
  · show 0 ≤ lfR _ _ _ _
    exact Int.le_of_mul_le_mul_left (by rw [Int.mul_zero]; exact b1) hS1
  · have := b3 h
    rw [Int.zero_add] at this
    exact Int.lt_of_mul_lt_mul_left this (by omega)
omit H in
theorem exR_bd {r : Int} (hr : 0 ≤ r) {l : List Nat} : 0 ≤ exR C r l ∧ exR C r l ≤ r ∧ (exR C r l = 0 ∨ exR C r l = r - cnW C l) := by
  refine snocRec (fun l => 0 ≤ exR C r l ∧ exR C r l ≤ r ∧ (exR C r l = 0 ∨ exR C r l = r - cnW C l)) l ⟨hr, Int.le_refl _, .inr (by simp [exR, cnW])⟩ ?_
  rintro l c ⟨h1, h2, h3⟩
  rw [exR_snoc, cnW_snoc]
  split
  · rename_i hc
    rw [if_pos hc.1]; omega
  · rename_i hc
    split
    · rename_i hw
      have : exR C r l = 0 := by
        by_cases h : 0 < exR C r l
        · exact absurd ⟨hw, h⟩ hc
        · omega
      omega
    · omega
theorem exR_all {i p : Int} (hp : 0 ≤ p) (hS : rsS C i ≠ 0) : exR C (rsL C i p) (bl C i C.length) = 0 := by
  obtain ⟨h1, h2, h3⟩ := rsL_bd H hp hS
  obtain ⟨g1, g2, g3⟩ := exR_bd (C := C) h1 (l := bl C i C.length)
  rcases g3 with g3 | g3
  · exact g3
  · have hc : 0 < cnW C (bl C i C.length) := by
      by_cases h : 0 < cnW C (bl C i C.length)
      · exact h
      · exfalso
        apply hS
        have key : ∀ l : List Nat, (∀ j ∈ l, j < C.length) → 0 ≤ cnW C l ∧ (cnW C l = 0 → smW C l = 0) := by
          intro l
          refine snocRec (fun l => (∀ j ∈ l, j < C.length) → 0 ≤ cnW C l ∧ (cnW C l = 0 → smW C l = 0)) l (fun _ => ⟨by simp [cnW], fun _ => rfl⟩) ?_
          intro l c ih hl
          have := ih fun j hj => hl j (by simp [hj])
          have hw := H.w c (hl c (by simp))
          rw [cnW_snoc, smW_snoc]
          split <;> omega
        have := key (bl C i C.length) fun j hj => bl_lt (Nat.le_refl _) hj
        exact this.2 (by omega)
    have := h3 hc
    omega
/-- the nodes below a node get together what it doesn't keep -/
def smV (g : Nat → Int) (l : List Nat) : Int := l.foldl (fun r j => r + g j) 0
omit H in
theorem smV_snoc {g : Nat → Int} {l : List Nat} {j : Nat} : smV g (l ++ [j]) = smV g l + g j := by simp [smV, List.foldl_append]
omit H in
theorem fv_sum {i p : Int} {m : Nat} : smV (fvV C i p) (bl C i m) = p - fxR C p (bl C i m) := by
  induction m with
  | zero => simp [bl_zero, smV, fxR]
  | succ m ih =>
    by_cases h : (ndA C m).up = i
    · rw [bl_yes h, smV_snoc, fxR_snoc, ih]; unfold fvV; omega
    · rw [bl_no h, ih]
theorem sp_sum {i p : Int} (hp : 0 ≤ p) : smV (spv C i p) (bl C i C.length) + spk C i p = p := by
  by_cases hS : rsS C i = 0
  · have : ∀ l, smV (spv C i p) l = smV (fvV C i p) l := by
      intro l; unfold smV; congr 1; funext r j; simp [spv, hS]
    rw [this, fv_sum]
    unfold spk; rw [if_pos hS]; unfold rsR; omega
  · have key : ∀ m, smV (spv C i p) (bl C i m) = smV (fvV C i p) (bl C i m) + (rsR C i p - lfR C (rsR C i p) (rsS C i) (bl C i m)) + (rsL C i p - exR C (rsL C i p) (bl C i m)) := by
      intro m
      induction m with
      | zero => simp [bl_zero, smV, lfR, exR]
      | succ m ih =>
        by_cases h : (ndA C m).up = i
        · rw [bl_yes h, smV_snoc, smV_snoc, lfR_snoc, exR_snoc, ih]
          have : spv C i p m = fvV C i p m + pt C (rsR C i p) (rsS C i) m + exV C (rsL C i p) (bl C i m) m := by rw [spv, if_neg hS]
          rw [this]
          unfold exV
          split <;> omega
        · rw [bl_no h, ih]
    rw [key, fv_sum, exR_all H hp hS]
    unfold spk; rw [if_neg hS]
    unfold rsR rsL; unfold rsR; omega
theorem spv_nn {i p : Int} (hp : 0 ≤ p) {j : Nat} (hj : j < C.length) (hu : (ndA C j).up = i) : 0 ≤ spv C i p j := by
  have hf : 0 ≤ fvV C i p j := by
    have := fxR_bd H hp (l := bl C i j) (fun k hk => by have := (mem_bl.1 hk).1; omega)
    have := H.f j hj
    unfold fvV mn; split <;> omega
  unfold spv
  split
  · exact hf
  · rename_i hS
    have hl : ∀ j ∈ bl C i C.length, j < C.length := fun j hj => bl_lt (Nat.le_refl _) hj
    have hR := fxR_bd H hp hl
    have hS0 := (smW_bd H hl).1
    have hS1 : 0 < rsS C i := by unfold rsS at hS ⊢; omega
    have := (pt_bd H (R := rsR C i p) hR.1 hS1 hj).1
    unfold exV; split <;> omega
theorem spk_bd {i p : Int} (hp : 0 ≤ p) : 0 ≤ spk C i p ∧ spk C i p ≤ p := by
  have hR := fxR_bd H hp (l := bl C i C.length) (fun j hj => bl_lt (Nat.le_refl _) hj)
  unfold spk rsR; split <;> omega
theorem spv_le {i p : Int} (hp : 0 ≤ p) {j : Nat} (hj : j < C.length) (hu : (ndA C j).up = i) : spv C i p j ≤ p := by
  have h1 := sp_sum H (i := i) hp
  have h2 := (spk_bd H (i := i) hp).1
  have key : ∀ m, m ≤ C.length → 0 ≤ smV (spv C i p) (bl C i m) ∧ (j < m → spv C i p j ≤ smV (spv C i p) (bl C i m)) := by
    intro m
    induction m with
    | zero => intro _; exact ⟨by simp [bl_zero, smV], fun h => by omega⟩
    | succ m ih =>
      intro hm
      obtain ⟨g1, g2⟩ := ih (by omega)
      by_cases h : (ndA C m).up = i
      · rw [bl_yes h, smV_snoc]
        have := spv_nn H hp (by omega) h
        refine ⟨by omega, fun hjm => ?_⟩
        by_cases e : j = m
        · subst e; omega
        · have := g2 (by omega); omega
      · rw [bl_no h]
        exact ⟨g1, fun hjm => g2 (by have : j ≠ m := fun e => h (e ▸ hu); omega)⟩
  have := (key C.length (Nat.le_refl _)).2 hj
  omega
theorem gG_bd {p : Int} (hp : 0 ≤ p) : ∀ (j : Nat), j < C.length → 0 ≤ gG C p j ∧ gG C p j ≤ p := by
  intro j
  induction j using Nat.strongRecOn with
  | _ j ih =>
    intro hj
    by_cases e : j = 0
    · subst e; rw [gG_zero]; omega
    · have hu := H.up j (by omega) hj
      have := ih (ndA C j).up.toNat (by omega) (by omega)
      rw [gG_eq H (by omega) hj]
      have h1 := spv_nn H this.1 hj rfl
      have h2 := spv_le H this.1 hj rfl
      omega
theorem kK_bd {p : Int} (hp : 0 ≤ p) {j : Nat} (hj : j < C.length) : 0 ≤ kK C p j ∧ kK C p j ≤ p := by
  have h1 := gG_bd H hp j hj
  have := spk_bd H (i := j) h1.1
  unfold kK; omega
end
end Go.Proofs.Ytaeijjfgfenfhaa.S

/-
Lists in heaps, copies, appends: what the functions of lifts needed and those of mesh need, too.
-/
namespace Go.Proofs.Ytaeijjfgfenfhaa.S
open Go Go.Am Go.Proofs.Ytaeijjfgfenfhaa.T
set_option maxRecDepth 100000
set_option linter.unusedSimpArgs false
set_option linter.unusedVariables false

abbrev intL (n : Int) : List AV := [I n]
theorem intE (n : Int) : (intL n).length = 1 := rfl
theorem intSc (n : Int) : (intL n).all AV.scalar = true := rfl
def slV {α : Type} (esz : Nat) (enc : α → List AV) (l : List α) : AV := .cs esz l.length (l.flatMap enc)
theorem slV_is {α : Type} {esz : Nat} {enc : α → List AV} {l : List α} : IsSl esz enc l (slV esz enc l) := .inl rfl
theorem elem_in {l : List Int} {v : AV} (h : IsSl 1 intL l v) : ∀ i : Int, 0 ≤ i → i < l.length → elemAt 1 v (I i) = some (.cptr [I (l.getD i.toNat 0)]) := elem_sl intE h
/-- a list of numbers that is handed over: none at all if it is empty -/
def resL (l : List Int) : AV := if l = [] then .nils else slV 1 intL l
theorem resL_is (l : List Int) : IsSl 1 intL l (resL l) := by
  unfold resL; split
  · exact .inr ⟨rfl, by assumption⟩
  · exact slV_is
theorem gUn {X : Cx} {base : Nat} {k : List KF} {ts : List AV} {h : List AO} {mk : List Nat} {r : List AOper} {d : Option Nat} {w : Bool} {op : AOp} {sl : Option Nat} {m : List Nat} {x : Option (Nat × Bool)} : GG X base .undef w ⟨d, op, x, sl, m⟩ r k ts h mk = GO X base r k (putT ts d .undef) h mk := id rfl
theorem s57 (n lo hi : Int) (st : Bool) : Iso E 51 [I n, I lo, I hi] st = some (Bo (inR n lo hi)) := by
  refine Iso_of (es _ _ _ _) e51 ?_
  simp only [f51, inR]
  simp (disch := first | assumption | omega | (simp only [az]; done)) only [ru, eq_self, if_true, if_false, BEq.rfl, binI, AO.row?, splice, fillL, mmAll, loadV, storeV, zeros, Am.rowAt, Am.part, addOff, Nat.reduceAdd, Nat.reduceMul, Nat.reduceLeDiff, Nat.reduceSub, Nat.reduceLT, Int.reduceEq, Int.reduceLT, Int.reduceLE, Int.reduceGT, Int.reduceGE, Int.reduceAdd, Int.reduceSub, Int.reduceMul, Int.reduceNeg, Int.reduceToNat, reduceCtorEq, reduceIte]
  by_cases h1 : lo ≤ n
  · simp (disch := first | assumption | omega | (simp only [az]; done)) only [ru, eq_self, if_true, if_false, BEq.rfl, binI, AO.row?, splice, fillL, mmAll, loadV, storeV, zeros, Am.rowAt, Am.part, addOff, Nat.reduceAdd, Nat.reduceMul, Nat.reduceLeDiff, Nat.reduceSub, Nat.reduceLT, Int.reduceEq, Int.reduceLT, Int.reduceLE, Int.reduceGT, Int.reduceGE, Int.reduceAdd, Int.reduceSub, Int.reduceMul, Int.reduceNeg, Int.reduceToNat, reduceCtorEq, reduceIte, h1]
  · simp (disch := first | assumption | omega | (simp only [az]; done)) only [ru, eq_self, if_true, if_false, BEq.rfl, binI, AO.row?, splice, fillL, mmAll, loadV, storeV, zeros, Am.rowAt, Am.part, addOff, Nat.reduceAdd, Nat.reduceMul, Nat.reduceLeDiff, Nat.reduceSub, Nat.reduceLT, Int.reduceEq, Int.reduceLT, Int.reduceLE, Int.reduceGT, Int.reduceGE, Int.reduceAdd, Int.reduceSub, Int.reduceMul, Int.reduceNeg, Int.reduceToNat, reduceCtorEq, reduceIte, h1]
theorem all_upto_succ {α : Type} [Inhabited α] {l : List α} {p : α → Bool} {i : Nat} (hi : i < l.length) {x : α} (hx : l.getD i default = x) (h : (l.take i).all p = true) (hp : p x = true) : (l.take (i + 1)).all p = true := by
  subst hx
  rw [List.take_succ_eq_append_getElem hi, List.all_append, h]
  simpa [List.getD_eq_getElem?_getD, hi] using hp
theorem all_not {α : Type} [Inhabited α] {l : List α} {p : α → Bool} {i : Nat} (hi : i < l.length) {x : α} (hx : l.getD i default = x) (hp : p x = false) : l.all p = false := by
  subst hx
  rw [List.all_eq_false]
  exact ⟨l[i], List.getElem_mem hi, by simpa [List.getD_eq_getElem?_getD, hi] using hp⟩
theorem range_all_succ {p : Nat → Bool} {i : Nat} (h : (List.range i).all p = true) (hp : p i = true) : (List.range (i + 1)).all p = true := by
  rw [List.range_succ, List.all_append, h]; simpa using hp
theorem range_not {p : Nat → Bool} {i N : Nat} (hi : i < N) (hp : p i = false) : (List.range N).all p = false := by
  rw [List.all_eq_false]; exact ⟨i, List.mem_range.2 hi, by simp [hp]⟩

section
/-! the program's -/
end

section
theorem Ro_ex {E : Env} {f : Nat} {fn : AFn} {vs : List AV} {h : List AO} (P : AV → Prop) (hu : ∀ v, P v → v.under h.length = true) (hs : E.spec f vs h h.length = none) (hf : E.fn f = some fn)
    (hg : G ⟨E, h.length, none, f, Done h.length fn.results fun r h' => P r⟩ fn.body [] (vs ++ List.replicate (fn.ntmps - vs.length) .undef) h []) : ∃ v, Ro E f vs h = some v ∧ P v := by
  obtain ⟨r, h', h1, h2⟩ := R_of (fun r _ => P r) hs hf hg
  exact ⟨r, by simp only [Ro, h1, hu r h2, if_true], h2⟩
end

section
/-- the error of one who asks for something that is there, or is not -/
def aE (v q : Bool) (e : Int) : Int := if v then (if q then 0 else e) else 50
end

theorem sm_take {l : List Int} {i : Nat} (hi : i < l.length) : sm (l.take (i + 1)) = sm (l.take i) + l.getD i 0 := by
  rw [List.take_succ_eq_append_getElem hi, sm_app]
  simp [sm, List.getD_eq_getElem?_getD, hi]
theorem getD_memI {l : List Int} {i : Nat} (h : i < l.length) : l.getD i 0 ∈ l := by
  rw [List.getD_eq_getElem?_getD, List.getElem?_eq_getElem h]; exact List.getElem_mem h
theorem sm_bound {l : List Int} (hb : ∀ x ∈ l, 0 ≤ x ∧ x ≤ 1000) : ∀ {i : Nat}, i ≤ l.length → 0 ≤ sm (l.take i) ∧ sm (l.take i) ≤ 1000 * i
  | 0, _ => by simp [sm]
  | i + 1, hi => by
    have := sm_bound hb (i := i) (by omega)
    have := hb _ (getD_memI (l := l) (i := i) (by omega))
    rw [sm_take (by omega)]; omega
section
/-! what a place has -/
end

theorem mapM_view {st : Bool} {h : List AO} {n : Nat} : ∀ {c : List AV}, (∀ x ∈ c, view st h n x = some x) → c.mapM (view st h n) = some c
  | [], _ => rfl
  | a :: c, hc => by
    simp only [List.mapM_cons, hc a (by simp), mapM_view (c := c) (fun x hx => hc x (by simp [hx])), Option.bind_eq_bind, Option.bind_some, Option.pure_def]
theorem flat_view {α : Type} {enc : α → List AV} {st : Bool} {h : List AO} {n : Nat} (hi : ∀ a, ∀ x ∈ enc a, ∃ k i, x = .int k i) (l : List α) : (l.flatMap enc).mapM (view st h n) = some (l.flatMap enc) :=
  mapM_view fun x hx => by
    obtain ⟨a, _, hx⟩ := List.mem_flatMap.1 hx
    obtain ⟨k, i, rfl⟩ := hi a x hx
    exact view_int
theorem flat_take {α : Type} {enc : α → List AV} {l : List α} {k : Nat} (he : ∀ a, (enc a).length = k) : (l.flatMap enc).take (l.length * k) = l.flatMap enc := List.take_of_length_le (by rw [flat_len he]; omega)
theorem flat1 (l : List Int) : (l.flatMap fun n => [I n]).length = l.length := by
  have := flat_len (enc := fun n : Int => [I n]) (esz := 1) (fun _ => rfl) l
  omega
theorem intIv (n : Int) : ∀ x ∈ intL n, ∃ k i, x = .int k i := by simp
/-- a list of numbers that lies in the heap -/
def RdS (h : List AO) (v : AV) (l : List Int) : Prop := (l = [] ∧ v = .nils) ∨ (l ≠ [] ∧ ∃ o sh, v = .ms 1 o 0 l.length ∧ h[o]? = some (.cells (l.flatMap fun n => [I n]) sh))
/-- one heap came out of another: what was there is as it was -/
structure Fr (h h' : List AO) : Prop where
  l : h.length ≤ h'.length
  k : ∀ j, j < h.length → h'[j]? = h[j]?
theorem Fr.refl (h : List AO) : Fr h h := ⟨Nat.le_refl _, fun _ _ => rfl⟩
theorem Fr.trans {a b c : List AO} (h : Fr a b) (h' : Fr b c) : Fr a c := ⟨Nat.le_trans h.l h'.l, fun j hj => (h'.k j (Nat.lt_of_lt_of_le hj h.l)).trans (h.k j hj)⟩
theorem Fr.app (h J : List AO) : Fr h (h ++ J) := ⟨by simp, fun j hj => List.getElem?_append_left hj⟩
theorem Fr.at {h h' : List AO} (F : Fr h h') {j : Nat} {x : AO} (hx : h[j]? = some x) : h'[j]? = some x := by rw [F.k j (List.getElem?_eq_some_iff.1 hx).1]; exact hx
theorem RdS.fr {h h' : List AO} {v : AV} {l : List Int} (H : RdS h v l) (F : Fr h h') : RdS h' v l := by
  rcases H with h1 | ⟨hne, o, sh, rfl, hc⟩
  · exact .inl h1
  · exact .inr ⟨hne, o, sh, rfl, F.at hc⟩
theorem RdS.len {h : List AO} {v : AV} {l : List Int} (H : RdS h v l) : lenV v = some (I l.length) ∧ v.cells = [v] ∧ v.scalar = true := by
  rcases H with ⟨rfl, rfl⟩ | ⟨hne, o, sh, rfl, hc⟩ <;> exact ⟨rfl, rfl, rfl⟩
theorem RdS.row {h : List AO} {v : AV} {l : List Int} (H : RdS h v l) : lenOf v = some l.length ∧ Am.rowOf h v = some (l.flatMap fun n => [I n]) := by
  rcases H with ⟨rfl, rfl⟩ | ⟨hne, o, sh, rfl, hc⟩
  · exact ⟨rfl, rfl⟩
  · refine ⟨rfl, ?_⟩
    have e : (l.flatMap fun n => [I n]).take (l.length * 1) = l.flatMap fun n => [I n] := List.take_of_length_le (by rw [flat1]; omega)
    rw [Nat.mul_one] at e
    simp only [rowOf_ms, Am.rowAt, hc, Option.bind_some, AO.row?, List.drop_zero, Nat.mul_one, e, flat1, if_true]
theorem RdS.view {h : List AO} {v : AV} {l : List Int} (H : RdS h v l) {st : Bool} {k : Nat} : Am.view st h (k + 1) v = some (resL l) := by
  have hr := H.row.2
  rcases H with ⟨rfl, rfl⟩ | ⟨hne, o, sh, rfl, hc⟩
  · rfl
  · rw [view_ms, hr]
    simp only [flat_view (enc := fun n : Int => [I n]) (fun a x hx => ⟨_, _, by simpa using hx⟩), Option.map_some, resL, hne, if_false, slV]
theorem flat_sc (l : List Int) : (l.flatMap fun n => [I n]).all AV.scalar = true := scal_sl (fun _ => rfl) l
section
variable {α : Type} {l m : List α} {j : Nat} {x : α}
theorem setT : (l ++ m).set (l.length + j) x = l ++ m.set j x := by rw [List.set_append_right _ _ (by omega), Nat.add_sub_cancel_left]
theorem setT0 : (l ++ m).set l.length x = l ++ m.set 0 x := setT (j := 0)
theorem getT : (l ++ m).getD (l.length + j) x = m.getD j x := by simp [List.getD_eq_getElem?_getD, List.getElem?_append_right]
theorem getT0 : (l ++ m).getD l.length x = m.getD 0 x := getT (j := 0)
theorem atT : (l ++ m)[l.length + j]? = m[j]? := by rw [List.getElem?_append_right (by omega), Nat.add_sub_cancel_left]
theorem atT0 : (l ++ m)[l.length]? = m[0]? := atT (j := 0)
theorem set_same (h : l[j]? = some x) : l.set j x = l := by
  apply List.ext_getElem?
  intro i
  rw [List.getElem?_set]
  split
  · rename_i e; subst e
    rw [if_pos (List.getElem?_eq_some_iff.1 h).1, h]
  · rfl
end

/-! a list of lists that is being made -/
def OutLL (b : Nat) (h : List AO) (v : AV) (L : List (List Int)) : Prop := (L = [] ∧ v = .nils) ∨ (L ≠ [] ∧ ∃ o vs, b ≤ o ∧ v = .ms 1 o 0 L.length ∧ h[o]? = some (.cells vs false) ∧ vs.length = L.length ∧ ∀ i, i < L.length → RdS h (vs.getD i .undef) (L.getD i []))
theorem OutLL.fr {b : Nat} {h h' : List AO} {v : AV} {L : List (List Int)} (H : OutLL b h v L) (F : Fr h h') : OutLL b h' v L := by
  rcases H with h1 | ⟨hne, o, vs, ho, rfl, hc, hl, hr⟩
  · exact .inl h1
  · exact .inr ⟨hne, o, vs, ho, rfl, F.at hc, hl, fun i hi => (hr i hi).fr F⟩
theorem OutLL.len {b : Nat} {h : List AO} {v : AV} {L : List (List Int)} (H : OutLL b h v L) : lenV v = some (I L.length) := by
  rcases H with ⟨rfl, rfl⟩ | ⟨hne, o, vs, ho, rfl, hc, hl, hr⟩ <;> rfl
/-! appends in a region of open order -/
noncomputable def appG (keep : Bool) (lim p esz eb : Nat) (h : List AO) (s x : AV) : Option (AV × List AO) := exOp (fun _ _ _ _ => none) lim (some p) (fun o => match o with | .t 0 => s | _ => x) h (.append keep esz eb (.t 0) (.t 1))
theorem exOp_gapp {call : Am.Callee} {keep : Bool} {lim p esz eb : Nat} {ρ : Opd → AV} {h : List AO} {a x : Opd} : exOp call lim (some p) ρ h (.append keep esz eb a x) = appG keep lim p esz eb h (ρ a) (ρ x) := id rfl
theorem appG_zero {keep : Bool} {lim p esz eb sl : Nat} {h : List AO} {s x : AV} (hs : lenOf s = some sl) (hx : lenOf x = some 0) (hr : Am.rowOf h x = some []) : appG keep lim p esz eb h s x = some (s, h) := by
  simp only [appG, exOp, hs, hx, hr, List.length_nil, Nat.zero_mul, if_true]
theorem appG_nil {keep : Bool} {lim p esz eb n : Nat} {h : List AO} {x : AV} {xs : List AV} (hn : n ≠ 0) (hx : lenOf x = some n) (hr : Am.rowOf h x = some xs) (hl : xs.length = n * esz) (hs : xs.all AV.scalar = true) (hb : n * eb ≤ 140737488355328) (heb : 1 ≤ eb) :
    appG keep lim p esz eb h .nils x = some (.ms esz p 0 n, h.set p (.cells xs false)) := by
  simp only [appG, exOp, lenOf_nils, hx, hr, hl, hn, hs, hb, heb, Nat.zero_add, if_true, if_false, and_self, newAt, Option.getD_some]
theorem appG_ms {keep : Bool} {lim p esz eb n o len : Nat} {h : List AO} {x : AV} {c xs : List AV} (hn : n ≠ 0) (ho : h[o]? = some (.cells c false)) (hc : len * esz = c.length) (hx : lenOf x = some n) (hr : Am.rowOf h x = some xs) (hl : xs.length = n * esz) (hs : xs.all AV.scalar = true)
    (hb : (len + n) * eb ≤ 140737488355328) (heb : 1 ≤ eb) (hlim : lim ≤ o) :
    appG keep lim p esz eb h (.ms esz o 0 len) x = some (.ms esz p 0 (len + n), (h.set o (if keep then .ro c else .tomb)).set p (.cells (c ++ xs) (keep && len != 0))) := by
  simp only [appG, exOp, lenOf_ms, hx, hr, hl, hn, hs, hb, heb, ho, hc, hlim, if_true, if_false, and_self, true_and, true_or, newObj', Option.getD_some, List.take_length, Bool.or_false]
theorem GO_mcall0 {X : Cx} {base : Nat} {k : List KF} {ts : List AV} {h : List AO} {mk : List Nat} {r : List AOper} {d : Option Nat} {f : Nat} {args : List Opd} {m : List Nat} :
    GO X base (⟨d, .call 0 f args, none, none, m⟩ :: r) k ts h mk = GX X base ((R X.E (.fn f) (args.map (Opd.ev ts)) (hide base m h) X.lim).map fun y => (y.1, unhide base h m y.2)) d r k ts mk := by
  rw [GO_slot]
  congr 1
  show exMask (R X.E) X.lim base none (Opd.ev ts) h (.call 0 f args) m = _
  rw [exMask_eq]; rfl
theorem GO_mapp {X : Cx} {base : Nat} {k : List KF} {ts : List AV} {h : List AO} {mk : List Nat} {r : List AOper} {d : Option Nat} {kp : Bool} {e eb s : Nat} {a x : Opd} {m : List Nat} :
    GO X base (⟨d, .append kp e eb a x, none, some s, m⟩ :: r) k ts h mk = GX X base ((appG kp X.lim (base + s) e eb (hide base m h) (a.ev ts) (x.ev ts)).map fun y => (y.1, unhide base h m y.2)) d r k ts mk := by
  rw [GO_slot]
  congr 1
  show exMask (R X.E) X.lim base (some (base + s)) (Opd.ev ts) h (.append kp e eb a x) m = _
  rw [exMask_eq]; rfl
theorem unhN {b : Nat} {h g : List AO} : unhide b h [] g = g := id rfl
theorem unhC {b s : Nat} {r : List Nat} {h g : List AO} : unhide b h (s :: r) g = (unhide b h r g).set (b + s) (h.getD (b + s) .tomb) := id rfl
/-- the first append: a copy of the list so far -/
theorem app_one {lim : Nat} {h : List AO} {fv : AV} {F : List Int} (hF : RdS h fv F) (hb : F.length ≤ 1000) (hlim : lim ≤ h.length) : ∃ q x0 x1, q < 2 ∧ appG true lim (h.length + 1) 1 8 (h ++ [.cells [] false, .tomb, .tomb, .tomb, .tomb]) (.ms 1 h.length 0 0) fv = some (.ms 1 (h.length + q) 0 F.length, h ++ [x0, x1, .tomb, .tomb, .tomb]) ∧
    [x0, x1][q]? = some (.cells (F.flatMap fun n => [I n]) false) := by
  by_cases hz : F = []
  · subst hz
    refine ⟨0, .cells [] false, .tomb, by omega, ?_, rfl⟩
    have hr := (hF.fr (Fr.app h [.cells [] false, .tomb, .tomb, .tomb, .tomb])).row
    rw [appG_zero (sl := 0) rfl hr.1 hr.2]
    rfl
  · have hr := (hF.fr (Fr.app h [.cells [] false, .tomb, .tomb, .tomb, .tomb])).row
    have hn : F.length ≠ 0 := fun e => hz (List.eq_nil_of_length_eq_zero e)
    refine ⟨1, .ro [], .cells (F.flatMap fun n => [I n]) false, by omega, ?_, rfl⟩
    rw [appG_ms (c := []) hn atA0 rfl hr.1 hr.2 (by rw [flat1]; omega) (flat_sc F) (by omega) (by omega) hlim, setT0, setT]
    simp
theorem app_two {lim : Nat} {h : List AO} {F : List Int} {q : Nat} {x0 x1 : AO} {y : Int} (hq : q < 2) (hx : [x0, x1][q]? = some (.cells (F.flatMap fun n => [I n]) false)) (hb : F.length ≤ 1000) (hlim : lim ≤ h.length) :
    ∃ y0 y1 sh, appG true lim (h.length + 3) 1 8 (h ++ [x0, x1, .cells [I y] false, .tomb, .tomb]) (.ms 1 (h.length + q) 0 F.length) (.ms 1 (h.length + 2) 0 1) = some (.ms 1 (h.length + 3) 0 (F.length + 1), h ++ [y0, y1, .cells [I y] false, .cells ((F ++ [y]).flatMap fun n => [I n]) sh, .tomb]) := by
  have hr : Am.rowOf (h ++ [x0, x1, .cells [I y] false, .tomb, .tomb]) (.ms 1 (h.length + 2) 0 1) = some [I y] := by
    simp only [rowOf_ms, Am.rowAt, atT]; rfl
  have ho : (h ++ [x0, x1, .cells [I y] false, .tomb, .tomb])[h.length + q]? = some (.cells (F.flatMap fun n => [I n]) false) := by
    rw [atT]
    match q, hq with
    | 0, _ => exact hx
    | 1, _ => exact hx
  have key := appG_ms (keep := true) (lim := lim) (p := h.length + 3) (esz := 1) (eb := 8) (n := 1) (len := F.length) (x := .ms 1 (h.length + 2) 0 1) (xs := [I y]) (by omega) ho (by rw [flat1]; omega) rfl hr rfl rfl (by omega) (by omega) (by omega)
  rw [key, setT, setT]
  match q, hq with
  | 0, _ => exact ⟨_, _, _, by simp only [set0, setS, List.flatMap_append]; rfl⟩
  | 1, _ => exact ⟨_, _, _, by simp only [set0, setS, List.flatMap_append]; rfl⟩
/-- the last append: the lists of one grip behind those so far -/
theorem app_ll {lim b p : Nat} {h : List AO} {v x : AV} {L M : List (List Int)} (hL : OutLL b h v L) (hM : OutLL b h x M) (hMn : M ≠ []) (hp : h[p]? = some .tomb) (hbp : b ≤ p) (hlim : lim ≤ b) (hlen : L.length + M.length ≤ 100000) :
    ∃ h', appG false lim p 1 24 h v x = some (.ms 1 p 0 (L.length + M.length), h') ∧ h.length = h'.length ∧ (∀ j, j < b → h'[j]? = h[j]?) ∧ OutLL b h' (.ms 1 p 0 (L.length + M.length)) (L ++ M) := by
  rcases hM with ⟨rfl, _⟩ | ⟨_, o2, vs2, ho2, rfl, hc2, hl2, hr2⟩
  · exact absurd rfl hMn
  have hn : M.length ≠ 0 := fun e => hMn (List.eq_nil_of_length_eq_zero e)
  have hrow : Am.rowOf h (.ms 1 o2 0 M.length) = some vs2 := by
    simp only [rowOf_ms, Am.rowAt, hc2, Option.bind_some, AO.row?, List.drop_zero, Nat.mul_one, ← hl2, List.take_length, if_true]
  have hsc : ∀ {vs : List AV} {K : List (List Int)}, vs.length = K.length → (∀ i, i < K.length → RdS h (vs.getD i .undef) (K.getD i [])) → vs.all AV.scalar = true := by
    intro vs K hl hr
    rw [List.all_eq_true]
    intro y hy
    obtain ⟨i, hi, rfl⟩ := List.mem_iff_getElem.1 hy
    have := (hr i (by omega)).len.2.2
    simpa [List.getD_eq_getElem?_getD, hi] using this
  have hpl := (List.getElem?_eq_some_iff.1 hp).1
  -- what a list of numbers is, is no list of lists
  have keep : ∀ {k : Nat} {y : AO} {u : AV} {l : List Int}, RdS h u l → (h[k]? = some .tomb ∨ ∃ vs : List AV, h[k]? = some (.cells vs false) ∧ ∃ z, vs.head? = some z ∧ ∀ i, z ≠ I i) → RdS (h.set k y) u l := by
    rintro k y u l (h1 | ⟨hne, o, sh, rfl, hc⟩) hk
    · exact .inl h1
    · refine .inr ⟨hne, o, sh, rfl, ?_⟩
      rw [List.getElem?_set_ne, hc]
      rintro rfl
      rcases hk with hk | ⟨vs, hk, z, hz, hzi⟩
      · rw [hk] at hc; cases hc
      · rw [hk] at hc
        simp only [Option.some.injEq, AO.cells.injEq] at hc
        obtain ⟨rfl, _⟩ := hc
        match l, hne with
        | i :: l, _ => simp at hz; exact hzi i hz.symm
  rcases hL with ⟨rfl, rfl⟩ | ⟨hne, o, vs, ho, rfl, hc, hl, hr⟩
  · refine ⟨h.set p (.cells vs2 false), ?_, by simp, fun j hj => by rw [List.getElem?_set_ne (by omega)], .inr ⟨by simpa using hMn, p, vs2, hbp, ?_, by simp [hpl], by simpa using hl2, fun i hi => ?_⟩⟩
    · rw [appG_nil hn rfl hrow (by omega) (hsc hl2 hr2) (by simp at hlen; omega) (by omega)]
      simp
    · simp
    · simp only [List.nil_append] at hi ⊢
      exact keep (hr2 i hi) (.inl hp)
  · have hnL : L.length ≠ 0 := fun e => hne (List.eq_nil_of_length_eq_zero e)
    have hop : o ≠ p := by rintro rfl; rw [hc] at hp; cases hp
    have hz : ∃ z, vs.head? = some z ∧ ∀ i, z ≠ I i := by
      match vs, hl with
      | [], hl => simp at hl; omega
      | z :: vs, hl =>
        refine ⟨z, rfl, fun i e => ?_⟩
        have := hr 0 (by omega)
        simp only [get0] at this
        subst e
        rcases this with ⟨_, h⟩ | ⟨_, _, _, h, _⟩ <;> cases h
    obtain ⟨z, hz1, hz2⟩ := hz
    have k2 : ∀ {u : AV} {l : List Int}, RdS h u l → RdS ((h.set o .tomb).set p (.cells (vs ++ vs2) false)) u l := by
      intro u l hu
      have h1 := keep (k := o) (y := .tomb) hu (.inr ⟨vs, hc, z, hz1, hz2⟩)
      rcases h1 with h1 | ⟨hne', o', sh, rfl, hc'⟩
      · exact .inl h1
      · refine .inr ⟨hne', o', sh, rfl, ?_⟩
        rw [List.getElem?_set_ne, hc']
        rintro rfl
        rw [List.getElem?_set_ne hop, hp] at hc'; cases hc'
    refine ⟨(h.set o .tomb).set p (.cells (vs ++ vs2) false), ?_, by simp, fun j hj => by rw [List.getElem?_set_ne (by omega), List.getElem?_set_ne (by omega)], .inr ⟨by simp [hne], p, vs ++ vs2, hbp, by simp, by simp [hpl], by simp [hl, hl2], fun i hi => ?_⟩⟩
    · rw [appG_ms (c := vs) hn hc (by omega) rfl hrow (by omega) (hsc hl2 hr2) (by omega) (by omega) (by omega)]
      rfl
    · simp only [List.getD_eq_getElem?_getD]
      by_cases h1 : i < L.length
      · rw [List.getElem?_append_left (by omega), List.getElem?_append_left h1, ← List.getD_eq_getElem?_getD, ← List.getD_eq_getElem?_getD]
        exact k2 (hr i h1)
      · rw [List.getElem?_append_right (by omega), List.getElem?_append_right (by omega), ← List.getD_eq_getElem?_getD, ← List.getD_eq_getElem?_getD, hl]
        exact k2 (hr2 (i - L.length) (by simp at hi; omega))
/-- the same, where the lists behind may be none -/
theorem app_ll0 {lim b p : Nat} {h : List AO} {v x : AV} {L M : List (List Int)} (hL : OutLL b h v L) (hM : OutLL b h x M) (hp : h[p]? = some .tomb) (hbp : b ≤ p) (hlim : lim ≤ b) (hlen : L.length + M.length ≤ 100000) :
    ∃ v' h', appG false lim p 1 24 h v x = some (v', h') ∧ h.length = h'.length ∧ (∀ j, j < b → h'[j]? = h[j]?) ∧ OutLL b h' v' (L ++ M) := by
  by_cases hM0 : M = []
  · subst hM0
    rcases hM with ⟨_, rfl⟩ | ⟨h, _⟩
    · refine ⟨v, h, ?_, rfl, fun _ _ => rfl, by simpa using hL⟩
      rcases hL with ⟨rfl, rfl⟩ | ⟨_, o, vs, _, rfl, _⟩
      · exact appG_zero rfl rfl rfl
      · exact appG_zero (sl := L.length) rfl rfl rfl
    · exact absurd rfl h
  · obtain ⟨h', e1, e2, e3, e4⟩ := app_ll (lim := lim) (p := p) hL hM hM0 hp hbp hlim hlen
    exact ⟨_, h', e1, e2, e3, e4⟩
theorem OutLL.deep {b b' : Nat} {h : List AO} {v : AV} {L : List (List Int)} (H : OutLL b h v L) (hb : b' ≤ b) : OutLL b' h v L := by
  rcases H with h1 | ⟨hne, o, vs, ho, rfl, hc, hl, hr⟩
  · exact .inl h1
  · exact .inr ⟨hne, o, vs, by omega, rfl, hc, hl, hr⟩
theorem at_ap {α : Type} {l m : List α} {k : Nat} (h : k < l.length) : (l ++ m)[k]? = l[k]? := List.getElem?_append_left h
theorem mapM_pt {α β : Type} {f : AV → Option β} {g : α → β} {d : AV} {e : α} : ∀ {vs : List AV} {L : List α}, vs.length = L.length → (∀ i, i < L.length → f (vs.getD i d) = some (g (L.getD i e))) → vs.mapM f = some (L.map g)
  | [], [], _, _ => rfl
  | v :: vs, a :: L, hl, h => by
    have h0 := h 0 (by simp)
    have ih := mapM_pt (f := f) (g := g) (d := d) (e := e) (vs := vs) (L := L) (by simpa using hl) (fun i hi => h (i + 1) (by simpa using hi))
    simp only [get0] at h0
    simp only [List.mapM_cons, h0, ih, Option.bind_eq_bind, Option.bind_some, Option.pure_def, List.map_cons]
  | [], _ :: _, hl, _ => by simp at hl
  | _ :: _, [], hl, _ => by simp at hl
def resE (l : List Int) : List AV := [resL l]
theorem resE_len (l : List Int) : (resE l).length = 1 := rfl
theorem resE_map : ∀ L : List (List Int), L.map resL = L.flatMap resE
  | [] => rfl
  | a :: l => by simp only [List.map_cons, List.flatMap_cons, resE_map l]; rfl
/-- a list of lists, as a value -/
def resLL (L : List (List Int)) : AV := if L = [] then .nils else slV 1 resE L
theorem resLL_is (L : List (List Int)) : IsSl 1 resE L (resLL L) := by
  unfold resLL; split
  · exact .inr ⟨rfl, by assumption⟩
  · exact slV_is
theorem OutLL.view {b k : Nat} {h : List AO} {v : AV} {L : List (List Int)} (H : OutLL b h v L) (st : Bool) : Am.view st h (k + 2) v = some (resLL L) := by
  rcases H with ⟨rfl, rfl⟩ | ⟨hne, o, vs, _, rfl, hc, hl, hrd⟩
  · rfl
  have e1 : vs.mapM (Am.view st h (k + 1)) = some (L.map resL) := mapM_pt (d := .undef) (e := []) hl fun i hi => (hrd i hi).view
  rw [resE_map] at e1
  rw [resLL, if_neg hne]
  simp only [view_ms, rowOf_ms, Am.rowAt, hc, Option.bind_some, AO.row?, List.drop_zero, Nat.mul_one, ← hl, List.take_length, if_true]
  rw [e1, hl]
  rfl
/-- a list that is being made, of whatever -/
def OutE {α : Type} (enc : α → List AV) (esz b : Nat) (h : List AO) (v : AV) (l : List α) : Prop := (l = [] ∧ v = .nils) ∨ (l ≠ [] ∧ ∃ o, b ≤ o ∧ v = .ms esz o 0 l.length ∧ h[o]? = some (.cells (l.flatMap enc) false))
theorem outE_app {α : Type} {enc : α → List AV} {esz eb : Nat} (he : ∀ a, (enc a).length = esz) (hs : ∀ a, (enc a).all AV.scalar = true) (h1 : 1 ≤ esz) (heb : 1 ≤ eb) (hb : eb ≤ 1000) {pre J : List AO} {v : AV} {l : List α} {lim : Nat} (H : OutE enc esz pre.length (pre ++ J) v l) (hlim : lim ≤ pre.length) (hl : l.length ≤ 1000000) (x : α) :
    ∃ v' J', appV lim (pre ++ J) esz eb v (.cs esz 1 (enc x)) = some (v', pre ++ J') ∧ OutE enc esz pre.length (pre ++ J') v' (l ++ [x]) := by
  have hx : (enc x).length = 1 * esz := by rw [he]; omega
  rcases H with ⟨rfl, rfl⟩ | ⟨hne, o, ho, rfl, hc⟩
  · refine ⟨_, J ++ [AO.cells (enc x) false], ?_, .inr ⟨by simp, (pre ++ J).length, by simp, rfl, ?_⟩⟩
    · rw [appV_nil (n := 1) (xs := enc x) rfl rfl hx (hs x) (by omega) heb, if_neg (by omega)]
      simp
    · simp only [← List.append_assoc, List.nil_append, List.flatMap_cons, List.flatMap_nil, List.append_nil]
      exact atE
  · have ho' : o < (pre ++ J).length := (List.getElem?_eq_some_iff.1 hc).1
    refine ⟨_, J.set (o - pre.length) .tomb ++ [AO.cells ((l ++ [x]).flatMap enc) false], ?_, .inr ⟨by simp, (pre ++ J).length, by simp, rfl, ?_⟩⟩
    · have hbb : (l.length + 1) * eb ≤ 140737488355328 := by
        have := Nat.mul_le_mul (show l.length + 1 ≤ 1000001 by omega) hb
        omega
      rw [appV_ms (n := 1) (xs := enc x) (c := l.flatMap enc) (sh := false) hc (by rw [flat_len he]) rfl rfl hx (hs x) hbb heb (by omega), if_neg (by omega)]
      rw [List.set_append_right _ _ ho]
      simp
    · have e : (pre ++ J).length = (pre ++ J.set (o - pre.length) .tomb).length := by simp
      rw [e, ← List.append_assoc]
      exact atE
theorem outE_view {α : Type} {enc : α → List AV} {esz b : Nat} {h : List AO} {v : AV} {l : List α} (he : ∀ a, (enc a).length = esz) (H : OutE enc esz b h v l) (hne : l ≠ []) {st : Bool} {k : Nat} (hvw : ∀ a, (enc a).mapM (view st h k) = some (enc a)) : view st h (k + 1) v = some (slV esz enc l) := by
  rcases H with ⟨e, _⟩ | ⟨_, o, ho, rfl, hc⟩
  · exact absurd e hne
  · have e := flat_take (l := l) he
    have e2 : (l.flatMap enc).mapM (view st h k) = some (l.flatMap enc) := by
      apply mapM_view
      intro x hx
      obtain ⟨a, _, hx⟩ := List.mem_flatMap.1 hx
      exact mapM_fix (hvw a) x hx
    simp only [view_ms, rowOf_ms, Am.rowAt, hc, Option.bind_some, AO.row?, List.drop_zero, e, flat_len he, if_true, e2]
    rfl
where
  mapM_fix {f : AV → Option AV} : ∀ {c : List AV}, c.mapM f = some c → ∀ x ∈ c, f x = some x
    | [], _, x, hx => by simp at hx
    | a :: c, h, x, hx => by
      simp only [List.mapM_cons, Option.bind_eq_bind, Option.bind_eq_some_iff, Option.pure_def, Option.some.injEq, List.cons.injEq] at h
      obtain ⟨y, h1, ys, h2, rfl, rfl⟩ := h
      rcases List.mem_cons.1 hx with rfl | hx
      · exact h1
      · exact mapM_fix h2 x hx


theorem elem_ll {L : List (List Int)} {v : AV} (h : IsSl 1 resE L v) : ∀ i : Int, 0 ≤ i → i < L.length → elemAt 1 v (I i) = some (.cptr [resL (L.getD i.toNat [])]) := elem_sl resE_len h
theorem getD_memL {L : List (List Int)} {i : Nat} (h : i < L.length) : L.getD i [] ∈ L := by
  rw [List.getD_eq_getElem?_getD, List.getElem?_eq_getElem h]; exact List.getElem_mem h
theorem finC2 {lim i j s : Nat} {a : Bool} {P : AV → List AO → Prop} {ts : List AV} {h : List AO} : Done lim [.cell a s i, .tmp j] P .ret ⟨ts, h, []⟩ = ∃ v, getRes ts h (.cell a s i) = some v ∧ P (.tup [v, ts.getD j .undef]) h := by
  simp only [Done, finish, takeMarks, List.all_nil, if_true, List.mapM_cons, List.mapM_nil, Option.bind_eq_bind, Option.pure_def]
  cases getRes ts h (.cell a s i) <;> simp [getRes]
section
/-! Share, Load, Need -/
end

/-- a list that lies in the heap, in an object of its own -/
def RdC {α : Type} (enc : α → List AV) (esz : Nat) (h : List AO) (w : AV) (l : List α) : Prop := ∃ o, w = .ms esz o 0 l.length ∧ h[o]? = some (.cells (l.flatMap enc) false)
section
variable {α : Type} {enc : α → List AV} {esz eb : Nat} {l : List α}
theorem RdC.fr {h h' : List AO} {w : AV} (H : RdC enc esz h w l) (F : Fr h h') : RdC enc esz h' w l := by
  obtain ⟨o, e, hc⟩ := H; exact ⟨o, e, F.at hc⟩
theorem RdC.view {h : List AO} {w : AV} (H : RdC enc esz h w l) (he : ∀ a, (enc a).length = esz) (hi : ∀ a, ∀ x ∈ enc a, ∃ k i, x = .int k i) {st : Bool} {k : Nat} : Am.view st h (k + 1) w = some (slV esz enc l) := by
  obtain ⟨o, rfl, hc⟩ := H
  have e := flat_take (l := l) he
  simp only [view_ms, rowOf_ms, Am.rowAt, hc, Option.bind_some, AO.row?, List.drop_zero, e, flat_len he, if_true, flat_view hi]
  rfl
theorem RdC.sc {h : List AO} {w : AV} (H : RdC enc esz h w l) : w.cells = [w] ∧ w.scalar = true ∧ lenV w = some (I l.length) := by
  obtain ⟨o, rfl, hc⟩ := H; exact ⟨rfl, rfl, rfl⟩
theorem cpyV {v : AV} {h : List AO} {lim : Nat} (hv : IsSl esz enc l v) (he : ∀ a, (enc a).length = esz) (hs : ∀ a, (enc a).all AV.scalar = true) (hb : l.length * eb ≤ 140737488355328) (heb : 1 ≤ eb) (hlim : lim ≤ h.length) :
    ∃ w h', appV lim (h ++ [.cells [] false]) esz eb (.ms esz h.length 0 0) v = some (w, h') ∧ Fr h h' ∧ RdC enc esz h' w l := by
  rw [appV_new hv he hs hb heb _ _ _ atE hlim]
  by_cases hz : l.length = 0
  · rw [if_pos hz]
    refine ⟨_, _, rfl, Fr.app _ _, h.length, by rw [hz], ?_⟩
    rw [List.eq_nil_of_length_eq_zero hz]; exact atE
  · rw [if_neg hz]
    refine ⟨_, _, rfl, ⟨by simp, fun j hj => ?_⟩, (h ++ [AO.cells [] false]).length, rfl, ?_⟩
    · rw [List.getElem?_append_left (by simp; omega), List.getElem?_set_ne (by omega), List.getElem?_append_left hj]
    · rw [List.getElem?_append_right (by simp)]; simp
theorem cpyG {v : AV} {h J : List AO} {lim : Nat} (hv : IsSl esz enc l v) (he : ∀ a, (enc a).length = esz) (hs : ∀ a, (enc a).all AV.scalar = true) (hb : l.length * eb ≤ 140737488355328) (heb : 1 ≤ eb) (hlim : lim ≤ h.length) :
    ∃ w x0 x1, appG true lim (h.length + 1) esz eb (h ++ .cells [] false :: .tomb :: J) (.ms esz h.length 0 0) v = some (w, h ++ x0 :: x1 :: J) ∧ ∀ K, RdC enc esz (h ++ x0 :: x1 :: K) w l := by
  by_cases hz : l.length = 0
  · have e : l = [] := List.eq_nil_of_length_eq_zero hz
    subst e
    refine ⟨.ms esz h.length 0 0, .cells [] false, .tomb, ?_, fun K => ⟨h.length, rfl, by rw [atT0]; rfl⟩⟩
    have hr : Am.rowOf (h ++ .cells [] false :: .tomb :: J) v = some [] := rowOf_sl hv _
    rw [appG_zero (sl := 0) rfl (lenOf_sl hv) hr]
  · refine ⟨.ms esz (h.length + 1) 0 l.length, .ro [], .cells (l.flatMap enc) false, ?_, fun K => ⟨h.length + 1, rfl, by rw [atT]; rfl⟩⟩
    rw [appG_ms (c := []) hz atA0 (by simp) (lenOf_sl hv) (rowOf_sl hv _) (flat_len he l) (scal_sl hs l) (by simpa using hb) heb hlim, setT0, setT]
    simp
end
theorem slice_in {l : List Int} {v : AV} (h : IsSl 1 intL l v) {i : Nat} (hi : i < l.length) : ∃ u, sliceV 1 v none (some (I i)) = some u ∧ IsSl 1 intL (l.take i) u := by
  rcases h with rfl | ⟨rfl, rfl⟩
  · refine ⟨_, ?_, slV_is⟩
    have h1 : (0 : Int) ≤ i ∧ (i : Int) ≤ l.length := by omega
    simp only [sliceV, sliceB, h1, and_self, if_true, Int.toNat_natCast, Nat.zero_mul, List.drop_zero, Nat.sub_zero, Nat.mul_one, slV, List.length_take, Nat.min_eq_left (Nat.le_of_lt hi)]
    congr 2
    clear h1
    induction l generalizing i with
    | nil => simp
    | cons a l ih =>
      cases i with
      | zero => simp
      | succ i => simp only [List.flatMap_cons, List.cons_append, List.nil_append, List.take_succ_cons, ih (by simpa using hi)]
  · simp at hi
theorem s55 {l : List Int} {v : AV} (V : IsSl 1 intL l v) (hl : l.length ≤ 1000) (n : Int) (st : Bool) : Iso E 55 [v, I n] st = some (Bo (decide (n ∈ l))) := by
  refine Iso_of (es _ _ _ _) e55 ?_
  simp only [f55]
  simp (disch := first | assumption | omega | (simp only [az]; done)) only [ru, eq_self, if_true, if_false, BEq.rfl, binI, AO.row?, splice, fillL, mmAll, loadV, storeV, zeros, Am.rowAt, Am.part, addOff, Nat.reduceAdd, Nat.reduceMul, Nat.reduceLeDiff, Nat.reduceSub, Nat.reduceLT, Int.reduceEq, Int.reduceLT, Int.reduceLE, Int.reduceGT, Int.reduceGE, Int.reduceAdd, Int.reduceSub, Int.reduceMul, Int.reduceNeg, Int.reduceToNat, reduceCtorEq, reduceIte]
  refine G_loop_ind (fun m ts h mk => ∃ i : Nat, i ≤ l.length ∧ m = l.length - i ∧ n ∉ l.take i ∧ ts.length = 18 ∧ ts.getD 0 .undef = v ∧ ts.getD 1 .undef = I n ∧ ts.getD 5 .undef = I i ∧ h = [] ∧ mk = []) ?_ _ _ _ _ ⟨0, Nat.zero_le _, rfl, by simp, rfl, rfl, rfl, rfl, rfl, rfl⟩
  rintro m ts h mk ih ⟨i, hi, rfl, hn, hl', q0, q1, q5, rfl, rfl⟩
  rw [lit_all hl']
  simp only [lit0, litS, Nat.reduceAdd, q0, q1, q5]
  simp (disch := first | assumption | omega | (simp only [az]; done)) only [ru, eq_self, if_true, if_false, BEq.rfl, binI, AO.row?, splice, fillL, mmAll, loadV, storeV, zeros, Am.rowAt, Am.part, addOff, Nat.reduceAdd, Nat.reduceMul, Nat.reduceLeDiff, Nat.reduceSub, Nat.reduceLT, Int.reduceEq, Int.reduceLT, Int.reduceLE, Int.reduceGT, Int.reduceGE, Int.reduceAdd, Int.reduceSub, Int.reduceMul, Int.reduceNeg, Int.reduceToNat, reduceCtorEq, reduceIte, lenV_sl V, elem_in V, view_sl V, scalar_sl V, cells_sl V, pure_sl V, Int.toNat_natCast]
  by_cases hlt : (i : Int) < l.length
  case pos =>
    have hi' : i < l.length := by omega
    obtain ⟨x, hx⟩ : ∃ x, x = l.getD i 0 := ⟨_, rfl⟩
    have hm : x ∈ l := by rw [hx]; exact getD_memI hi'
    by_cases hc : x = n
    · have hd : n ∈ l := hc ▸ hm
      simp (disch := first | assumption | omega | (simp only [az]; done)) only [ru, eq_self, if_true, if_false, BEq.rfl, binI, AO.row?, splice, fillL, mmAll, loadV, storeV, zeros, Am.rowAt, Am.part, addOff, Nat.reduceAdd, Nat.reduceMul, Nat.reduceLeDiff, Nat.reduceSub, Nat.reduceLT, Int.reduceEq, Int.reduceLT, Int.reduceLE, Int.reduceGT, Int.reduceGE, Int.reduceAdd, Int.reduceSub, Int.reduceMul, Int.reduceNeg, Int.reduceToNat, reduceCtorEq, reduceIte, lenV_sl V, elem_in V, view_sl V, scalar_sl V, cells_sl V, pure_sl V, Int.toNat_natCast, hlt, ← hx, hc, hd, decide_true]
    · simp (disch := first | assumption | omega | (simp only [az]; done)) only [ru, eq_self, if_true, if_false, BEq.rfl, binI, AO.row?, splice, fillL, mmAll, loadV, storeV, zeros, Am.rowAt, Am.part, addOff, Nat.reduceAdd, Nat.reduceMul, Nat.reduceLeDiff, Nat.reduceSub, Nat.reduceLT, Int.reduceEq, Int.reduceLT, Int.reduceLE, Int.reduceGT, Int.reduceGE, Int.reduceAdd, Int.reduceSub, Int.reduceMul, Int.reduceNeg, Int.reduceToNat, reduceCtorEq, reduceIte, lenV_sl V, elem_in V, view_sl V, scalar_sl V, cells_sl V, pure_sl V, Int.toNat_natCast, hlt, ← hx, hc, decide_false]
      refine ih (l.length - (i + 1)) _ _ _ (by omega) ⟨i + 1, by omega, rfl, ?_, rfl, rfl, rfl, rfl, rfl, rfl⟩
      rw [List.take_succ_eq_append_getElem hi', List.mem_append, List.mem_singleton]
      rintro (h | h)
      · exact hn h
      · rw [List.getD_eq_getElem?_getD, List.getElem?_eq_getElem hi', Option.getD_some] at hx
        exact hc (hx.trans h.symm)
  obtain rfl : i = l.length := by omega
  rw [List.take_length] at hn
  simp (disch := first | assumption | omega | (simp only [az]; done)) only [ru, eq_self, if_true, if_false, BEq.rfl, binI, AO.row?, splice, fillL, mmAll, loadV, storeV, zeros, Am.rowAt, Am.part, addOff, Nat.reduceAdd, Nat.reduceMul, Nat.reduceLeDiff, Nat.reduceSub, Nat.reduceLT, Int.reduceEq, Int.reduceLT, Int.reduceLE, Int.reduceGT, Int.reduceGE, Int.reduceAdd, Int.reduceSub, Int.reduceMul, Int.reduceNeg, Int.reduceToNat, reduceCtorEq, reduceIte, hlt, hn, decide_false]
section
/-! of a crew -/
end

theorem OutE.viewL {b : Nat} {h : List AO} {v : AV} {l : List Int} (H : OutE intL 1 b h v l) {st : Bool} {k : Nat} : Am.view st h (k + 1) v = some (resL l) := by
  by_cases hne : l = []
  · subst hne
    rcases H with ⟨_, rfl⟩ | ⟨h, _⟩
    · rfl
    · exact absurd rfl h
  · rw [resL, if_neg hne]
    exact outE_view intE H hne fun a => by
      show [I a].mapM _ = _
      rw [List.mapM_cons, view_int]; rfl
theorem OutE.lenL {b : Nat} {h : List AO} {v : AV} {l : List Int} (H : OutE intL 1 b h v l) : lenV v = some (I l.length) := by
  rcases H with ⟨rfl, rfl⟩ | ⟨_, o, _, rfl, _⟩ <;> rfl
theorem rmap_len {f : Nat → Int} {n : Nat} : ((List.range n).map f).length = n := by simp
theorem rmap_at {f : Nat → Int} {n i : Nat} (h : i < n) : ((List.range n).map f).getD i 0 = f i := by
  simp [List.getD_eq_getElem?_getD, h]
theorem rmap_succ {f : Nat → Int} {n : Nat} : (List.range (n + 1)).map f = (List.range n).map f ++ [f n] := by
  rw [List.range_succ, List.map_append]; rfl


theorem pow_le {nb d : Nat} (hb : nb ≤ 6) (hd : d ≤ 4) : nb ^ d ≤ 1296 := by
  have h1 := Nat.pow_le_pow_left hb d
  have h2 := Nat.pow_le_pow_right (n := 6) (by omega) hd
  have : 6 ^ 4 = 1296 := by decide
  omega
/-! the program's -/
/-- what lies behind a place is as it was -/
structure Fk (b : Nat) (h h' : List AO) : Prop where
  l : h.length ≤ h'.length
  k : ∀ j, b ≤ j → j < h.length → h'[j]? = h[j]?
theorem Fk.refl (b : Nat) (h : List AO) : Fk b h h := ⟨Nat.le_refl _, fun _ _ _ => rfl⟩
theorem Fk.trans {n : Nat} {a b c : List AO} (h : Fk n a b) (h' : Fk n b c) : Fk n a c := ⟨Nat.le_trans h.l h'.l, fun j hn hj => (h'.k j hn (Nat.lt_of_lt_of_le hj h.l)).trans (h.k j hn hj)⟩
theorem Fk.of {b : Nat} {h h' : List AO} (F : Fr h h') : Fk b h h' := ⟨F.l, fun j _ hj => F.k j hj⟩
theorem Fk.at {b : Nat} {h h' : List AO} (F : Fk b h h') {j : Nat} (hb : b ≤ j) {x : AO} (hx : h[j]? = some x) : h'[j]? = some x := by rw [F.k j hb (List.getElem?_eq_some_iff.1 hx).1]; exact hx
def RdB (b : Nat) (h : List AO) (v : AV) (l : List Int) : Prop := (l = [] ∧ v = .nils) ∨ (l ≠ [] ∧ ∃ o sh, b ≤ o ∧ v = .ms 1 o 0 l.length ∧ h[o]? = some (.cells (l.flatMap fun n => [I n]) sh))
theorem RdB.s {b : Nat} {h : List AO} {v : AV} {l : List Int} (H : RdB b h v l) : RdS h v l := by
  rcases H with h1 | ⟨hne, o, sh, _, e, hc⟩
  · exact .inl h1
  · exact .inr ⟨hne, o, sh, e, hc⟩
theorem RdB.fk {b : Nat} {h h' : List AO} {v : AV} {l : List Int} (H : RdB b h v l) (F : Fk b h h') : RdB b h' v l := by
  rcases H with h1 | ⟨hne, o, sh, hb, e, hc⟩
  · exact .inl h1
  · exact .inr ⟨hne, o, sh, hb, e, F.at hb hc⟩
theorem flat_head {F : List Int} {i : Nat} (hi : i < F.length) : ((F.flatMap fun n => [I n]).drop i).head? = some (I (F.getD i 0)) := by
  induction F generalizing i with
  | nil => simp at hi
  | cons a F ih =>
    cases i with
    | zero => rfl
    | succ i => simpa using ih (i := i) (by simpa using hi)
theorem RdB.elem {b : Nat} {h : List AO} {v : AV} {l : List Int} (H : RdB b h v l) {i : Nat} (hi : i < l.length) : ∃ o, v = .ms 1 o 0 l.length ∧ ∃ c sh, h[o]? = some (.cells c sh) ∧ (c.drop (i * 1)).head? = some (I (l.getD i 0)) := by
  rcases H with ⟨rfl, _⟩ | ⟨hne, o, sh, hb, rfl, hc⟩
  · simp at hi
  · exact ⟨o, rfl, _, sh, hc, by rw [Nat.mul_one]; exact flat_head hi⟩


/-! the cheapest crew -/

theorem resL_cons {a : Int} {t : List Int} : resL (a :: t) = .cs 1 (t.length + 1) ((a :: t).flatMap intL) := by
  unfold resL slV; rw [if_neg (by simp)]; rfl
theorem resL_nil : resL [] = .nils := rfl
theorem fin3 {lim i j k : Nat} {P : AV → List AO → Prop} {ts : List AV} {h : List AO} : Done lim [.tmp i, .tmp j, .tmp k] P .ret ⟨ts, h, []⟩ = P (.tup [ts.getD i .undef, ts.getD j .undef, ts.getD k .undef]) h := by
  simp [Done, finish, takeMarks, getRes]
theorem take_snoc {α : Type} {l : List α} {i : Nat} {d : α} (h : i < l.length) : l.take (i + 1) = l.take i ++ [l.getD i d] := by
  rw [List.take_succ_eq_append_getElem h, List.getD_eq_getElem?_getD, List.getElem?_eq_getElem h]; rfl

section
theorem slice_ms {l : List Int} {o f : Nat} (hf : 1 ≤ f) (hl : f ≤ l.length) : sliceV 1 (.ms 1 o 0 l.length) none (some (I f)) = some (.ms 1 o 0 f) := by
  have h1 : (0 : Int) ≤ f ∧ (f : Int) ≤ l.length := by omega
  have h2 : 0 < f := hf
  simp only [sliceV, sliceB, h1, and_self, if_true, Int.toNat_natCast, Nat.zero_mul, Nat.add_zero, Nat.sub_zero, h2, true_or]
theorem view_take {l : List Int} {o f : Nat} {h : List AO} (hf : 1 ≤ f) (hl : f ≤ l.length) {sh : Bool} (hc : h[o]? = some (.cells (l.flatMap intL) sh)) {st : Bool} {k : Nat} : view st h (k + 1) (.ms 1 o 0 f) = some (resL (l.take f)) := by
  have e1 : (l.flatMap intL).take f = (l.take f).flatMap intL := by
    clear hc
    induction l generalizing f with
    | nil => simp at hl; omega
    | cons a l ih =>
      match f, hf with
      | f + 1, _ =>
        by_cases h0 : f = 0
        · subst h0; rfl
        · simp only [List.flatMap_cons, List.cons_append, List.nil_append, List.take_succ_cons, ih (f := f) (by omega) (by simpa using hl)]
  have e2 : ((l.take f).flatMap intL).length = f := by rw [flat_len intE, List.length_take]; omega
  have hne : l.take f ≠ [] := by
    intro e; have := congrArg List.length e; rw [List.length_take, List.length_nil] at this; omega
  simp only [view_ms, rowOf_ms, Am.rowAt, hc, Option.bind_some, AO.row?, List.drop_zero, Nat.mul_one, e1, e2, if_true, flat_view intIv, Option.map_some, resL, hne, if_false, slV, List.length_take, Nat.min_eq_left hl]
end

/-- a copy of a list that lies in the heap -/
theorem cpyR {h : List AO} {fv : AV} {F : List Int} {lim : Nat} (hF : RdS h fv F) (hb : F.length ≤ 1000) (hlim : lim ≤ h.length) :
    ∃ w h', appV lim (h ++ [.cells [] false]) 1 8 (.ms 1 h.length 0 0) fv = some (w, h') ∧ Fr h h' ∧ h.length < h'.length ∧ ∃ o, h.length ≤ o ∧ w = .ms 1 o 0 F.length ∧ h'[o]? = some (.cells (F.flatMap intL) false) := by
  have hr := (hF.fr (Fr.app h [.cells [] false])).row
  rw [appV_ms (n := F.length) (c := []) atE (by simp) hr.1 hr.2 (by rw [flat1]; omega) (flat_sc F) (by omega) (by omega) hlim]
  by_cases hz : F.length = 0
  · rw [if_pos hz]
    refine ⟨_, _, rfl, Fr.app _ _, by simp, h.length, Nat.le_refl _, by rw [hz], ?_⟩
    rw [List.eq_nil_of_length_eq_zero hz]; exact atE
  · rw [if_neg hz]
    refine ⟨_, _, rfl, ⟨by simp, fun j hj => ?_⟩, by simp, (h ++ [AO.cells [] false]).length, by simp, by rw [Nat.zero_add], ?_⟩
    · rw [List.getElem?_append_left (by simp; omega), List.getElem?_set_ne (by omega), List.getElem?_append_left hj]
    · rw [List.getElem?_append_right (by simp)]; simp
/-- lists behind lists -/
theorem app_llV {lim b : Nat} {h : List AO} {v x : AV} {L M : List (List Int)} (hL : OutLL b h v L) (hM : OutLL b h x M) (hb : b ≤ h.length) (hlim : lim ≤ b) (hlen : L.length + M.length ≤ 100000) :
    ∃ v' h', appV lim h 1 24 v x = some (v', h') ∧ h.length ≤ h'.length ∧ (∀ j, j < b → h'[j]? = h[j]?) ∧ OutLL b h' v' (L ++ M) := by
  have hsc : ∀ {vs : List AV} {K : List (List Int)}, vs.length = K.length → (∀ i, i < K.length → RdS h (vs.getD i .undef) (K.getD i [])) → vs.all AV.scalar = true := by
    intro vs K hl hr
    rw [List.all_eq_true]
    intro y hy
    obtain ⟨i, hi, rfl⟩ := List.mem_iff_getElem.1 hy
    have := (hr i (by omega)).len.2.2
    simpa [List.getD_eq_getElem?_getD, hi] using this
  rcases hM with ⟨rfl, rfl⟩ | ⟨hMn, o2, vs2, ho2, rfl, hc2, hl2, hr2⟩
  · refine ⟨v, h, ?_, Nat.le_refl _, fun _ _ => rfl, by simpa using hL⟩
    rcases hL with ⟨rfl, rfl⟩ | ⟨_, o, vs, _, rfl, _⟩
    · rfl
    · simp only [appV, lenOf_ms, lenOf_nils, rowOf_nils, List.length_nil, Nat.zero_mul, if_true]
  have hn : M.length ≠ 0 := fun e => hMn (List.eq_nil_of_length_eq_zero e)
  have hrow : Am.rowOf h (.ms 1 o2 0 M.length) = some vs2 := by
    simp only [rowOf_ms, Am.rowAt, hc2, Option.bind_some, AO.row?, List.drop_zero, Nat.mul_one, ← hl2, List.take_length, if_true]
  rcases hL with ⟨rfl, rfl⟩ | ⟨hne, o, vs, ho, rfl, hc, hl, hr⟩
  · refine ⟨_, _, by rw [appV_nil (n := M.length) rfl hrow (by omega) (hsc hl2 hr2) (by simp at hlen; omega) (by omega), if_neg hn], by simp, fun j hj => List.getElem?_append_left (by omega), .inr ⟨by simpa using hMn, h.length, vs2, hb, by simp, atE, by simpa using hl2, fun i hi => ?_⟩⟩
    simp only [List.nil_append] at hi ⊢
    exact (hr2 i hi).fr (Fr.app _ _)
  · have hnL : L.length ≠ 0 := fun e => hne (List.eq_nil_of_length_eq_zero e)
    have hz : ∃ z, vs.head? = some z ∧ ∀ i, z ≠ I i := by
      match vs, hl with
      | [], hl => simp at hl; omega
      | z :: vs, hl =>
        refine ⟨z, rfl, fun i e => ?_⟩
        have := hr 0 (by omega)
        simp only [get0] at this
        subst e
        rcases this with ⟨_, h⟩ | ⟨_, _, _, h, _⟩ <;> cases h
    obtain ⟨z, hz1, hz2⟩ := hz
    have ol := (List.getElem?_eq_some_iff.1 hc).1
    have k2 : ∀ {u : AV} {l : List Int}, RdS h u l → RdS (h.set o .tomb ++ [.cells (vs ++ vs2) false]) u l := by
      intro u l hu
      rcases hu with h1 | ⟨hne', o', sh, rfl, hc'⟩
      · exact .inl h1
      · refine .inr ⟨hne', o', sh, rfl, ?_⟩
        have ol' := (List.getElem?_eq_some_iff.1 hc').1
        have hoo : o ≠ o' := by
          rintro rfl
          rw [hc] at hc'
          simp only [Option.some.injEq, AO.cells.injEq] at hc'
          obtain ⟨rfl, _⟩ := hc'
          match l, hne' with
          | i :: l, _ => simp at hz1; exact hz2 i hz1.symm
        rw [List.getElem?_append_left (by simpa using ol'), List.getElem?_set_ne hoo, hc']
    refine ⟨_, _, by rw [appV_ms (c := vs) (n := M.length) hc (by omega) rfl hrow (by omega) (hsc hl2 hr2) (by omega) (by omega) (by omega), if_neg hn], by simp, fun j hj => by rw [List.getElem?_append_left (by simp; omega), List.getElem?_set_ne (by omega)],
      .inr ⟨by simp [hne], h.length, vs ++ vs2, hb, by simp, by rw [List.getElem?_append_right (by simp)]; simp, by simp [hl, hl2], fun i hi => ?_⟩⟩
    simp only [List.getD_eq_getElem?_getD]
    by_cases h1 : i < L.length
    · rw [List.getElem?_append_left (by omega), List.getElem?_append_left h1, ← List.getD_eq_getElem?_getD, ← List.getD_eq_getElem?_getD]
      exact k2 (hr i h1)
    · rw [List.getElem?_append_right (by omega), List.getElem?_append_right (by omega), ← List.getD_eq_getElem?_getD, ← List.getD_eq_getElem?_getD, hl]
      exact k2 (hr2 (i - L.length) (by simp at hi; omega))
theorem GC_join {X : Cx} {k : List KF} {ts : List AV} {h : List AO} {mk : List Nat} {a b : ACode} {v : Bool} (I : List AV → List AO → List Nat → Prop) (h1 : v = true → G { X with Q := fun ex s => ex = .nrm ∧ I s.tmps s.heap s.marks } a [] ts h mk)
    (h2 : v = false → G { X with Q := fun ex s => ex = .nrm ∧ I s.tmps s.heap s.marks } b [] ts h mk) (h3 : ∀ ts h mk, I ts h mk → G X .skip k ts h mk) : GC X (.bool v) a b k ts h mk := by
  cases v
  · exact G_cut I (h2 rfl) h3
  · exact G_cut I (h1 rfl) h3


/-! calls that lay what they make behind the caller's heap -/
noncomputable def C2 (E : Env) (f : Nat) (ws : List AV) (h : List AO) : Option (AV × List AO) :=
  if AV.pureV.go ws then (match R E (.fn f) ws [] 0 with
    | some (r, h') => some (r.shift h.length, h ++ h'.map (AO.shift h.length))
    | none => none)
  else (match ws.mapM (view false h 8) with
    | some vs => (match R E (.fn f) vs [] 0 with
      | some (r, h') => (view true h' 8 r).map fun r' => (r', h)
      | none => none)
    | none => none)
theorem exOp_call2 {E : Env} {lim : Nat} {pl : Option Nat} {ρ : Opd → AV} {h : List AO} {f : Nat} {args : List Opd} : exOp (R E) lim pl ρ h (.call 2 f args) = C2 E f (args.map ρ) h := by
  simp only [exOp, C2]
  rfl
theorem C2_of {f : Nat} {ws : List AV} {r : AV} {J h : List AO} (hp : AV.pureV.go ws = true) (hr : R E (.fn f) ws [] 0 = some (r, J)) : C2 E f ws h = some (r.shift h.length, h ++ J.map (AO.shift h.length)) := by
  simp only [C2, hp, hr, if_true]
theorem ints_shift (l : List Int) (n : Nat) : (l.flatMap intL).map (AV.shift n) = l.flatMap intL := by
  induction l with
  | nil => rfl
  | cons a l ih => simp only [List.flatMap_cons, List.map_append, ih]; rfl
theorem isNil_ne {α : Type} {esz : Nat} {enc : α → List AV} {l : List α} {v : AV} (V : IsSl esz enc l v) (hl : 0 < l.length) : ∃ n c, v = .cs esz (n + 1) c := by
  rcases V with rfl | ⟨rfl, rfl⟩
  · exact ⟨l.length - 1, _, by rw [Nat.sub_add_cancel hl]⟩
  · simp at hl
/-! a copy of a sea -/
theorem cpyQ {α : Type} {enc : α → List AV} {esz eb : Nat} {l : List α} {v : AV} {h J : List AO} {lim : Nat} (hv : IsSl esz enc l v) (he : ∀ a, (enc a).length = esz) (hs : ∀ a, (enc a).all AV.scalar = true) (hb : l.length * eb ≤ 140737488355328) (heb : 1 ≤ eb) (hlim : lim ≤ h.length) :
    ∃ q x0 x1, q < 2 ∧ appG true lim (h.length + 1) esz eb (h ++ .cells [] false :: .tomb :: J) (.ms esz h.length 0 0) v = some (.ms esz (h.length + q) 0 l.length, h ++ x0 :: x1 :: J) ∧ [x0, x1][q]? = some (.cells (l.flatMap enc) false) := by
  by_cases hz : l.length = 0
  · have e : l = [] := List.eq_nil_of_length_eq_zero hz
    subst e
    refine ⟨0, .cells [] false, .tomb, by omega, ?_, rfl⟩
    have hr : Am.rowOf (h ++ .cells [] false :: .tomb :: J) v = some [] := rowOf_sl hv _
    rw [appG_zero (sl := 0) rfl (lenOf_sl hv) hr]; rfl
  · refine ⟨1, .ro [], .cells (l.flatMap enc) false, by omega, ?_, rfl⟩
    rw [appG_ms (c := []) hz atA0 (by simp) (lenOf_sl hv) (rowOf_sl hv _) (flat_len he l) (scal_sl hs l) (by simpa using hb) heb hlim, setT0, setT]
    simp


theorem cpyO {α : Type} {enc : α → List AV} {esz eb : Nat} {l : List α} {v : AV} {h : List AO} {lim : Nat} (hv : IsSl esz enc l v) (he : ∀ a, (enc a).length = esz) (hs : ∀ a, (enc a).all AV.scalar = true) (hb : l.length * eb ≤ 140737488355328) (heb : 1 ≤ eb) (hlim : lim ≤ h.length) :
    ∃ o h', appV lim (h ++ [.cells [] false]) esz eb (.ms esz h.length 0 0) v = some (.ms esz o 0 l.length, h') ∧ Fr h h' ∧ h.length ≤ o ∧ h'[o]? = some (.cells (l.flatMap enc) false) := by
  rw [appV_new hv he hs hb heb _ _ _ atE hlim]
  by_cases hz : l.length = 0
  · rw [if_pos hz]
    refine ⟨h.length, _, by rw [hz], Fr.app _ _, Nat.le_refl _, ?_⟩
    rw [List.eq_nil_of_length_eq_zero hz]; exact atE
  · rw [if_neg hz]
    refine ⟨(h ++ [AO.cells [] false]).length, _, rfl, ⟨by simp, fun j hj => ?_⟩, by simp, ?_⟩
    · rw [List.getElem?_append_left (by simp; omega), List.getElem?_set_ne (by omega), List.getElem?_append_left hj]
    · rw [List.getElem?_append_right (by simp)]; simp
theorem int_put {l : List Int} {i : Nat} (hi : i < l.length) (x : Int) : (l.flatMap intL).take i ++ [I x] ++ (l.flatMap intL).drop (i + 1) = (l.set i x).flatMap intL := by
  induction l generalizing i with
  | nil => simp at hi
  | cons a l ih =>
    cases i with
    | zero => rfl
    | succ i =>
      have := ih (i := i) (by simpa using hi)
      show I a :: ((l.flatMap intL).take i ++ [I x] ++ (l.flatMap intL).drop (i + 1)) = _
      rw [this]; rfl

end Go.Proofs.Ytaeijjfgfenfhaa.S

/-
Maps from nodes to pence.
-/
namespace Go.Proofs.Ytaeijjfgfenfhaa.S
open Go Go.Am Go.Proofs.Ytaeijjfgfenfhaa.T
set_option maxRecDepth 100000
set_option linter.unusedSimpArgs false
set_option linter.unusedVariables false

abbrev KI : KT := .i .i64
/-- a map as a list: the numbers below n of which the function says something -/
def mapOf (f : Nat → Option Int) (n : Nat) : List (List Int × AV) := (List.range n).filterMap fun j => (f j).map fun v => ([(j : Int)], I v)
def entO (f : Nat → Option Int) (n : Nat) : List (List Int × AV) := match f n with
  | some v => [([(n : Int)], I v)]
  | none => []
theorem mapOf_succ {f : Nat → Option Int} {n : Nat} : mapOf f (n + 1) = mapOf f n ++ entO f n := by
  unfold mapOf entO
  rw [List.range_succ, List.filterMap_append]
  congr 1
  cases h : f n <;> simp [h]
theorem mapOf_congr {f g : Nat → Option Int} {n : Nat} (h : ∀ j, j < n → f j = g j) : mapOf f n = mapOf g n := by
  induction n with
  | zero => rfl
  | succ n ih => rw [mapOf_succ, mapOf_succ, ih fun j hj => h j (by omega)]; unfold entO; rw [h n (by omega)]
theorem mapOf_none {f : Nat → Option Int} {n : Nat} (h : ∀ j, j < n → f j = none) : mapOf f n = [] := by
  rw [mapOf_congr (g := fun _ => none) h]
  unfold mapOf; simp
theorem mem_mapOf {f : Nat → Option Int} {n : Nat} {x : List Int × AV} : x ∈ mapOf f n ↔ ∃ j v, j < n ∧ f j = some v ∧ x = ([(j : Int)], I v) := by
  unfold mapOf
  simp only [List.mem_filterMap, List.mem_range, Option.map_eq_some_iff]
  constructor
  · rintro ⟨j, hj, v, hv, rfl⟩; exact ⟨j, v, hj, hv, rfl⟩
  · rintro ⟨j, v, hj, hv, rfl⟩; exact ⟨j, hj, v, hv, rfl⟩
theorem findM_app {k : List Int} {b : List (List Int × AV)} : ∀ {a : List (List Int × AV)}, findM k (a ++ b) = (findM k a).or (findM k b)
  | [] => by simp [findM]
  | (x, y) :: a => by
    simp only [List.cons_append, findM]
    split
    · rfl
    · exact findM_app
theorem findM_not {k : List Int} : ∀ {a : List (List Int × AV)}, (∀ x ∈ a, x.1 ≠ k) → findM k a = none
  | [], _ => rfl
  | (x, y) :: a, h => by
    simp only [findM]
    rw [if_neg (fun e => h (x, y) (by simp) e.symm)]
    exact findM_not fun z hz => h z (by simp [hz])
theorem findM_mapOf {f : Nat → Option Int} {n j : Nat} (hj : j < n) : findM [(j : Int)] (mapOf f n) = (f j).map fun v => I v := by
  induction n with
  | zero => omega
  | succ n ih =>
    rw [mapOf_succ, findM_app]
    by_cases e : j = n
    · subst e
      rw [findM_not (a := mapOf f j)]
      · unfold entO; cases f j <;> simp [findM]
      · intro x hx
        obtain ⟨i, v, hi, _, rfl⟩ := mem_mapOf.1 hx
        simp; omega
    · rw [ih (by omega), findM_not (a := entO f n)]
      · simp
      · intro x hx
        unfold entO at hx
        split at hx
        · simp at hx; subst hx; simp; omega
        · cases hx
theorem putM_lo {k : List Int} {v : AV} {m : List (List Int × AV)} (hm : ∀ x ∈ m, x.1 ≠ k ∧ ltK k x.1 = true) : ∀ {l : List (List Int × AV)}, putM k v (l ++ m) = putM k v l ++ m
  | [] => by
    cases m with
    | nil => rfl
    | cons y m =>
      obtain ⟨y1, y2⟩ := y
      have := hm (y1, y2) (by simp)
      simp only [List.nil_append, putM]
      rw [if_neg (fun e => this.1 e.symm), if_pos this.2]; rfl
  | (a, b) :: l => by
    simp only [List.cons_append, putM]
    split
    · rfl
    · split
      · rfl
      · rw [putM_lo hm]; rfl
theorem putM_hi {k : List Int} {v : AV} {m : List (List Int × AV)} : ∀ {l : List (List Int × AV)}, (∀ x ∈ l, k ≠ x.1 ∧ ltK k x.1 = false) → putM k v (l ++ m) = l ++ putM k v m
  | [], _ => rfl
  | (a, b) :: l, h => by
    have h0 := h (a, b) (by simp)
    simp only [List.cons_append, putM]
    rw [if_neg h0.1, if_neg (by rw [h0.2]; simp), putM_hi fun x hx => h x (by simp [hx])]
def updF (f : Nat → Option Int) (j : Nat) (v : Int) : Nat → Option Int := fun k => if k = j then some v else f k
theorem putM_mapOf {f : Nat → Option Int} {n j : Nat} {v : Int} (hj : j < n) : putM [(j : Int)] (I v) (mapOf f n) = mapOf (updF f j v) n := by
  induction n with
  | zero => omega
  | succ n ih =>
    rw [mapOf_succ, mapOf_succ]
    by_cases e : j = n
    · subst e
      rw [putM_hi]
      · rw [mapOf_congr (f := updF f j v) (g := f) fun k hk => by unfold updF; rw [if_neg (by omega)]]
        congr 1
        unfold entO updF
        rw [if_pos rfl]
        cases f j <;> simp [putM]
      · intro x hx
        obtain ⟨i, w, hi, _, rfl⟩ := mem_mapOf.1 hx
        simp [ltK]; omega
    · rw [putM_lo, ih (by omega)]
      · congr 1
        unfold entO updF
        rw [if_neg (by omega)]
      · intro x hx
        unfold entO at hx
        split at hx
        · simp at hx; subst hx; simp [ltK]; omega
        · cases hx
theorem merge_mapOf {f g : Nat → Option Int} {n : Nat} : ∀ {k : Nat}, k ≤ n → mergeM (mapOf f n) (mapOf g k) = mapOf (fun j => if j < k then (g j).or (f j) else f j) n
  | 0, _ => by
    show mapOf f n = _
    exact mapOf_congr fun j hj => by simp
  | k + 1, hk => by
    rw [mapOf_succ]
    have ih := merge_mapOf (f := f) (g := g) (n := n) (k := k) (by omega)
    unfold mergeM at ih ⊢
    rw [List.foldl_append, ih]
    unfold entO
    cases hg : g k with
    | none =>
      simp only [List.foldl_nil]
      refine mapOf_congr fun j hj => ?_
      show (if j < k then (g j).or (f j) else f j) = _
      by_cases c : j < k
      · rw [if_pos c, if_pos (by omega)]
      · rw [if_neg c]
        by_cases e : j = k
        · subst e; rw [if_pos (by omega), hg]; rfl
        · rw [if_neg (by omega)]
    | some v =>
      simp only [List.foldl_cons, List.foldl_nil]
      rw [putM_mapOf (by omega)]
      refine mapOf_congr fun j hj => ?_
      unfold updF
      by_cases e : j = k
      · subst e; rw [if_pos rfl, if_pos (by omega), hg]; rfl
      · rw [if_neg e]
        show (if j < k then (g j).or (f j) else f j) = _
        by_cases c : j < k
        · rw [if_pos c, if_pos (by omega)]
        · rw [if_neg c, if_neg (by omega)]
theorem wf_small {v : Int} (h : -1000000 ≤ v ∧ v ≤ 1000000) : (Lit.int .i64 v).wf = true := by
  have h1 : (IntKind.i64).min = -9223372036854775808 := by decide
  have h2 : (IntKind.i64).max = 9223372036854775807 := by decide
  simp only [Lit.wf, h1, h2, Bool.and_eq_true, decide_eq_true_eq]; omega
theorem lit_mapOf {f : Nat → Option Int} {n : Nat} (hn : n ≤ 1000) (hf : ∀ j v, j < n → f j = some v → -1000000 ≤ v ∧ v ≤ 1000000) : litM (mapOf f n) = true := by
  simp only [litM, Bool.and_eq_true, decide_eq_true_eq, List.all_eq_true]
  refine ⟨fun x hx => ?_, ?_⟩
  · obtain ⟨j, v, hj, hv, rfl⟩ := mem_mapOf.1 hx
    exact litE_mk (wf_small (by omega)) (wf_small (hf j v hj hv))
  · unfold mapOf
    exact Nat.le_trans (List.length_filterMap_le _ _) (by simpa using hn)
theorem mapOf_keys {f : Nat → Option Int} {n : Nat} : (mapOf f n).map dk = (((List.range n).filter fun j => (f j).isSome).map fun (j : Nat) => (j : Int)) := by
  induction n with
  | zero => rfl
  | succ n ih =>
    rw [mapOf_succ, List.map_append, ih, List.range_succ, List.filter_append, List.map_append]
    congr 1
    unfold entO
    cases h : f n <;> simp [h, dk]
end Go.Proofs.Ytaeijjfgfenfhaa.S

/-
The nodes below a node, one after the other (the program's range over a function); the sum of their weights.
-/
namespace Go.Proofs.Ytaeijjfgfenfhaa.S
open Go Go.Am Go.Proofs.Ytaeijjfgfenfhaa.T
set_option maxRecDepth 100000
set_option linter.unusedSimpArgs false
set_option linter.unusedVariables false

theorem at_ne {α : Type} {l : List α} {k j : Nat} {x : α} (h : k ≠ j) : (l.set k x)[j]? = l[j]? := by rw [List.getElem?_set_ne h]
theorem at_len {α : Type} {l : List α} {k : Nat} {x : α} (h : l[k]? = some x) : k < l.length := (List.getElem?_eq_some_iff.1 h).1
theorem at_up {α : Type} {l m : List α} {k : Nat} {x : α} (h : l[k]? = some x) : (l ++ m)[k]? = some x := by rw [List.getElem?_append_left (at_len h)]; exact h
theorem at_st {α : Type} {l : List α} {k j : Nat} {x y : α} (h : l[j]? = some y) (hk : k ≠ j) : (l.set k x)[j]? = some y := by rw [List.getElem?_set_ne hk]; exact h
theorem at_se {α : Type} {l : List α} {k : Nat} {x y : α} (h : l[k]? = some y) : (l.set k x)[k]? = some x := by rw [List.getElem?_set_self (at_len h)]
theorem G_range_gen {X : Cx} {f : Opd} {ps : List Nat} {sa bd : ACode} {k : List KF} {ts : List AV} {h : List AO} {mk : List Nat} (H : ∀ TS AS BD, TS = ts → AS = sa → BD = bd → G X (.rangeFunc f ps AS BD) k TS h mk) : G X (.rangeFunc f ps sa bd) k ts h mk := H ts sa bd rfl rfl rfl
theorem G_at {X : Cx} {a b : ACode} {k : List KF} {ts ts' : List AV} {h : List AO} {mk : List Nat} (ea : a = b) (et : ts = ts') (h' : G X b k ts' h mk) : G X a k ts h mk := by rw [ea, et]; exact h'

theorem G_mono {E : Env} {lim : Nat} {rnd : Option Nat} {fid : Nat} {Q Q' : Ex → St → Prop} (hq : ∀ ex s, Q ex s → Q' ex s) {c : ACode} {ts : List AV} {h : List AO} {mk : List Nat} (hg : G ⟨E, lim, rnd, fid, Q⟩ c [] ts h mk) : G ⟨E, lim, rnd, fid, Q'⟩ c [] ts h mk := by
  simp only [G] at hg ⊢
  cases hd : den E lim rnd fid c ⟨ts, h, mk⟩ with
  | none => rw [hd] at hg; exact hg.elim
  | some y =>
    obtain ⟨ex, s1⟩ := y
    rw [hd] at hg
    simp only [unwO, unw] at hg ⊢
    exact hq _ _ hg
def Nd.e (n : Nd) : List AV := [I n.up, I n.w, I n.f]
theorem Nd.el (n : Nd) : n.e.length = 3 := rfl
theorem Nd.sc (n : Nd) : n.e.all AV.scalar = true := rfl
theorem Nd.iv (n : Nd) : ∀ x ∈ n.e, ∃ k i, x = .int k i := by simp [Nd.e]
theorem elem_nd {C : List Nd} {v : AV} (h : IsSl 3 Nd.e C v) : ∀ i : Int, 0 ≤ i → i < C.length → elemAt 3 v (I i) = some (.cptr [I (ndA C i.toNat).up, I (ndA C i.toNat).w, I (ndA C i.toNat).f]) := elem_sl Nd.el h
abbrev cuV (v : AV) : AV := .agg [v]

section
variable {C : List Nd} {v : AV} (hv : IsSl 3 Nd.e C v)
include hv
set_option maxHeartbeats 2000000 in
/-- the iterator: each node lies in a new object, those below are handed over -/
theorem r115 {L a b lim : Nat} {i : Int} (hn : C.length ≤ 1000) {P : Nat → List AO → Prop}
    (hc : ∀ m h, P m h → h[a]? = some (.cells [v] false) ∧ h[b]? = some (.cells [I i] false) ∧ lim ≤ h.length)
    (hno : ∀ m h x, m < C.length → ¬ (ndA C m).up = i → P m h → P (m + 1) (h ++ [x]))
    (hyes : ∀ m h x, m < C.length → (ndA C m).up = i → P m h → ∃ g, R E (.rnd L) [I m] (h ++ [x]) lim = some (Bo true, g) ∧ P (m + 1) g) {g : List AO} (h0 : P 0 g) :
    ∃ u g', R E (.fn 115) [.yld L, .ptr a 0, .ptr b 0] g lim = some (u, g') ∧ P C.length g' := by
  refine R_of _ (es _ _ _ _) e115 ?_
  simp only [f115]
  have c0 := (hc _ _ h0).1
  simp (disch := first | assumption | omega | (simp only [az]; done)) only [ru, eq_self, if_true, if_false, BEq.rfl, binI, AO.row?, splice, fillL, mmAll, loadV, storeV, zeros, Am.rowAt, Am.part, addOff, Nat.reduceAdd, Nat.reduceMul, Nat.reduceLeDiff, Nat.reduceSub, Nat.reduceLT, Int.reduceEq, Int.reduceLT, Int.reduceLE, Int.reduceGT, Int.reduceGE, Int.reduceAdd, Int.reduceSub, Int.reduceMul, Int.reduceNeg, Int.reduceToNat, reduceCtorEq, reduceIte, c0, lenV_sl hv]
  refine G_loop_ind (fun y ts hk mk => ∃ m : Nat, m ≤ C.length ∧ C.length - m = y ∧ P m hk ∧ ts.length = 26 ∧ ts.getD 0 .undef = .yld L ∧ ts.getD 1 .undef = .ptr a 0 ∧ ts.getD 2 .undef = .ptr b 0 ∧ ts.getD 8 .undef = v ∧ ts.getD 9 .undef = I C.length ∧ ts.getD 10 .undef = I m ∧ mk = []) ?_ C.length _ _ _ ⟨0, Nat.zero_le _, Nat.sub_zero _, h0, rfl, rfl, rfl, rfl, rfl, rfl, rfl, rfl⟩
  rintro y ts hk mk ih ⟨m, hm, rfl, hp, hl', q0, q1, q2, q8, q9, q10, rfl⟩
  rw [lit_all hl']
  simp only [lit0, litS, Nat.reduceAdd, q0, q1, q2, q8, q9, q10]
  obtain ⟨da, db, dl⟩ := hc _ _ hp
  by_cases e : m = C.length
  · subst e
    have n1 : ¬ ((C.length : Nat) : Int) < C.length := by omega
    simp (disch := first | assumption | omega | (simp only [az]; done)) only [ru, eq_self, if_true, if_false, BEq.rfl, binI, AO.row?, splice, fillL, mmAll, loadV, storeV, zeros, Am.rowAt, Am.part, addOff, Nat.reduceAdd, Nat.reduceMul, Nat.reduceLeDiff, Nat.reduceSub, Nat.reduceLT, Int.reduceEq, Int.reduceLT, Int.reduceLE, Int.reduceGT, Int.reduceGE, Int.reduceAdd, Int.reduceSub, Int.reduceMul, Int.reduceNeg, Int.reduceToNat, reduceCtorEq, reduceIte, n1, fin0, fin0n]
    exact hp
  · have n1 : ((m : Nat) : Int) < C.length := by omega
    have db' : ∀ x, (hk ++ [x])[b]? = some (.cells [I i] false) := fun x => at_up db
    by_cases c : (ndA C m).up = i
    · obtain ⟨g', hr, hp'⟩ := hyes m hk (.cells [I i, I (ndA C m).w, I (ndA C m).f] false) (by omega) c hp
      simp (disch := first | assumption | omega | (simp only [az]; done)) only [ru, eq_self, if_true, if_false, BEq.rfl, binI, AO.row?, splice, fillL, mmAll, loadV, storeV, zeros, Am.rowAt, Am.part, addOff, Nat.reduceAdd, Nat.reduceMul, Nat.reduceLeDiff, Nat.reduceSub, Nat.reduceLT, Int.reduceEq, Int.reduceLT, Int.reduceLE, Int.reduceGT, Int.reduceGE, Int.reduceAdd, Int.reduceSub, Int.reduceMul, Int.reduceNeg, Int.reduceToNat, reduceCtorEq, reduceIte, n1, elem_nd hv, db', c, dl, exOp_callv0, List.nil_append, List.append_nil, atT0, atT, setT0, lenE, Int.toNat_natCast, hr, Bool.not_true]
      exact ih (C.length - (m + 1)) _ _ _ (by omega) ⟨m + 1, by omega, rfl, hp', rfl, rfl, rfl, rfl, rfl, rfl, rfl, rfl⟩
    · have hp' := hno m hk (.cells [I (ndA C m).up, I (ndA C m).w, I (ndA C m).f] false) (by omega) c hp
      simp (disch := first | assumption | omega | (simp only [az]; done)) only [ru, eq_self, if_true, if_false, BEq.rfl, binI, AO.row?, splice, fillL, mmAll, loadV, storeV, zeros, Am.rowAt, Am.part, addOff, Nat.reduceAdd, Nat.reduceMul, Nat.reduceLeDiff, Nat.reduceSub, Nat.reduceLT, Int.reduceEq, Int.reduceLT, Int.reduceLE, Int.reduceGT, Int.reduceGE, Int.reduceAdd, Int.reduceSub, Int.reduceMul, Int.reduceNeg, Int.reduceToNat, reduceCtorEq, reduceIte, n1, elem_nd hv, db', c, dl, exOp_callv0, List.nil_append, List.append_nil, atT0, atT, setT0, lenE, Int.toNat_natCast]
      exact ih (C.length - (m + 1)) _ _ _ (by omega) ⟨m + 1, by omega, rfl, hp', rfl, rfl, rfl, rfl, rfl, rfl, rfl, rfl⟩
omit hv in
theorem r100 (v : AV) (i : Int) (h : List AO) (lim : Nat) : R E (.fn 100) [cuV v, I i] h lim = some (.fn 115 [] [.ptr h.length 0, .ptr (h.length + 1) 0], h ++ [.cells [v] false, .cells [I i] false]) := by
  have hr : ∃ r J, R E (.fn 100) [cuV v, I i] h lim = some (r, J) ∧ (r = .fn 115 [] [.ptr h.length 0, .ptr (h.length + 1) 0] ∧ J = h ++ [.cells [v] false, .cells [I i] false]) := by
    refine R_of (fun r J => r = .fn 115 [] [.ptr h.length 0, .ptr (h.length + 1) 0] ∧ J = h ++ [.cells [v] false, .cells [I i] false]) (es _ _ _ _) e100 ?_
    simp only [f100]
    simp (disch := first | assumption | omega | (simp only [az]; done)) only [ru, eq_self, if_true, if_false, BEq.rfl, binI, AO.row?, splice, fillL, mmAll, loadV, storeV, zeros, Am.rowAt, Am.part, addOff, Nat.reduceAdd, Nat.reduceMul, Nat.reduceLeDiff, Nat.reduceSub, Nat.reduceLT, Int.reduceEq, Int.reduceLT, Int.reduceLE, Int.reduceGT, Int.reduceGE, Int.reduceAdd, Int.reduceSub, Int.reduceMul, Int.reduceNeg, Int.reduceToNat, reduceCtorEq, reduceIte, lenE, List.append_assoc, List.cons_append, List.nil_append]
  obtain ⟨_, _, hr, rfl, rfl⟩ := hr
  exact hr
set_option maxHeartbeats 4000000 in
/-- a range over the nodes below a node: Q says what lies in the heap when the first m nodes have been looked at -/
theorem range_below {X : Cx} (hE : X.E = E) (hrn : X.rnd = none) {f : Opd} {prm kk : Nat} {body : ACode} {k : List KF} {ts : List AV} {h : List AO} {mk : List Nat} {a b : Nat} {i : Int} (hn : C.length ≤ 1000)
    (hf : f.ev ts = .fn 115 [] [.ptr a 0, .ptr b 0]) (hpl : prm < ts.length) (hl : X.lim ≤ h.length) (Q : Nat → List AO → Prop) (h0 : Q 0 h)
    (happ : ∀ m g x, Q m g → Q m (g ++ [x])) (hset : ∀ m g x, Q m g → Q m (g.set (h.length + 1) x))
    (hq : ∀ m g, Q m g → g[a]? = some (.cells [v] false) ∧ g[b]? = some (.cells [I i] false))
    (hno : ∀ m g, m < C.length → ¬ (ndA C m).up = i → Q m g → Q (m + 1) g)
    (hyes : ∀ m g, m < C.length → (ndA C m).up = i → h.length + 2 ≤ g.length → Q m g → G ⟨E, X.lim, some (h.length + 1), X.fid, fun ex s => ex = .nrm ∧ Q (m + 1) s.heap ∧ h.length + 2 ≤ s.heap.length ∧ s.heap[h.length]? = g[h.length]? ∧ s.heap[h.length + 1]? = g[h.length + 1]?⟩ body [] ((ts.set prm (I m)).set kk (I m)) g [])
    (hend : ∀ g, Q C.length g → h.length + 2 ≤ g.length → g[h.length]? = some .dfr → G X .skip k ts g (h.length :: mk)) :
    G X (.rangeFunc f [prm] (.region 0 [⟨some kk, .p (.move (.t prm)), none, none, []⟩]) body) k ts h mk := by
  obtain ⟨d, hd⟩ : ∃ d, d = h.length := ⟨_, rfl⟩
  rw [← hd] at hl hset hyes hend
  obtain ⟨AS, hAS⟩ : ∃ AS : ACode, AS = .region 0 [⟨some kk, .p (.move (.t prm)), none, none, []⟩] := ⟨_, rfl⟩
  rw [← hAS]
  have q0 : Q 0 (h ++ [.dfr, .loop .ready none X.fid ts [prm] AS body d]) := by
    have := happ _ _ (.loop .ready none X.fid ts [prm] AS body d) (happ _ _ .dfr h0)
    simpa using this
  have key := r115 hv (L := d + 1) (a := a) (b := b) (lim := X.lim) (i := i) hn (P := fun m g => Q m g ∧ d + 2 ≤ g.length ∧ g[d]? = some .dfr ∧ g[d + 1]? = some (.loop .ready none X.fid ts [prm] AS body d))
    (fun m g hp => ⟨(hq m g hp.1).1, (hq m g hp.1).2, by omega⟩)
    (fun m g x hm hu hp => ⟨hno m _ hm hu (happ _ _ _ hp.1), by simp; omega, at_up hp.2.2.1, at_up hp.2.2.2⟩) ?_
    (g := h ++ [.dfr, .loop .ready none X.fid ts [prm] AS body d]) ⟨q0, by simp; omega, by rw [hd, List.getElem?_append_right (Nat.le_refl _)]; simp, by rw [hd, List.getElem?_append_right (by omega)]; simp⟩
  · obtain ⟨u, g', hr, qn, hlen, gd, gl⟩ := key
    refine G_range_of hrn hf ?_
    rw [hE, ← hd]
    refine ⟨u, g', .ready, none, X.fid, ts, [prm], AS, body, d, hr, gl, .inl rfl, ?_⟩
    simp only [Option.getD_none, GE_nrm]
    exact hend _ (hset _ _ _ qn) (by simpa using hlen) (at_st gd (by omega))
  · rintro m g x hm hu ⟨qm, hlen, gd, gl⟩
    have gl' := at_up (m := [x]) gl
    have gd' := at_up (m := [x]) gd
    refine (fun ⟨u, h', hr, e, hp⟩ => ⟨h', by rw [← e]; exact hr, hp⟩ : (∃ u h', R E (.rnd (d + 1)) [I m] (g ++ [x]) X.lim = some (u, h') ∧ u = Bo true ∧ _) → _) (R_rnd_of (E := E) (lim := X.lim) (args := [I m]) _ gl' rfl (by omega) ?_)
    rw [hAS]
    have e1 : (ts.set prm (I m)).getD prm .undef = I m := by
      simp [List.getD_eq_getElem?_getD, List.getElem?_set_self hpl]
    simp only [setAll]
    simp (disch := first | assumption | omega | (simp only [az]; done)) only [ru, eq_self, if_true, if_false, BEq.rfl, binI, AO.row?, splice, fillL, mmAll, loadV, storeV, zeros, Am.rowAt, Am.part, addOff, Nat.reduceAdd, Nat.reduceMul, Nat.reduceLeDiff, Nat.reduceSub, Nat.reduceLT, Int.reduceEq, Int.reduceLT, Int.reduceLE, Int.reduceGT, Int.reduceGE, Int.reduceAdd, Int.reduceSub, Int.reduceMul, Int.reduceNeg, Int.reduceToNat, reduceCtorEq, reduceIte, e1]
    refine ⟨none, X.fid, ts, [prm], AS, body, d, by rw [hAS] at gl' ⊢; exact gl', ?_⟩
    obtain ⟨g1, hg1⟩ : ∃ g1, g1 = (g ++ [x]).set (d + 1) (AO.loop .busy none X.fid ts [prm] AS body d) := ⟨_, rfl⟩
    rw [← hg1]
    have l1 : d + 2 ≤ g1.length := by rw [hg1]; simp; omega
    have hb1 : g1[d + 1]? = some (AO.loop .busy none X.fid ts [prm] AS body d) := by rw [hg1]; exact at_se gl'
    have hd1 : g1[d]? = some .dfr := by rw [hg1]; exact at_st gd' (by omega)
    have q1 : Q m g1 := by rw [hg1]; exact hset _ _ _ (happ _ _ _ qm)
    refine G_mono ?_ (hyes m g1 hm hu l1 q1)
    rintro ex s ⟨rfl, qs, ls, sd, sl⟩
    refine ⟨.busy, none, X.fid, ts, [prm], AS, body, d, by rw [sl]; exact hb1, rfl, hset _ _ _ qs, by simpa using ls, ?_, ?_⟩
    · rw [at_ne (by omega), sd]; exact hd1
    · rw [at_se (sl.trans hb1), hAS]; rfl
set_option maxHeartbeats 4000000 in
/-- the sum of the weights -/
theorem t101 (H : CuOk C) (i : Int) (st : Bool) : Iso E 101 [cuV v, I i] st = some (I (rsS C i)) := by
  have key : ∃ r g', R E (.fn 101) [cuV v, I i] [] 0 = some (r, g') ∧ r = I (rsS C i) := by
    refine R_of _ (es _ _ _ _) e101 ?_
    simp only [f101]
    simp (disch := first | assumption | omega | (simp only [az]; done)) only [ru, eq_self, if_true, if_false, BEq.rfl, binI, AO.row?, splice, fillL, mmAll, loadV, storeV, zeros, Am.rowAt, Am.part, addOff, Nat.reduceAdd, Nat.reduceMul, Nat.reduceLeDiff, Nat.reduceSub, Nat.reduceLT, Int.reduceEq, Int.reduceLT, Int.reduceLE, Int.reduceGT, Int.reduceGE, Int.reduceAdd, Int.reduceSub, Int.reduceMul, Int.reduceNeg, Int.reduceToNat, reduceCtorEq, reduceIte, lenV_sl hv, view_sl hv, scalar_sl hv, cells_sl hv, pure_sl hv, exOp_call0, r100]
    refine range_below hv (a := 2) (b := 3) (i := i) rfl rfl (by have := H.n8; omega) rfl (by simp) (Nat.zero_le _)
      (fun m g => g[0]? = some (.cells [v] false) ∧ g[1]? = some (.cells [I (smW C (bl C i m))] false) ∧ g[2]? = some (.cells [v] false) ∧ g[3]? = some (.cells [I i] false)) ⟨rfl, rfl, rfl, rfl⟩
      (by rintro m g x ⟨h0, h1, h2, h3⟩; exact ⟨at_up h0, at_up h1, at_up h2, at_up h3⟩) (by rintro m g x ⟨h0, h1, h2, h3⟩; exact ⟨at_st h0 (by simp), at_st h1 (by simp), at_st h2 (by simp), at_st h3 (by simp)⟩)
      (fun m g h => h.2.2) (fun m g hm hu h => by rw [bl_no hu]; exact h) ?_ ?_
    · rintro m g hm hu hlen ⟨h0, h1, h2, h3⟩
      simp only [List.length_cons, List.length_nil, Nat.reduceAdd, List.set_cons_succ, List.set_cons_zero] at hlen ⊢
      have hs := smW_bd H (l := bl C i m) (fun j hj => bl_lt (by omega) hj)
      have hb8 : (bl C i m).length ≤ m := by unfold bl; exact Nat.le_trans (List.length_filter_le _ _) (by simp)
      have hw := H.w m hm
      have h8 := H.n8
      have ew := wr64 (n := smW C (bl C i m) + (ndA C m).w) (by omega) (by omega)
      simp (disch := first | assumption | omega | (simp only [az]; done)) only [ru, eq_self, if_true, if_false, BEq.rfl, binI, AO.row?, splice, fillL, mmAll, loadV, storeV, zeros, Am.rowAt, Am.part, addOff, Nat.reduceAdd, Nat.reduceMul, Nat.reduceLeDiff, Nat.reduceSub, Nat.reduceLT, Int.reduceEq, Int.reduceLT, Int.reduceLE, Int.reduceGT, Int.reduceGE, Int.reduceAdd, Int.reduceSub, Int.reduceMul, Int.reduceNeg, Int.reduceToNat, reduceCtorEq, reduceIte, h0, h1, elem_nd hv, lenV_sl hv, view_sl hv, scalar_sl hv, cells_sl hv, pure_sl hv, Int.toNat_natCast, ew]
      rw [bl_yes hu, smW_snoc]
      exact ⟨⟨at_st h0 (by simp), at_se h1, at_st h2 (by simp), at_st h3 (by simp)⟩, by simpa using hlen, at_ne (by simp), at_ne (by simp)⟩
    · rintro g ⟨h0, h1, h2, h3⟩ hlen hd
      simp (disch := first | assumption | omega | (simp only [az]; done)) only [ru, eq_self, if_true, if_false, BEq.rfl, binI, AO.row?, splice, fillL, mmAll, loadV, storeV, zeros, Am.rowAt, Am.part, addOff, Nat.reduceAdd, Nat.reduceMul, Nat.reduceLeDiff, Nat.reduceSub, Nat.reduceLT, Int.reduceEq, Int.reduceLT, Int.reduceLE, Int.reduceGT, Int.reduceGE, Int.reduceAdd, Int.reduceSub, Int.reduceMul, Int.reduceNeg, Int.reduceToNat, reduceCtorEq, reduceIte, h1]
      refine finM (h' := g.set 4 .tomb) (vs := [I (smW C (bl C i C.length))]) (.inr rfl) (by simp) ?_ ?_ rfl
      · simp only [takeMarks]; rw [show g[4]? = some AO.dfr from hd]
      · simp (disch := first | assumption | omega | (simp only [az]; done)) only [ru, eq_self, if_true, if_false, BEq.rfl, binI, AO.row?, splice, fillL, mmAll, loadV, storeV, zeros, Am.rowAt, Am.part, addOff, Nat.reduceAdd, Nat.reduceMul, Nat.reduceLeDiff, Nat.reduceSub, Nat.reduceLT, Int.reduceEq, Int.reduceLT, Int.reduceLE, Int.reduceGT, Int.reduceGE, Int.reduceAdd, Int.reduceSub, Int.reduceMul, Int.reduceNeg, Int.reduceToNat, reduceCtorEq, reduceIte, List.mapM_cons, List.mapM_nil, getRes, Option.bind_eq_bind, Option.pure_def, Option.bind_some]
  obtain ⟨r, g', hr, rfl⟩ := key
  simp only [Iso, hr]
  cases st <;> rfl
end
end Go.Proofs.Ytaeijjfgfenfhaa.S

/-
What a node's pence come to: split.
-/
namespace Go.Proofs.Ytaeijjfgfenfhaa.S
open Go Go.Am Go.Proofs.Ytaeijjfgfenfhaa.T
set_option maxRecDepth 100000
set_option linter.unusedSimpArgs false
set_option linter.unusedVariables false

def ph1 (C : List Nd) (i p : Int) (m : Nat) (j : Nat) : Option Int := if j < m ∧ (ndA C j).up = i then some (fvV C i p j) else none
def ph2 (C : List Nd) (i p : Int) (m : Nat) (j : Nat) : Option Int := if (ndA C j).up = i then some (fvV C i p j + if j < m then pt C (rsR C i p) (rsS C i) j else 0) else none
def ph3 (C : List Nd) (i p : Int) (m : Nat) (j : Nat) : Option Int := if (ndA C j).up = i then some (fvV C i p j + pt C (rsR C i p) (rsS C i) j + if j < m then exV C (rsL C i p) (bl C i j) j else 0) else none
/-- what the nodes below a node get -/
def spF (C : List Nd) (i p : Int) (j : Nat) : Option Int := if (ndA C j).up = i then some (spv C i p j) else none
theorem mn_min {x y : Int} : mn x y = if y < x then y else x := rfl
section
variable {C : List Nd} {v : AV} (hv : IsSl 3 Nd.e C v) (H : CuOk C)
include hv H
set_option maxHeartbeats 8000000 in
theorem r71 {i p : Int} (hp : 0 ≤ p) (hp2 : p ≤ 1000) : ∃ J, R E (.fn 71) [cuV v, I i, I p] [] 0 = some (.tup [.mp 3, I (spk C i p)], J) ∧ J[3]? = some (.mpo KI (mapOf (spF C i p) C.length)) := by
  have key : ∃ r J, R E (.fn 71) [cuV v, I i, I p] [] 0 = some (r, J) ∧ (r = .tup [.mp 3, I (spk C i p)] ∧ J[3]? = some (.mpo KI (mapOf (spF C i p) C.length))) := by
    refine R_of _ (es _ _ _ _) e71 ?_
    simp only [f71]
    simp (disch := first | assumption | omega | (simp only [az]; done)) only [ru, eq_self, if_true, if_false, BEq.rfl, binI, AO.row?, splice, fillL, mmAll, loadV, storeV, zeros, Am.rowAt, Am.part, addOff, Nat.reduceAdd, Nat.reduceMul, Nat.reduceLeDiff, Nat.reduceSub, Nat.reduceLT, Int.reduceEq, Int.reduceLT, Int.reduceLE, Int.reduceGT, Int.reduceGE, Int.reduceAdd, Int.reduceSub, Int.reduceMul, Int.reduceNeg, Int.reduceToNat, reduceCtorEq, reduceIte, lenV_sl hv, view_sl hv, scalar_sl hv, cells_sl hv, pure_sl hv, exOp_call0, r100, rmp]
    refine range_below hv (a := 4) (b := 5) (i := i) rfl rfl (by have := H.n8; omega) rfl (by simp) (Nat.zero_le _)
      (fun m g => g[0]? = some (.cells [v] false) ∧ g[1]? = some (.cells [I (fxR C p (bl C i m))] false) ∧ g[2]? = some (.cells [.mp 3] false) ∧ g[3]? = some (.mpo KI (mapOf (ph1 C i p m) C.length)) ∧ g[4]? = some (.cells [v] false) ∧ g[5]? = some (.cells [I i] false)) ?_
      (by rintro m g x ⟨h0, h1, h2, h3, h4, h5⟩; exact ⟨at_up h0, at_up h1, at_up h2, at_up h3, at_up h4, at_up h5⟩) (by rintro m g x ⟨h0, h1, h2, h3, h4, h5⟩; exact ⟨at_st h0 (by simp), at_st h1 (by simp), at_st h2 (by simp), at_st h3 (by simp), at_st h4 (by simp), at_st h5 (by simp)⟩)
      (by rintro m g ⟨h0, h1, h2, h3, h4, h5⟩; exact ⟨h4, h5⟩) ?_ ?_ ?_
    · refine ⟨rfl, rfl, rfl, ?_, rfl, rfl⟩
      rw [mapOf_none]; · rfl
      intro j hj; simp [ph1]
    · rintro m g hm hu ⟨h0, h1, h2, h3, h4, h5⟩
      refine ⟨h0, by rw [bl_no hu]; exact h1, h2, ?_, h4, h5⟩
      rw [h3, mapOf_congr (g := ph1 C i p (m + 1))]
      intro j hj
      unfold ph1
      by_cases e : j = m
      · subst e; simp [hu]
      · congr 1; simp only [eq_iff_iff]; constructor <;> (rintro ⟨h1, h2⟩; exact ⟨by omega, h2⟩)
    · rintro m g hm hu hlen ⟨h0, h1, h2, h3, h4, h5⟩
      simp only [List.length_cons, List.length_nil, Nat.reduceAdd, List.set_cons_succ, List.set_cons_zero] at hlen ⊢
      have hb := fxR_bd H hp (l := bl C i m) (fun j hj => bl_lt (by omega) hj)
      have hf := H.f m hm
      have h8 := H.n8
      have hset : putM [(m : Int)] (I (fvV C i p m)) (mapOf (ph1 C i p m) C.length) = mapOf (ph1 C i p (m + 1)) C.length := by
        rw [putM_mapOf hm]
        refine mapOf_congr fun j hj => ?_
        unfold updF ph1
        by_cases e : j = m
        · subst e; rw [if_pos rfl, if_pos ⟨by omega, hu⟩]
        · rw [if_neg e]; congr 1; simp only [eq_iff_iff]; constructor <;> (rintro ⟨h1, h2⟩; exact ⟨by omega, h2⟩)
      have hfind : findM [(m : Int)] (mapOf (ph1 C i p (m + 1)) C.length) = some (I (fvV C i p m)) := by
        rw [findM_mapOf hm]; unfold ph1; rw [if_pos ⟨by omega, hu⟩]; rfl
      have hmm : mmx false (ndA C m).f (fxR C p (bl C i m)) = fvV C i p m := by unfold mmx fvV mn; simp
      have hfv : 0 ≤ fvV C i p m ∧ fvV C i p m ≤ fxR C p (bl C i m) := by unfold fvV mn; split <;> omega
      have ew := wr64 (n := fxR C p (bl C i m) - fvV C i p m) (by omega) (by omega)
      simp (disch := first | assumption | omega | (simp only [az]; done)) only [ru, eq_self, if_true, if_false, BEq.rfl, binI, AO.row?, splice, fillL, mmAll, loadV, storeV, zeros, Am.rowAt, Am.part, addOff, Nat.reduceAdd, Nat.reduceMul, Nat.reduceLeDiff, Nat.reduceSub, Nat.reduceLT, Int.reduceEq, Int.reduceLT, Int.reduceLE, Int.reduceGT, Int.reduceGE, Int.reduceAdd, Int.reduceSub, Int.reduceMul, Int.reduceNeg, Int.reduceToNat, reduceCtorEq, reduceIte, h0, h1, h2, elem_nd hv, lenV_sl hv, view_sl hv, scalar_sl hv, cells_sl hv, pure_sl hv, Int.toNat_natCast, rmp, hmm, mapSet_at h3 (x := I (fvV C i p m)) rfl (Nat.zero_le _), hset, at_ne, mapGet_at (at_se h3), hfind, Option.getD_some, ew]
      refine ⟨⟨?_, at_se h3, h4, h5⟩, by simpa using hlen⟩
      rw [at_se (at_st h1 (by simp)), bl_yes hu, fxR_snoc]; rfl
    · rintro g ⟨h0, h1, h2, h3, h4, h5⟩ hlen hd
      simp only [List.length_cons, List.length_nil, Nat.reduceAdd] at hlen hd ⊢
      have hl : ∀ j ∈ bl C i C.length, j < C.length := fun j hj => bl_lt (Nat.le_refl _) hj
      have hR := fxR_bd H hp hl
      have hSb := smW_bd H hl
      have hb8 : (bl C i C.length).length ≤ C.length := by unfold bl; exact Nat.le_trans (List.length_filter_le _ _) (by simp)
      have h8 := H.n8
      have eR : fxR C p (bl C i C.length) = rsR C i p := rfl
      have eS : smW C (bl C i C.length) = rsS C i := rfl
      rw [eR] at h1 hR
      rw [eS] at hSb
      have u0 : ∀ m, (g ++ m)[0]? = some (.cells [v] false) := fun m => at_up h0
      have u1 : ∀ m, (g ++ m)[1]? = some (.cells [I (rsR C i p)] false) := fun m => at_up h1
      have u2 : ∀ m, (g ++ m)[2]? = some (.cells [.mp 3] false) := fun m => at_up h2
      have u3 : ∀ m, (g ++ m)[3]? = some (.mpo KI (mapOf (ph1 C i p C.length) C.length)) := fun m => at_up h3
      have u6 : ∀ m, (g ++ m)[6]? = some .dfr := fun m => at_up hd
      by_cases hS : rsS C i = 0
      · simp (disch := first | assumption | omega | (simp only [az]; done)) only [ru, eq_self, if_true, if_false, BEq.rfl, binI, AO.row?, splice, fillL, mmAll, loadV, storeV, zeros, Am.rowAt, Am.part, addOff, Nat.reduceAdd, Nat.reduceMul, Nat.reduceLeDiff, Nat.reduceSub, Nat.reduceLT, Int.reduceEq, Int.reduceLT, Int.reduceLE, Int.reduceGT, Int.reduceGE, Int.reduceAdd, Int.reduceSub, Int.reduceMul, Int.reduceNeg, Int.reduceToNat, reduceCtorEq, reduceIte, h0, h1, h2, lenV_sl hv, view_sl hv, scalar_sl hv, cells_sl hv, pure_sl hv, t101 hv H, hS, decide_true, u0, u1, u2, u3, lenE, setT0, atT0, exOp_loadR, exOp_storeR, objIs, objNot, List.all_cons, List.all_nil, Bool.and_true, rmp, show (1 != 2) = true from rfl]
        have e6 : ((g ++ [AO.cells [AV.int IntKind.i64 0] false]).set 2 (AO.cells [AV.mp 3] false))[6]? = some .dfr := at_st (u6 _) (by simp)
        refine finM (h' := ((g ++ [AO.cells [AV.int IntKind.i64 0] false]).set 2 (AO.cells [AV.mp 3] false)).set 6 .tomb) (vs := [.mp 3, I (rsR C i p)]) (.inr rfl) (by simp) ?_ ?_ ?_
        · simp only [takeMarks, e6]
        · have e2 : (((g ++ [AO.cells [AV.int IntKind.i64 0] false]).set 2 (AO.cells [AV.mp 3] false)).set 6 AO.tomb)[2]? = some (.cells [.mp 3] false) := at_st (at_se (u2 _)) (by simp)
          simp (disch := first | assumption | omega | (simp only [az]; done)) only [ru, eq_self, if_true, if_false, BEq.rfl, binI, AO.row?, splice, fillL, mmAll, loadV, storeV, zeros, Am.rowAt, Am.part, addOff, Nat.reduceAdd, Nat.reduceMul, Nat.reduceLeDiff, Nat.reduceSub, Nat.reduceLT, Int.reduceEq, Int.reduceLT, Int.reduceLE, Int.reduceGT, Int.reduceGE, Int.reduceAdd, Int.reduceSub, Int.reduceMul, Int.reduceNeg, Int.reduceToNat, reduceCtorEq, reduceIte, List.mapM_cons, List.mapM_nil, getRes, Option.bind_eq_bind, Option.pure_def, Option.bind_some, e2]
        · refine ⟨by rw [show spk C i p = rsR C i p by unfold spk; rw [if_pos hS]], ?_⟩
          rw [at_st (at_st (u3 _) (by simp)) (by simp), mapOf_congr (g := spF C i p)]
          intro j hj
          unfold ph1 spF spv
          by_cases e : (ndA C j).up = i
          · rw [if_pos ⟨hj, e⟩, if_pos e, if_pos hS]
          · rw [if_neg (fun c => e c.2), if_neg e]
      · have z1 : (0 : Nat) ≤ g.length := Nat.zero_le _
        simp (disch := first | assumption | omega | (simp only [az]; done)) only [ru, eq_self, if_true, if_false, BEq.rfl, binI, AO.row?, splice, fillL, mmAll, loadV, storeV, zeros, Am.rowAt, Am.part, addOff, Nat.reduceAdd, Nat.reduceMul, Nat.reduceLeDiff, Nat.reduceSub, Nat.reduceLT, Int.reduceEq, Int.reduceLT, Int.reduceLE, Int.reduceGT, Int.reduceGE, Int.reduceAdd, Int.reduceSub, Int.reduceMul, Int.reduceNeg, Int.reduceToNat, reduceCtorEq, reduceIte, h0, h1, h2, lenV_sl hv, view_sl hv, scalar_sl hv, cells_sl hv, pure_sl hv, t101 hv H, hS, decide_false, u0, u1, u2, u3, lenE, setT0, atT0, setT, atT, List.append_assoc, List.cons_append, List.nil_append, exOp_call0, r100]
        obtain ⟨q, hq⟩ : ∃ q, q = g.length := ⟨_, rfl⟩
        rw [← hq] at hlen
        have hS1 : 0 < rsS C i := by omega
        have hpt : ∀ j, j < C.length → 0 ≤ pt C (rsR C i p) (rsS C i) j ∧ pt C (rsR C i p) (rsS C i) j ≤ 9000 := by
          intro j hj
          obtain ⟨b1, b2, b3⟩ := pt_bd H (R := rsR C i p) hR.1 hS1 hj
          have hw := H.w j hj
          refine ⟨b1, ?_⟩
          have e1 : rsR C i p * (ndA C j).w ≤ 1000 * 9 := Int.mul_le_mul (by omega) (by omega) (by omega) (by omega)
          have e2 : 1 * pt C (rsR C i p) (rsS C i) j ≤ rsS C i * pt C (rsR C i p) (rsS C i) j := Int.mul_le_mul_of_nonneg_right (by omega) b1
          omega
        have hlb : ∀ m, m ≤ C.length → lfR C (rsR C i p) (rsS C i) (bl C i m) ≤ rsR C i p ∧ rsR C i p - 9000 * m ≤ lfR C (rsR C i p) (rsS C i) (bl C i m) := by
          intro m
          induction m with
          | zero => intro _; show rsR C i p ≤ rsR C i p ∧ rsR C i p - 9000 * ((0 : Nat) : Int) ≤ rsR C i p; omega
          | succ m ih =>
            intro hm
            have := ih (by omega)
            have hp9 := hpt m (by omega)
            by_cases h : (ndA C m).up = i
            · rw [bl_yes h, lfR_snoc]; omega
            · rw [bl_no h]; omega
        refine range_below hv (a := q + 2) (b := q + 3) (i := i) rfl rfl (by omega) (by rw [hq]; rfl) (by simp) (Nat.zero_le _)
          (fun m g => (g[0]? = some (.cells [v] false) ∧ g[1]? = some (.cells [I (rsR C i p)] false) ∧ g[2]? = some (.cells [.mp 3] false)) ∧ g[3]? = some (.mpo KI (mapOf (ph2 C i p m) C.length)) ∧ g[6]? = some .dfr ∧ g[q]? = some (.cells [I (rsS C i)] false) ∧ g[q + 1]? = some (.cells [I (lfR C (rsR C i p) (rsS C i) (bl C i m))] false) ∧ g[q + 2]? = some (.cells [v] false) ∧ g[q + 3]? = some (.cells [I i] false)) ?_
          (by rintro m g x ⟨⟨h0, h1, h2⟩, h3, h6, s0, s1, s2, s3⟩; exact ⟨⟨at_up h0, at_up h1, at_up h2⟩, at_up h3, at_up h6, at_up s0, at_up s1, at_up s2, at_up s3⟩)
          (by rintro m g x ⟨⟨h0, h1, h2⟩, h3, h6, s0, s1, s2, s3⟩; simp only [List.length_append, List.length_cons, List.length_nil, ← hq]; exact ⟨⟨at_st h0 (by omega), at_st h1 (by omega), at_st h2 (by omega)⟩, at_st h3 (by omega), at_st h6 (by omega), at_st s0 (by omega), at_st s1 (by omega), at_st s2 (by omega), at_st s3 (by omega)⟩)
          (by rintro m g ⟨_, _, _, _, _, s2, s3⟩; exact ⟨s2, s3⟩) ?_ ?_ ?_
        · refine ⟨⟨u0 _, u1 _, u2 _⟩, ?_, u6 _, by simp [hq], by simp [hq, bl_zero, lfR], by simp [hq], by simp [hq]⟩
          rw [u3, mapOf_congr (g := ph2 C i p 0)]
          intro j hj
          simp only [ph1, ph2, hj, true_and, Nat.not_lt_zero, if_false, Int.add_zero]
        · rintro m g hm hu ⟨⟨h0, h1, h2⟩, h3, h6, s0, s1, s2, s3⟩
          refine ⟨⟨h0, h1, h2⟩, ?_, h6, s0, by rw [bl_no hu]; exact s1, s2, s3⟩
          rw [h3, mapOf_congr (g := ph2 C i p (m + 1))]
          intro j hj
          unfold ph2
          by_cases e : j = m
          · subst e; simp [hu]
          · have : (j < m) = (j < m + 1) := by simp only [eq_iff_iff]; omega
            simp only [this]
        · rintro m g hm hu hlen2 ⟨⟨h0, h1, h2⟩, h3, h6, s0, s1, s2, s3⟩
          simp only [List.length_append, List.length_cons, List.length_nil, Nat.reduceAdd, List.set_cons_succ, List.set_cons_zero, ← hq] at hlen2 ⊢
          obtain ⟨w0, w9⟩ := H.w m hm
          have m0 := Int.mul_nonneg hR.1 w0
          have m9 : rsR C i p * (ndA C m).w ≤ 1000 * 9 := Int.mul_le_mul (by omega) (by omega) (by omega) (by omega)
          have em := wr64 (n := rsR C i p * (ndA C m).w) (by omega) (by omega)
          obtain ⟨p0, p9⟩ := hpt m hm
          have ep : (rsR C i p * (ndA C m).w).tdiv (rsS C i) = pt C (rsR C i p) (rsS C i) m := rfl
          have ewp := wr64 (n := pt C (rsR C i p) (rsS C i) m) (by omega) (by omega)
          have hfb : 0 ≤ fvV C i p m ∧ fvV C i p m ≤ 20 := by
            have hb := fxR_bd H hp (l := bl C i m) (fun j hj => bl_lt (by omega) hj)
            have hf := H.f m hm
            unfold fvV mn; split <;> omega
          have ea := wr64 (n := fvV C i p m + pt C (rsR C i p) (rsS C i) m) (by omega) (by omega)
          have hlbm := hlb m (by omega)
          have el := wr64 (n := lfR C (rsR C i p) (rsS C i) (bl C i m) - pt C (rsR C i p) (rsS C i) m) (by omega) (by omega)
          have hf2 : findM [(m : Int)] (mapOf (ph2 C i p m) C.length) = some (I (fvV C i p m)) := by
            rw [findM_mapOf hm]; unfold ph2; rw [if_pos hu]; simp
          have hs2 : putM [(m : Int)] (I (fvV C i p m + pt C (rsR C i p) (rsS C i) m)) (mapOf (ph2 C i p m) C.length) = mapOf (ph2 C i p (m + 1)) C.length := by
            rw [putM_mapOf hm]
            refine mapOf_congr fun j hj => ?_
            unfold updF ph2
            by_cases e : j = m
            · subst e; rw [if_pos rfl, if_pos hu, if_pos (by omega)]
            · rw [if_neg e]
              have : (j < m) = (j < m + 1) := by simp only [eq_iff_iff]; omega
              simp only [this]
          simp (disch := first | assumption | omega | (simp only [az]; done)) only [ru, eq_self, if_true, if_false, BEq.rfl, binI, AO.row?, splice, fillL, mmAll, loadV, storeV, zeros, Am.rowAt, Am.part, addOff, Nat.reduceAdd, Nat.reduceMul, Nat.reduceLeDiff, Nat.reduceSub, Nat.reduceLT, Int.reduceEq, Int.reduceLT, Int.reduceLE, Int.reduceGT, Int.reduceGE, Int.reduceAdd, Int.reduceSub, Int.reduceMul, Int.reduceNeg, Int.reduceToNat, reduceCtorEq, reduceIte, h0, h1, h2, s0, s1, elem_nd hv, lenV_sl hv, view_sl hv, scalar_sl hv, cells_sl hv, pure_sl hv, Int.toNat_natCast, rmp, em, hS, ep, ewp, mapGet_at h3, hf2, Option.getD_some, ea, mapSet_at h3 (x := I (fvV C i p m + pt C (rsR C i p) (rsS C i) m)) rfl (Nat.zero_le _), hs2, at_ne, el]
          refine ⟨⟨at_se h3, h6, ?_, s2, s3⟩, by simpa using hlen2⟩
          rw [at_se (at_st s1 (by omega)), bl_yes hu, lfR_snoc]
        · rintro g ⟨⟨h0, h1, h2⟩, h3, h6, s0, s1, s2, s3⟩ hlen2 hd2
          simp only [List.length_append, List.length_cons, List.length_nil, Nat.reduceAdd, ← hq] at hlen2 hd2 ⊢
          simp (disch := first | assumption | omega | (simp only [az]; done)) only [ru, eq_self, if_true, if_false, BEq.rfl, binI, AO.row?, splice, fillL, mmAll, loadV, storeV, zeros, Am.rowAt, Am.part, addOff, Nat.reduceAdd, Nat.reduceMul, Nat.reduceLeDiff, Nat.reduceSub, Nat.reduceLT, Int.reduceEq, Int.reduceLT, Int.reduceLE, Int.reduceGT, Int.reduceGE, Int.reduceAdd, Int.reduceSub, Int.reduceMul, Int.reduceNeg, Int.reduceToNat, reduceCtorEq, reduceIte, h0, h1, h2, lenV_sl hv, view_sl hv, scalar_sl hv, cells_sl hv, pure_sl hv, lenE, setT0, atT0, setT, atT, List.append_assoc, List.cons_append, List.nil_append, exOp_call0, r100]
          obtain ⟨r, hr⟩ : ∃ r, r = g.length := ⟨_, rfl⟩
          rw [← hr] at hlen2
          obtain ⟨l0, l1, _⟩ := rsL_bd H (i := i) hp hS
          have eL : lfR C (rsR C i p) (rsS C i) (bl C i C.length) = rsL C i p := rfl
          rw [eL] at s1
          refine range_below hv (a := r) (b := r + 1) (i := i) rfl rfl (by omega) (by rw [hr]; rfl) (by simp) (Nat.zero_le _)
            (fun m g => (g[0]? = some (.cells [v] false) ∧ g[2]? = some (.cells [.mp 3] false)) ∧ g[3]? = some (.mpo KI (mapOf (ph3 C i p m) C.length)) ∧ g[6]? = some .dfr ∧ g[q + 4]? = some .dfr ∧ g[q + 1]? = some (.cells [I (exR C (rsL C i p) (bl C i m))] false) ∧ g[r]? = some (.cells [v] false) ∧ g[r + 1]? = some (.cells [I i] false)) ?_
            (by rintro m g x ⟨⟨h0, h2⟩, h3, h6, s0, s1, s2, s3⟩; exact ⟨⟨at_up h0, at_up h2⟩, at_up h3, at_up h6, at_up s0, at_up s1, at_up s2, at_up s3⟩)
            (by rintro m g x ⟨⟨h0, h2⟩, h3, h6, s0, s1, s2, s3⟩; simp only [List.length_append, List.length_cons, List.length_nil, ← hr]; exact ⟨⟨at_st h0 (by omega), at_st h2 (by omega)⟩, at_st h3 (by omega), at_st h6 (by omega), at_st s0 (by omega), at_st s1 (by omega), at_st s2 (by omega), at_st s3 (by omega)⟩)
            (by rintro m g ⟨_, _, _, _, _, s2, s3⟩; exact ⟨s2, s3⟩) ?_ ?_ ?_
          · refine ⟨⟨at_up h0, at_up h2⟩, ?_, at_up h6, at_up hd2, at_up s1, by simp [hr], by simp [hr]⟩
            rw [at_up h3, mapOf_congr (g := ph3 C i p 0)]
            intro j hj
            simp only [ph2, ph3, hj, if_true, Nat.not_lt_zero, if_false, Int.add_zero]
          · rintro m g hm hu ⟨⟨h0, h2⟩, h3, h6, s0, s1, s2, s3⟩
            refine ⟨⟨h0, h2⟩, ?_, h6, s0, by rw [bl_no hu]; exact s1, s2, s3⟩
            rw [h3, mapOf_congr (g := ph3 C i p (m + 1))]
            intro j hj
            unfold ph3
            by_cases e : j = m
            · subst e; simp [hu]
            · have : (j < m) = (j < m + 1) := by simp only [eq_iff_iff]; omega
              simp only [this]
          · rintro m g hm hu hlen3 ⟨⟨h0, h2⟩, h3, h6, s0, s1, s2, s3⟩
            simp only [List.length_append, List.length_cons, List.length_nil, Nat.reduceAdd, List.set_cons_succ, List.set_cons_zero, ← hr] at hlen3 ⊢
            obtain ⟨p0, p9⟩ := hpt m hm
            have hfb : 0 ≤ fvV C i p m ∧ fvV C i p m ≤ 20 := by
              have hb := fxR_bd H hp (l := bl C i m) (fun j hj => bl_lt (by omega) hj)
              have hf := H.f m hm
              unfold fvV mn; split <;> omega
            have xb := exR_bd (C := C) l0 (l := bl C i m)
            have hf3 : findM [(m : Int)] (mapOf (ph3 C i p m) C.length) = some (I (fvV C i p m + pt C (rsR C i p) (rsS C i) m)) := by
              rw [findM_mapOf hm]; unfold ph3; rw [if_pos hu]; simp
            by_cases c : 0 < (ndA C m).w ∧ 0 < exR C (rsL C i p) (bl C i m)
            · obtain ⟨c1, c2⟩ := c
              have c1' : (ndA C m).w > 0 := c1
              have c2' : exR C (rsL C i p) (bl C i m) > 0 := c2
              have ea := wr64 (n := fvV C i p m + pt C (rsR C i p) (rsS C i) m + 1) (by omega) (by omega)
              have el := wr64 (n := exR C (rsL C i p) (bl C i m) - 1) (by omega) (by omega)
              have hs3 : putM [(m : Int)] (I (fvV C i p m + pt C (rsR C i p) (rsS C i) m + 1)) (mapOf (ph3 C i p m) C.length) = mapOf (ph3 C i p (m + 1)) C.length := by
                rw [putM_mapOf hm]
                refine mapOf_congr fun j hj => ?_
                unfold updF ph3
                by_cases e : j = m
                · subst e; rw [if_pos rfl, if_pos hu, if_pos (by omega)]; unfold exV; rw [if_pos ⟨c1, c2⟩]
                · rw [if_neg e]
                  have : (j < m) = (j < m + 1) := by simp only [eq_iff_iff]; omega
                  simp only [this]
              simp (disch := first | assumption | omega | (simp only [az]; done)) only [ru, eq_self, if_true, if_false, BEq.rfl, binI, AO.row?, splice, fillL, mmAll, loadV, storeV, zeros, Am.rowAt, Am.part, addOff, Nat.reduceAdd, Nat.reduceMul, Nat.reduceLeDiff, Nat.reduceSub, Nat.reduceLT, Int.reduceEq, Int.reduceLT, Int.reduceLE, Int.reduceGT, Int.reduceGE, Int.reduceAdd, Int.reduceSub, Int.reduceMul, Int.reduceNeg, Int.reduceToNat, reduceCtorEq, reduceIte, h0, h2, s1, elem_nd hv, lenV_sl hv, view_sl hv, scalar_sl hv, cells_sl hv, pure_sl hv, Int.toNat_natCast, rmp, c1', c2', decide_true, mapGet_at h3, hf3, Option.getD_some, ea, mapSet_at h3 (x := I (fvV C i p m + pt C (rsR C i p) (rsS C i) m + 1)) rfl (Nat.zero_le _), hs3, at_ne, el]
              refine ⟨⟨at_se h3, h6, s0, ?_, s2, s3⟩, by simpa using hlen3⟩
              rw [at_se (at_st s1 (by omega)), bl_yes hu, exR_snoc, if_pos ⟨c1, c2⟩]
            · have same : mapOf (ph3 C i p m) C.length = mapOf (ph3 C i p (m + 1)) C.length := by
                refine mapOf_congr fun j hj => ?_
                unfold ph3
                by_cases e : j = m
                · subst e; rw [if_pos hu, if_pos hu, if_neg (by omega), if_pos (by omega)]; unfold exV; rw [if_neg c]
                · have : (j < m) = (j < m + 1) := by simp only [eq_iff_iff]; omega
                  simp only [this]
              have fin : ((g[0]? = some (.cells [v] false) ∧ g[2]? = some (.cells [.mp 3] false)) ∧ g[3]? = some (.mpo KI (mapOf (ph3 C i p (m + 1)) C.length)) ∧ g[6]? = some .dfr ∧ g[q + 4]? = some .dfr ∧ g[q + 1]? = some (.cells [I (exR C (rsL C i p) (bl C i (m + 1)))] false) ∧ g[r]? = some (.cells [v] false) ∧ g[r + 1]? = some (.cells [I i] false)) := by
                refine ⟨⟨h0, h2⟩, by rw [← same]; exact h3, h6, s0, ?_, s2, s3⟩
                rw [bl_yes hu, exR_snoc, if_neg c]; exact s1
              by_cases c1 : (ndA C m).w > 0
              · have c2 : ¬ exR C (rsL C i p) (bl C i m) > 0 := fun h => c ⟨c1, h⟩
                simp (disch := first | assumption | omega | (simp only [az]; done)) only [ru, eq_self, if_true, if_false, BEq.rfl, binI, AO.row?, splice, fillL, mmAll, loadV, storeV, zeros, Am.rowAt, Am.part, addOff, Nat.reduceAdd, Nat.reduceMul, Nat.reduceLeDiff, Nat.reduceSub, Nat.reduceLT, Int.reduceEq, Int.reduceLT, Int.reduceLE, Int.reduceGT, Int.reduceGE, Int.reduceAdd, Int.reduceSub, Int.reduceMul, Int.reduceNeg, Int.reduceToNat, reduceCtorEq, reduceIte, h0, h2, s1, elem_nd hv, lenV_sl hv, view_sl hv, scalar_sl hv, cells_sl hv, pure_sl hv, Int.toNat_natCast, rmp, c1, c2, decide_true, decide_false]
                refine ⟨⟨fin.2.1, h6, s0, ?_, s2, s3⟩, hlen3⟩
                first | exact fin.2.2.2.2.1 | rw [bl_yes hu, exR_snoc, if_neg c]
              · simp (disch := first | assumption | omega | (simp only [az]; done)) only [ru, eq_self, if_true, if_false, BEq.rfl, binI, AO.row?, splice, fillL, mmAll, loadV, storeV, zeros, Am.rowAt, Am.part, addOff, Nat.reduceAdd, Nat.reduceMul, Nat.reduceLeDiff, Nat.reduceSub, Nat.reduceLT, Int.reduceEq, Int.reduceLT, Int.reduceLE, Int.reduceGT, Int.reduceGE, Int.reduceAdd, Int.reduceSub, Int.reduceMul, Int.reduceNeg, Int.reduceToNat, reduceCtorEq, reduceIte, h0, h2, elem_nd hv, lenV_sl hv, view_sl hv, scalar_sl hv, cells_sl hv, pure_sl hv, Int.toNat_natCast, rmp, c1, decide_true, decide_false]
                refine ⟨⟨fin.2.1, h6, s0, ?_, s2, s3⟩, hlen3⟩
                first | exact fin.2.2.2.2.1 | rw [bl_yes hu, exR_snoc, if_neg c]
          · rintro g ⟨⟨h0, h2⟩, h3, h6, s0, s1, s2, s3⟩ hlen3 hd3
            simp only [List.length_append, List.length_cons, List.length_nil, Nat.reduceAdd, ← hr] at hlen3 hd3 ⊢
            simp (disch := first | assumption | omega | (simp only [az]; done)) only [ru, eq_self, if_true, if_false, BEq.rfl, binI, AO.row?, splice, fillL, mmAll, loadV, storeV, zeros, Am.rowAt, Am.part, addOff, Nat.reduceAdd, Nat.reduceMul, Nat.reduceLeDiff, Nat.reduceSub, Nat.reduceLT, Int.reduceEq, Int.reduceLT, Int.reduceLE, Int.reduceGT, Int.reduceGE, Int.reduceAdd, Int.reduceSub, Int.reduceMul, Int.reduceNeg, Int.reduceToNat, reduceCtorEq, reduceIte, h0, h2, rmp]
            have n2 : q + 4 ≠ r + 2 := by omega
            refine finM (h' := (((g.set 2 (AO.cells [AV.mp 3] false)).set (r + 2) .tomb).set (q + 4) .tomb).set 6 .tomb) (vs := [.mp 3, I 0]) (.inr rfl) (by simp) ?_ ?_ ?_
            · have e1 : (g.set 2 (AO.cells [AV.mp 3] false))[r + 2]? = some .dfr := at_st hd3 (by omega)
              have e2 : ((g.set 2 (AO.cells [AV.mp 3] false)).set (r + 2) AO.tomb)[q + 4]? = some .dfr := at_st (at_st s0 (by omega)) (by omega)
              have e3 : (((g.set 2 (AO.cells [AV.mp 3] false)).set (r + 2) AO.tomb).set (q + 4) AO.tomb)[6]? = some .dfr := at_st (at_st (at_st h6 (by omega)) (by omega)) (by omega)
              simp only [takeMarks, e1, e2, e3]
            · have e2 : ((((g.set 2 (AO.cells [AV.mp 3] false)).set (r + 2) .tomb).set (q + 4) .tomb).set 6 AO.tomb)[2]? = some (.cells [.mp 3] false) := at_st (at_st (at_st (at_se h2) (by omega)) (by omega)) (by omega)
              simp (disch := first | assumption | omega | (simp only [az]; done)) only [ru, eq_self, if_true, if_false, BEq.rfl, binI, AO.row?, splice, fillL, mmAll, loadV, storeV, zeros, Am.rowAt, Am.part, addOff, Nat.reduceAdd, Nat.reduceMul, Nat.reduceLeDiff, Nat.reduceSub, Nat.reduceLT, Int.reduceEq, Int.reduceLT, Int.reduceLE, Int.reduceGT, Int.reduceGE, Int.reduceAdd, Int.reduceSub, Int.reduceMul, Int.reduceNeg, Int.reduceToNat, reduceCtorEq, reduceIte, List.mapM_cons, List.mapM_nil, getRes, Option.bind_eq_bind, Option.pure_def, Option.bind_some, e2]
            · refine ⟨by rw [show spk C i p = 0 by unfold spk; rw [if_neg hS]], ?_⟩
              rw [at_st (at_st (at_st (at_st h3 (by omega)) (by omega)) (by omega)) (by omega), mapOf_congr (g := spF C i p)]
              intro j hj
              unfold ph3 spF spv
              rw [if_neg hS, if_pos hj]
  obtain ⟨r, J, hr, rfl, hj⟩ := key
  exact ⟨J, hr, hj⟩
end
end Go.Proofs.Ytaeijjfgfenfhaa.S

/-
What all nodes get and keep: divide; a map's values as a list.
-/
namespace Go.Proofs.Ytaeijjfgfenfhaa.S
open Go Go.Am Go.Proofs.Ytaeijjfgfenfhaa.T
set_option maxRecDepth 100000
set_option linter.unusedSimpArgs false
set_option linter.unusedVariables false

theorem r97 {h : List AO} {lim p q : Nat} {es es' : List (List Int × AV)} (hp : h[p]? = some (.mpo KI es)) (hq : h[q]? = some (.mpo KI es')) (hpq : p ≠ q) (hlim : lim ≤ p) (hl : litM es = true) (hl' : litM es' = true) : R E (.fn 97) [.mp p, .mp q] h lim = some (.tup [], h.set p (.mpo KI (mergeM es es'))) := by
  refine R_spec ?_
  show mspec 97 98 114 97 [.mp p, .mp q] h lim = _
  unfold mspec copyS
  simp only [if_true, hp, hq]
  rw [if_pos ⟨hpq, hlim, hl, hl'⟩]
theorem r98 {h : List AO} {lim o p : Nat} {es : List (List Int × AV)} (ho : h[o]? = some (.cells [.mp p] false)) (hp : h[p]? = some (.mpo KI es)) (hl : litM es = true) : R E (.fn 98) [.fn 114 [] [.ptr o 0]] h lim = some (if es = [] then .nils else .ms 1 h.length 0 es.length, if es = [] then h else h ++ [.cells (es.map fun x => .int .i64 (dk x)) false]) := by
  refine R_spec ?_
  show mspec 97 98 114 98 [.fn 114 [] [.ptr o 0]] h lim = _
  unfold mspec sortS
  rw [if_neg (by omega), if_pos rfl]
  simp only [if_true, Am.rowAt, ho, Option.bind_some, AO.row?, hp, hl]
  split <;> rfl
theorem r99 (p : Nat) (h : List AO) (lim : Nat) : R E (.fn 99) [.mp p] h lim = some (.fn 114 [] [.ptr h.length 0], h ++ [.cells [.mp p] false]) := by
  have hr : ∃ r J, R E (.fn 99) [.mp p] h lim = some (r, J) ∧ (r = .fn 114 [] [.ptr h.length 0] ∧ J = h ++ [.cells [.mp p] false]) := by
    refine R_of (fun r J => r = .fn 114 [] [.ptr h.length 0] ∧ J = h ++ [.cells [.mp p] false]) (es _ _ _ _) e99 ?_
    simp only [f99]
    simp (disch := first | assumption | omega | (simp only [az]; done)) only [ru, eq_self, if_true, if_false, BEq.rfl, binI, AO.row?, splice, fillL, mmAll, loadV, storeV, zeros, Am.rowAt, Am.part, addOff, Nat.reduceAdd, Nat.reduceMul, Nat.reduceLeDiff, Nat.reduceSub, Nat.reduceLT, Int.reduceEq, Int.reduceLT, Int.reduceLE, Int.reduceGT, Int.reduceGE, Int.reduceAdd, Int.reduceSub, Int.reduceMul, Int.reduceNeg, Int.reduceToNat, reduceCtorEq, reduceIte, rmp]
  obtain ⟨_, _, hr, rfl, rfl⟩ := hr
  exact hr
def gMf (C : List Nd) (p : Int) (m : Nat) (j : Nat) : Option Int := if (ndA C j).up < (m : Int) then some (gG C p j) else none
def kMf (C : List Nd) (p : Int) (m : Nat) (j : Nat) : Option Int := if j < m then some (kK C p j) else none
section
variable {C : List Nd} {v : AV} (hv : IsSl 3 Nd.e C v) (H : CuOk C)
include hv H
theorem C71 {m : Nat} {g : Int} (hg : 0 ≤ g) (hg2 : g ≤ 1000) (h : List AO) : ∃ J, C2 E 71 [cuV v, I m, I g] h = some (.tup [.mp (3 + h.length), I (spk C m g)], h ++ J) ∧ (h ++ J)[3 + h.length]? = some (.mpo KI (mapOf (spF C m g) C.length)) := by
  obtain ⟨J, hr, hj⟩ := r71 hv H (i := m) hg hg2
  have hpu : AV.pureV.go [cuV v, I m, I g] = true := by
    have := pure_sl hv
    simp only [AV.pureV.go, AV.pureV, this, Bool.and_true]
  refine ⟨_, C2_of hpu hr, ?_⟩
  rw [Nat.add_comm, List.getElem?_append_right (by omega), Nat.add_sub_cancel_left, List.getElem?_map, hj]; rfl
omit hv in
theorem lit_g {p : Int} (hp : 0 ≤ p) (hp2 : p ≤ 1000) {m : Nat} : litM (mapOf (gMf C p m) C.length) = true := by
  refine lit_mapOf (by have := H.n8; omega) fun j w hj hw => ?_
  unfold gMf at hw
  split at hw
  · cases hw; have := gG_bd H hp j hj; omega
  · cases hw
omit hv in
theorem lit_s {q : Int} (hq : 0 ≤ q) (hq2 : q ≤ 1000) {i : Int} : litM (mapOf (spF C i q) C.length) = true := by
  refine lit_mapOf (by have := H.n8; omega) fun j w hj hw => ?_
  unfold spF at hw
  split at hw
  · rename_i hu
    cases hw
    have h1 := spv_nn H hq hj hu
    have h2 := spv_le H hq hj hu
    omega
  · cases hw
set_option maxHeartbeats 8000000 in
theorem r65 {p : Int} (hp : 0 ≤ p) (hp2 : p ≤ 1000) : ∃ J, R E (.fn 65) [cuV v, I p] [] 0 = some (.tup [.mp 1, .mp 2], J) ∧ J[1]? = some (.mpo KI (mapOf (fun j => some (gG C p j)) C.length)) ∧ J[2]? = some (.mpo KI (mapOf (fun j => some (kK C p j)) C.length)) := by
  have key : ∃ r J, R E (.fn 65) [cuV v, I p] [] 0 = some (r, J) ∧ (r = .tup [.mp 1, .mp 2] ∧ J[1]? = some (.mpo KI (mapOf (fun j => some (gG C p j)) C.length)) ∧ J[2]? = some (.mpo KI (mapOf (fun j => some (kK C p j)) C.length))) := by
    refine R_of _ (es _ _ _ _) e65 ?_
    simp only [f65]
    have m0 : ∀ (x : List AO), mapSetV 0 (AO.cells [v] false :: AO.mpo KI [] :: x) KI (.mp 1) (I 0) (I p) [] = some (.undef, AO.cells [v] false :: AO.mpo KI (putM [0] (I p) []) :: x) := fun x => mapSet_at (lim := 0) (o := 1) rfl (x := I p) rfl (Nat.zero_le _)
    simp (disch := first | assumption | omega | (simp only [az]; done)) only [ru, eq_self, if_true, if_false, BEq.rfl, binI, AO.row?, splice, fillL, mmAll, loadV, storeV, zeros, Am.rowAt, Am.part, addOff, Nat.reduceAdd, Nat.reduceMul, Nat.reduceLeDiff, Nat.reduceSub, Nat.reduceLT, Int.reduceEq, Int.reduceLT, Int.reduceLE, Int.reduceGT, Int.reduceGE, Int.reduceAdd, Int.reduceSub, Int.reduceMul, Int.reduceNeg, Int.reduceToNat, reduceCtorEq, reduceIte, lenV_sl hv, view_sl hv, scalar_sl hv, cells_sl hv, pure_sl hv, rmp, m0]
    have n1 := H.n1
    have n8 := H.n8
    refine G_loop_ind (fun y ts hk mk => ∃ m : Nat, m ≤ C.length ∧ C.length - m = y ∧ hk[0]? = some (.cells [v] false) ∧ hk[1]? = some (.mpo KI (mapOf (gMf C p m) C.length)) ∧ hk[2]? = some (.mpo KI (mapOf (kMf C p m) C.length)) ∧ ts.length = 38 ∧ ts.getD 0 .undef = cuV v ∧ ts.getD 1 .undef = I p ∧ ts.getD 2 .undef = .ptr 0 0 ∧ ts.getD 4 .undef = .mp 1 ∧ ts.getD 5 .undef = .mp 2 ∧ ts.getD 16 .undef = I C.length ∧ ts.getD 17 .undef = I m ∧ mk = []) ?_ C.length _ _ _ ⟨0, Nat.zero_le _, Nat.sub_zero _, rfl, ?_, ?_, rfl, rfl, rfl, rfl, rfl, rfl, rfl, rfl, rfl⟩
    · rintro y ts hk mk ih ⟨m, hm, rfl, h0, h1, h2, hl', q0, q1, q2, q4, q5, q16, q17, rfl⟩
      rw [lit_all hl']
      simp only [lit0, litS, Nat.reduceAdd, q0, q1, q2, q4, q5, q16, q17]
      by_cases e : m = C.length
      · subst e
        have c1 : ¬ ((C.length : Nat) : Int) < C.length := by omega
        simp (disch := first | assumption | omega | (simp only [az]; done)) only [ru, eq_self, if_true, if_false, BEq.rfl, binI, AO.row?, splice, fillL, mmAll, loadV, storeV, zeros, Am.rowAt, Am.part, addOff, Nat.reduceAdd, Nat.reduceMul, Nat.reduceLeDiff, Nat.reduceSub, Nat.reduceLT, Int.reduceEq, Int.reduceLT, Int.reduceLE, Int.reduceGT, Int.reduceGE, Int.reduceAdd, Int.reduceSub, Int.reduceMul, Int.reduceNeg, Int.reduceToNat, reduceCtorEq, reduceIte, c1]
        refine ⟨?_, ?_⟩
        · rw [h1, mapOf_congr]
          intro j hj
          unfold gMf
          rw [if_pos]
          by_cases ej : j = 0
          · subst ej; rw [H.top]; omega
          · have := H.up j (by omega) hj; omega
        · rw [h2, mapOf_congr]
          intro j hj
          unfold kMf; rw [if_pos hj]
      · have hm' : m < C.length := by omega
        have c1 : ((m : Nat) : Int) < C.length := by omega
        have hum : (ndA C m).up < m := by
          by_cases ej : m = 0
          · subst ej; rw [H.top]; omega
          · have := H.up m (by omega) hm'; omega
        have hfg : findM [(m : Int)] (mapOf (gMf C p m) C.length) = some (I (gG C p m)) := by
          rw [findM_mapOf hm']; unfold gMf; rw [if_pos hum]; rfl
        obtain ⟨gb0, gb1⟩ := gG_bd H hp m hm'
        obtain ⟨J, hc, hj⟩ := C71 hv H (m := m) gb0 (by omega) hk
        have lk := at_len h2
        have hcp := r97 (h := hk ++ J) (lim := 0) (p := 1) (at_up h1) hj (by omega) (Nat.zero_le _) (lit_g H hp hp2) (lit_s H gb0 (by omega))
        have hmg : mergeM (mapOf (gMf C p m) C.length) (mapOf (spF C m (gG C p m)) C.length) = mapOf (gMf C p (m + 1)) C.length := by
          rw [merge_mapOf (Nat.le_refl _)]
          refine mapOf_congr fun j hj => ?_
          rw [if_pos hj]
          unfold spF gMf
          by_cases e : (ndA C j).up = m
          · rw [if_pos e, if_neg (by omega), if_pos (by omega)]
            have ej : j ≠ 0 := by rintro rfl; rw [H.top] at e; omega
            rw [gG_eq H (by omega) hj, e, Int.toNat_natCast]; rfl
          · rw [if_neg e]
            by_cases e2 : (ndA C j).up < m
            · rw [if_pos e2, if_pos (by omega)]; rfl
            · rw [if_neg e2, if_neg (by omega)]; rfl
        have hks : putM [(m : Int)] (I (spk C m (gG C p m))) (mapOf (kMf C p m) C.length) = mapOf (kMf C p (m + 1)) C.length := by
          rw [putM_mapOf hm']
          refine mapOf_congr fun j hj => ?_
          unfold updF kMf
          by_cases e : j = m
          · subst e; rw [if_pos rfl, if_pos (by omega)]; rfl
          · rw [if_neg e]; congr 1; simp only [eq_iff_iff]; omega
        have h2' : ((hk ++ J).set 1 (AO.mpo KI (mapOf (gMf C p (m + 1)) C.length)))[2]? = some (.mpo KI (mapOf (kMf C p m) C.length)) := at_st (at_up h2) (by omega)
        simp (disch := first | assumption | omega | (simp only [az]; done)) only [ru, eq_self, if_true, if_false, BEq.rfl, binI, AO.row?, splice, fillL, mmAll, loadV, storeV, zeros, Am.rowAt, Am.part, addOff, Nat.reduceAdd, Nat.reduceMul, Nat.reduceLeDiff, Nat.reduceSub, Nat.reduceLT, Int.reduceEq, Int.reduceLT, Int.reduceLE, Int.reduceGT, Int.reduceGE, Int.reduceAdd, Int.reduceSub, Int.reduceMul, Int.reduceNeg, Int.reduceToNat, reduceCtorEq, reduceIte, c1, h0, lenV_sl hv, view_sl hv, scalar_sl hv, cells_sl hv, pure_sl hv, rmp, mapGet_at h1, hfg, Option.getD_some, exOp_call2, hc, exOp_call0, hcp, hmg, mapSet_at h2' (x := I (spk C m (gG C p m))) rfl (Nat.zero_le _), hks]
        refine ih (C.length - (m + 1)) _ _ _ (by omega) ⟨m + 1, by omega, rfl, at_st (at_st (at_up h0) (by omega)) (by omega), at_st (at_se (at_up h1)) (by omega), at_se h2', rfl, rfl, rfl, rfl, rfl, rfl, rfl, rfl, rfl⟩
    · show some (AO.mpo KI (putM [0] (I p) [])) = _
      have : putM [(0 : Int)] (I p) (mapOf (fun _ => none) C.length) = mapOf (gMf C p 0) C.length := by
        have := putM_mapOf (f := fun _ => none) (n := C.length) (j := 0) (v := p) (by omega)
        rw [show ((0 : Nat) : Int) = 0 from rfl] at this
        rw [this]
        refine mapOf_congr fun j hj => ?_
        unfold updF gMf
        by_cases e : j = 0
        · subst e; rw [if_pos rfl, if_pos (by rw [H.top]; omega), gG_zero]
        · have := H.up j (by omega) hj
          rw [if_neg e, if_neg (by omega)]
      rw [← this, mapOf_none (fun _ _ => rfl)]
    · show some (AO.mpo KI []) = _
      rw [mapOf_none]
      intro j hj; simp [kMf]
  obtain ⟨r, J, hr, rfl, hj⟩ := key
  exact ⟨J, hr, hj⟩
omit hv H in
theorem gK_find {p : Int} {j : Nat} (hj : j < C.length) : findM [(j : Int)] (mapOf (fun j => some (gG C p j)) C.length) = some (I (gG C p j)) ∧ findM [(j : Int)] (mapOf (fun j => some (kK C p j)) C.length) = some (I (kK C p j)) := by
  rw [findM_mapOf hj, findM_mapOf hj]; exact ⟨rfl, rfl⟩
theorem C65 {p : Int} (hp : 0 ≤ p) (hp2 : p ≤ 1000) (h : List AO) : ∃ J, C2 E 65 [cuV v, I p] h = some (.tup [.mp (1 + h.length), .mp (2 + h.length)], h ++ J) ∧ (h ++ J)[1 + h.length]? = some (.mpo KI (mapOf (fun j => some (gG C p j)) C.length)) ∧ (h ++ J)[2 + h.length]? = some (.mpo KI (mapOf (fun j => some (kK C p j)) C.length)) := by
  obtain ⟨J, hr, hj, hj2⟩ := r65 hv H hp hp2
  have hpu : AV.pureV.go [cuV v, I p] = true := by
    have := pure_sl hv
    simp only [AV.pureV.go, AV.pureV, this, Bool.and_true]
  refine ⟨_, C2_of hpu hr, ?_, ?_⟩
  · rw [Nat.add_comm, List.getElem?_append_right (by omega), Nat.add_sub_cancel_left, List.getElem?_map, hj]; rfl
  · rw [Nat.add_comm, List.getElem?_append_right (by omega), Nat.add_sub_cancel_left, List.getElem?_map, hj2]; rfl
/-- what one node gets -/
theorem t75 {j : Nat} (hj : j < C.length) {p : Int} (hp : 0 ≤ p) (hp2 : p ≤ 1000) (st : Bool) : Iso E 75 [cuV v, I j, I p] st = some (I (gG C p j)) := by
  refine Iso_of (es _ _ _ _) e75 ?_
  simp only [f75]
  obtain ⟨J, hc, h1, h2⟩ := C65 hv H hp hp2 [AO.cells [v] false]
  have h1' : (AO.cells [v] false :: J)[2]? = some (.mpo KI (mapOf (fun j => some (gG C p j)) C.length)) := h1
  simp (disch := first | assumption | omega | (simp only [az]; done)) only [ru, eq_self, if_true, if_false, BEq.rfl, binI, AO.row?, splice, fillL, mmAll, loadV, storeV, zeros, Am.rowAt, Am.part, addOff, Nat.reduceAdd, Nat.reduceMul, Nat.reduceLeDiff, Nat.reduceSub, Nat.reduceLT, Int.reduceEq, Int.reduceLT, Int.reduceLE, Int.reduceGT, Int.reduceGE, Int.reduceAdd, Int.reduceSub, Int.reduceMul, Int.reduceNeg, Int.reduceToNat, reduceCtorEq, reduceIte, lenV_sl hv, view_sl hv, scalar_sl hv, cells_sl hv, pure_sl hv, rmp, exOp_call2, hc, List.length_cons, List.length_nil, mapGet_at h1', (gK_find hj).1, Option.getD_some]
end
/-! the values of a map -/
def keyN (f : Nat → Option Int) (n : Nat) : List Nat := (List.range n).filter fun j => (f j).isSome
def valN (f : Nat → Option Int) (n : Nat) : List Int := (keyN f n).map fun j => (f j).getD 0
theorem keyN_mem {f : Nat → Option Int} {n j : Nat} (h : j ∈ keyN f n) : j < n ∧ ∃ v, f j = some v := by
  simp only [keyN, List.mem_filter, List.mem_range, Option.isSome_iff_exists] at h; exact h
theorem key_ents {f : Nat → Option Int} {n : Nat} : ((mapOf f n).map fun x => (AV.int .i64 (dk x) : AV)) = (ofN (keyN f n)).flatMap intL := by
  have := mapOf_keys (f := f) (n := n)
  have e : ((mapOf f n).map fun x => (AV.int .i64 (dk x) : AV)) = ((mapOf f n).map dk).map fun n => (AV.int .i64 n : AV) := by rw [List.map_map]; rfl
  rw [e, this]
  show (ofN (keyN f n)).map _ = _
  generalize ofN (keyN f n) = l
  induction l with
  | nil => rfl
  | cons a l ih => rw [List.map_cons, ih, List.flatMap_cons]; rfl
theorem key_len {f : Nat → Option Int} {n : Nat} : (mapOf f n).length = (keyN f n).length := by
  have := congrArg List.length (mapOf_keys (f := f) (n := n))
  simpa [keyN] using this
set_option maxHeartbeats 4000000 in
theorem r66 {f : Nat → Option Int} {n p lim : Nat} {h : List AO} (hp : h[p]? = some (.mpo KI (mapOf f n))) (hl : litM (mapOf f n) = true) (hlim : lim ≤ h.length) (hn : n ≤ 1000) :
    ∃ w g, R E (.fn 66) [.mp p] h lim = some (w, g) ∧ ∃ b, OutE intL 1 b g w (valN f n) := by
  refine R_of _ (es _ _ _ _) e66 ?_
  simp only [f66]
  have hp1 : (h ++ [AO.cells [.mp p] false])[p]? = some (.mpo KI (mapOf f n)) := at_up hp
  have h98 := r98 (h := h ++ [AO.cells [.mp p] false]) (lim := lim) (o := h.length) (p := p) (by simp) hp1 hl
  rw [key_ents] at h98
  obtain ⟨K, hK⟩ : ∃ K, K = keyN f n := ⟨_, rfl⟩
  have hkl : (mapOf f n).length = K.length := by rw [key_len, hK]
  by_cases e : mapOf f n = []
  · rw [if_pos e, if_pos e] at h98
    have : K = [] := List.eq_nil_of_length_eq_zero (by rw [← hkl, e]; rfl)
    have ev : valN f n = [] := by unfold valN; rw [← hK, this]; rfl
    simp (disch := first | assumption | omega | (simp only [az]; done)) only [ru, eq_self, if_true, if_false, BEq.rfl, binI, AO.row?, splice, fillL, mmAll, loadV, storeV, zeros, Am.rowAt, Am.part, addOff, Nat.reduceAdd, Nat.reduceMul, Nat.reduceLeDiff, Nat.reduceSub, Nat.reduceLT, Int.reduceEq, Int.reduceLT, Int.reduceLE, Int.reduceGT, Int.reduceGE, Int.reduceAdd, Int.reduceSub, Int.reduceMul, Int.reduceNeg, Int.reduceToNat, reduceCtorEq, reduceIte, exOp_call0, r99, h98, lenV_nils]
    rw [G_loop]
    simp (disch := first | assumption | omega | (simp only [az]; done)) only [ru, eq_self, if_true, if_false, BEq.rfl, binI, AO.row?, splice, fillL, mmAll, loadV, storeV, zeros, Am.rowAt, Am.part, addOff, Nat.reduceAdd, Nat.reduceMul, Nat.reduceLeDiff, Nat.reduceSub, Nat.reduceLT, Int.reduceEq, Int.reduceLT, Int.reduceLE, Int.reduceGT, Int.reduceGE, Int.reduceAdd, Int.reduceSub, Int.reduceMul, Int.reduceNeg, Int.reduceToNat, reduceCtorEq, reduceIte, Int.lt_irrefl]
    exact ⟨0, .inl ⟨ev, rfl⟩⟩
  · rw [if_neg e, if_neg e, ← hK, hkl] at h98
    simp (disch := first | assumption | omega | (simp only [az]; done)) only [ru, eq_self, if_true, if_false, BEq.rfl, binI, AO.row?, splice, fillL, mmAll, loadV, storeV, zeros, Am.rowAt, Am.part, addOff, Nat.reduceAdd, Nat.reduceMul, Nat.reduceLeDiff, Nat.reduceSub, Nat.reduceLT, Int.reduceEq, Int.reduceLT, Int.reduceLE, Int.reduceGT, Int.reduceGE, Int.reduceAdd, Int.reduceSub, Int.reduceMul, Int.reduceNeg, Int.reduceToNat, reduceCtorEq, reduceIte, exOp_call0, r99, h98, lenV_ms]
    obtain ⟨pre, hpre⟩ : ∃ pre, pre = h ++ [AO.cells [AV.mp p] false] ++ [AO.cells ((ofN K).flatMap intL) false] := ⟨_, rfl⟩
    have hq : pre[h.length + 1]? = some (.cells ((ofN K).flatMap intL) false) := by rw [hpre]; simp
    have hpp : pre[p]? = some (.mpo KI (mapOf f n)) := by rw [hpre]; exact at_up hp1
    have hpl : pre.length = h.length + 2 := by rw [hpre]; simp
    have hol : (h ++ [AO.cells [AV.mp p] false]).length = h.length + 1 := by simp
    rw [← hpre, hol]
    have hKl : K.length ≤ n := by rw [hK]; unfold keyN; exact Nat.le_trans (List.length_filter_le _ _) (by simp)
    refine G_loop_ind (fun y ts hk mk => ∃ (i : Nat) (J : List AO), i ≤ K.length ∧ K.length - i = y ∧ hk = pre ++ J ∧ OutE intL 1 pre.length (pre ++ J) (ts.getD 3 .undef) ((K.take i).map fun j => (f j).getD 0) ∧ ts.length = 22 ∧ ts.getD 0 .undef = .mp p ∧ ts.getD 8 .undef = .ms 1 (h.length + 1) 0 K.length ∧ ts.getD 9 .undef = I K.length ∧ ts.getD 10 .undef = I i ∧ mk = []) ?_ K.length _ _ _ ⟨0, [], Nat.zero_le _, Nat.sub_zero _, by simp, .inl ⟨rfl, rfl⟩, rfl, rfl, rfl, rfl, rfl, rfl⟩
    rintro y ts hk mk ih ⟨i, J, hi, rfl, rfl, ho, hl', q0, q8, q9, q10, rfl⟩
    rw [lit_all hl']
    obtain ⟨w, hw⟩ : ∃ w, w = ts.getD 3 .undef := ⟨_, rfl⟩
    rw [← hw] at ho
    have hw' := hw.symm
    simp only [lit0, litS, Nat.reduceAdd, q0, q8, q9, q10, hw']
    by_cases e1 : i = K.length
    · subst e1
      have c1 : ¬ ((K.length : Nat) : Int) < K.length := by omega
      simp (disch := first | assumption | omega | (simp only [az]; done)) only [ru, eq_self, if_true, if_false, BEq.rfl, binI, AO.row?, splice, fillL, mmAll, loadV, storeV, zeros, Am.rowAt, Am.part, addOff, Nat.reduceAdd, Nat.reduceMul, Nat.reduceLeDiff, Nat.reduceSub, Nat.reduceLT, Int.reduceEq, Int.reduceLT, Int.reduceLE, Int.reduceGT, Int.reduceGE, Int.reduceAdd, Int.reduceSub, Int.reduceMul, Int.reduceNeg, Int.reduceToNat, reduceCtorEq, reduceIte, c1]
      refine ⟨pre.length, ?_⟩
      have : valN f n = (K.take K.length).map fun j => (f j).getD 0 := by unfold valN; rw [← hK, List.take_length]
      rw [this]; exact ho
    · have c1 : ((i : Nat) : Int) < K.length := by omega
      have hi' : i < K.length := by omega
      obtain ⟨k, hk⟩ : ∃ k, k = K.getD i default := ⟨_, rfl⟩
      have hkm : k ∈ K := by rw [hk]; exact getD_mem hi'
      obtain ⟨hkn, z, hz⟩ := keyN_mem (by rw [← hK]; exact hkm)
      have hkz : (ofN K).getD i 0 = (k : Int) := by
        unfold ofN
        rw [hk, List.getD_eq_getElem?_getD, List.getElem?_map, List.getD_eq_getElem?_getD, List.getElem?_eq_getElem hi']; rfl
      have el : elemAt 1 (.ms 1 (h.length + 1) 0 K.length) (I i) = some (.ptr (h.length + 1) i) := by simp [elemAt, c1]
      have hh : (List.drop i ((ofN K).flatMap intL)).head? = some (I k) := by
        rw [flat_head (F := ofN K) (by rw [ofN_len]; exact hi'), hkz]
      have hf : findM [(k : Int)] (mapOf f n) = some (I z) := by rw [findM_mapOf hkn, hz]; rfl
      have hq' := at_up (m := J) hq
      have hpp' := at_up (m := J) hpp
      obtain ⟨v', J', ha, ho'⟩ := outE_app (pre := pre) (J := J) (eb := 8) (lim := lim) intE intSc (by omega) (by omega) (by omega) ho (by omega) (by simp; omega) z
      simp (disch := first | assumption | omega | (simp only [az]; done)) only [ru, eq_self, if_true, if_false, BEq.rfl, binI, AO.row?, splice, fillL, mmAll, loadV, storeV, zeros, Am.rowAt, Am.part, addOff, Nat.reduceAdd, Nat.reduceMul, Nat.reduceLeDiff, Nat.reduceSub, Nat.reduceLT, Int.reduceEq, Int.reduceLT, Int.reduceLE, Int.reduceGT, Int.reduceGE, Int.reduceAdd, Int.reduceSub, Int.reduceMul, Int.reduceNeg, Int.reduceToNat, reduceCtorEq, reduceIte, c1, el, hq', hh, rmp, mapGet_at hpp', hf, Option.getD_some, exOp_litS, ha]
      refine ih (K.length - (i + 1)) _ _ _ (by omega) ⟨i + 1, J', by omega, rfl, rfl, ?_, rfl, rfl, rfl, rfl, rfl, rfl⟩
      rw [take_snoc (d := default) hi', ← hk, List.map_append]
      show OutE intL 1 pre.length (pre ++ J') v' (_ ++ [(f k).getD 0])
      rw [hz]; exact ho'
end Go.Proofs.Ytaeijjfgfenfhaa.S

/-
Lists that are searched: nodes, payments, numbers.
-/
namespace Go.Proofs.Ytaeijjfgfenfhaa.S
open Go Go.Am Go.Proofs.Ytaeijjfgfenfhaa.T
set_option maxRecDepth 100000
set_option linter.unusedSimpArgs false
set_option linter.unusedVariables false

/-- a payment -/
structure Py where
  p : Int
  n : Int
  c : Int
  deriving Inhabited, DecidableEq
def Py.e (x : Py) : List AV := [I x.p, I x.n, I x.c]
theorem Py.el (x : Py) : x.e.length = 3 := rfl
theorem Py.sc (x : Py) : x.e.all AV.scalar = true := rfl
theorem Py.iv (x : Py) : ∀ y ∈ x.e, ∃ k i, y = .int k i := by simp [Py.e]
theorem elem_py {C : List Py} {v : AV} (h : IsSl 3 Py.e C v) : ∀ i : Int, 0 ≤ i → i < C.length → elemAt 3 v (I i) = some (.cptr [I (C.getD i.toNat default).p, I (C.getD i.toNat default).n, I (C.getD i.toNat default).c]) := elem_sl Py.el h
theorem elem_nd' {C : List Nd} {v : AV} (h : IsSl 3 Nd.e C v) : ∀ i : Int, 0 ≤ i → i < C.length → elemAt 3 v (I i) = some (.cptr [I (C.getD i.toNat default).up, I (C.getD i.toNat default).w, I (C.getD i.toNat default).f]) := elem_sl Nd.el h
theorem any_upto_succ {α : Type} {d : α} {l : List α} {q : α → Bool} {i : Nat} (hi : i < l.length) (h : (l.take i).any q = false) (hq : q (l.getD i d) = false) : (l.take (i + 1)).any q = false := by
  rw [take_snoc (d := d) hi, List.any_append, h, List.any_cons, hq]; rfl
theorem any_at {α : Type} {d : α} {l : List α} {q : α → Bool} {i : Nat} (hi : i < l.length) (hq : q (l.getD i d) = true) : l.any q = true := List.any_eq_true.2 ⟨l.getD i d, by
  rw [List.getD_eq_getElem?_getD, List.getElem?_eq_getElem hi]; exact List.getElem_mem hi, hq⟩
theorem any_all {α : Type} {q : α → Bool} : ∀ {l : List α}, (!l.any fun x => !q x) = l.all q
  | [] => rfl
  | a :: l => by rw [List.any_cons, List.all_cons, Bool.not_or, Bool.not_not, any_all]

theorem s109 {q : Nd → Bool} {c : Nat} {cap : List AV} (x : Nd) {o : Nat} {h : List AO} (ho : h[o]? = some (.cells [.fn c [] cap] false)) (hq : ∀ X, Ro E c (.agg [I x.up, I x.w, I x.f] :: cap) (h ++ X) = some (Bo (q x))) : Ro E 109 [.agg [I x.up, I x.w, I x.f], .ptr o 0] h = some (Bo (!q x)) := by
  have ol := (List.getElem?_eq_some_iff.1 ho).1
  refine Ro_of (es _ _ _ _) e109 ?_
  simp only [f109]
  have h0 := hq []
  rw [List.append_nil] at h0
  simp (disch := first | assumption | omega | (simp only [az]; done)) only [ru, eq_self, if_true, if_false, BEq.rfl, binI, AO.row?, splice, fillL, mmAll, loadV, storeV, zeros, Am.rowAt, Am.part, addOff, Nat.reduceAdd, Nat.reduceMul, Nat.reduceLeDiff, Nat.reduceSub, Nat.reduceLT, Int.reduceEq, Int.reduceLT, Int.reduceLE, Int.reduceGT, Int.reduceGE, Int.reduceAdd, Int.reduceSub, Int.reduceMul, Int.reduceNeg, Int.reduceToNat, reduceCtorEq, reduceIte, atE, lenE, at_ap ol, ho, exOp_callv1, List.nil_append, List.cons_append, hq, h0]
  rfl
set_option maxHeartbeats 1000000 in
theorem s119 {L : List Nd} {v : AV} (H : IsSl 3 Nd.e L v) (hl : L.length ≤ 1000) {q : Nd → Bool} {k : Nat} {cap : List AV} {h : List AO} (hq : ∀ x : Nd, Ro E k (.agg [I x.up, I x.w, I x.f] :: cap) h = some (Bo (q x))) :
    ∃ j : Int, Ro E 119 [v, .fn k [] cap] h = some (I j) ∧ decide (j ≥ 0) = L.any q := by
  refine (fun x => ?_ : (∃ w, Ro E 119 [v, .fn k [] cap] h = some w ∧ ∃ j : Int, w = I j ∧ decide (j ≥ 0) = L.any q) → _) (Ro_ex (fun r => ∃ j : Int, r = I j ∧ decide (j ≥ 0) = L.any q) (by rintro _ ⟨j, rfl, _⟩; rfl) (es _ _ _ _) e119 ?_)
  · obtain ⟨w, hv, j, rfl, hj⟩ := x; exact ⟨j, hv, hj⟩
  have ep := elem_nd' H
  simp only [f119]
  simp (disch := first | assumption | omega | (simp only [az]; done)) only [ru, eq_self, if_true, if_false, BEq.rfl, binI, AO.row?, splice, fillL, mmAll, loadV, storeV, zeros, Am.rowAt, Am.part, addOff, Nat.reduceAdd, Nat.reduceMul, Nat.reduceLeDiff, Nat.reduceSub, Nat.reduceLT, Int.reduceEq, Int.reduceLT, Int.reduceLE, Int.reduceGT, Int.reduceGE, Int.reduceAdd, Int.reduceSub, Int.reduceMul, Int.reduceNeg, Int.reduceToNat, reduceCtorEq, reduceIte, lenV_sl H]
  refine G_loop_ind (fun m ts hh mk => ∃ i : Nat, i ≤ L.length ∧ m = L.length - i ∧ (L.take i).any q = false ∧ ts.length = 19 ∧ ts.getD 0 .undef = v ∧ ts.getD 1 .undef = .fn k [] cap ∧ ts.getD 7 .undef = I L.length ∧ ts.getD 8 .undef = I i ∧ hh = h ∧ mk = []) ?_ _ _ _ _
    ⟨0, Nat.zero_le _, rfl, rfl, rfl, rfl, rfl, rfl, rfl, rfl, rfl⟩
  rintro m ts hh mk ih ⟨i, hi, rfl, hall, hl', q0, q1, q7, q8, rfl, rfl⟩
  rw [lit_all hl']
  simp only [lit0, litS, Nat.reduceAdd, q0, q1, q7, q8]
  simp (disch := first | assumption | omega | (simp only [az]; done)) only [ru, eq_self, if_true, if_false, BEq.rfl, binI, AO.row?, splice, fillL, mmAll, loadV, storeV, zeros, Am.rowAt, Am.part, addOff, Nat.reduceAdd, Nat.reduceMul, Nat.reduceLeDiff, Nat.reduceSub, Nat.reduceLT, Int.reduceEq, Int.reduceLT, Int.reduceLE, Int.reduceGT, Int.reduceGE, Int.reduceAdd, Int.reduceSub, Int.reduceMul, Int.reduceNeg, Int.reduceToNat, reduceCtorEq, reduceIte]
  by_cases hlt : (i : Int) < L.length
  case pos =>
    have hi' : i < L.length := by omega
    have nx := any_upto_succ (d := default) hi' hall
    have ya := any_at (d := default) (q := q) hi'
    obtain ⟨x, hx⟩ : ∃ x, x = L.getD i default := ⟨_, rfl⟩
    have hr := hq x
    rw [← hx] at nx ya
    cases hc : q x
    · rw [hc] at hr
      simp (disch := first | assumption | omega | (simp only [az]; done)) only [ru, eq_self, if_true, if_false, BEq.rfl, binI, AO.row?, splice, fillL, mmAll, loadV, storeV, zeros, Am.rowAt, Am.part, addOff, Nat.reduceAdd, Nat.reduceMul, Nat.reduceLeDiff, Nat.reduceSub, Nat.reduceLT, Int.reduceEq, Int.reduceLT, Int.reduceLE, Int.reduceGT, Int.reduceGE, Int.reduceAdd, Int.reduceSub, Int.reduceMul, Int.reduceNeg, Int.reduceToNat, reduceCtorEq, reduceIte, hlt, ep, Int.toNat_natCast, ← hx, exOp_callv1, List.nil_append, List.cons_append, hr]
      exact ih (L.length - (i + 1)) _ _ _ (by omega) ⟨i + 1, by omega, rfl, nx hc, rfl, rfl, rfl, rfl, rfl, rfl, rfl⟩
    · rw [hc] at hr
      simp (disch := first | assumption | omega | (simp only [az]; done)) only [ru, eq_self, if_true, if_false, BEq.rfl, binI, AO.row?, splice, fillL, mmAll, loadV, storeV, zeros, Am.rowAt, Am.part, addOff, Nat.reduceAdd, Nat.reduceMul, Nat.reduceLeDiff, Nat.reduceSub, Nat.reduceLT, Int.reduceEq, Int.reduceLT, Int.reduceLE, Int.reduceGT, Int.reduceGE, Int.reduceAdd, Int.reduceSub, Int.reduceMul, Int.reduceNeg, Int.reduceToNat, reduceCtorEq, reduceIte, hlt, ep, Int.toNat_natCast, ← hx, exOp_callv1, List.nil_append, List.cons_append, hr]
      exact ⟨i, rfl, by rw [ya hc]; simp⟩
  obtain rfl : i = L.length := by omega
  rw [List.take_length] at hall
  simp (disch := first | assumption | omega | (simp only [az]; done)) only [ru, eq_self, if_true, if_false, BEq.rfl, binI, AO.row?, splice, fillL, mmAll, loadV, storeV, zeros, Am.rowAt, Am.part, addOff, Nat.reduceAdd, Nat.reduceMul, Nat.reduceLeDiff, Nat.reduceSub, Nat.reduceLT, Int.reduceEq, Int.reduceLT, Int.reduceLE, Int.reduceGT, Int.reduceGE, Int.reduceAdd, Int.reduceSub, Int.reduceMul, Int.reduceNeg, Int.reduceToNat, reduceCtorEq, reduceIte, hlt]
  exact ⟨-1, rfl, by rw [hall]; decide⟩
theorem s108 {L : List Nd} {v : AV} (H : IsSl 3 Nd.e L v) (hl : L.length ≤ 1000) {q : Nd → Bool} {k : Nat} {cap : List AV} {h : List AO} (hq : ∀ x : Nd, Ro E k (.agg [I x.up, I x.w, I x.f] :: cap) h = some (Bo (q x))) : Ro E 108 [v, .fn k [] cap] h = some (Bo (L.any q)) := by
  obtain ⟨j, hr, hj⟩ := s119 H hl hq
  refine Ro_of (es _ _ _ _) e108 ?_
  simp only [f108]
  simp (disch := first | assumption | omega | (simp only [az]; done)) only [ru, eq_self, if_true, if_false, BEq.rfl, binI, AO.row?, splice, fillL, mmAll, loadV, storeV, zeros, Am.rowAt, Am.part, addOff, Nat.reduceAdd, Nat.reduceMul, Nat.reduceLeDiff, Nat.reduceSub, Nat.reduceLT, Int.reduceEq, Int.reduceLT, Int.reduceLE, Int.reduceGT, Int.reduceGE, Int.reduceAdd, Int.reduceSub, Int.reduceMul, Int.reduceNeg, Int.reduceToNat, reduceCtorEq, reduceIte, hr]
  rw [hj]; exact ⟨rfl, rfl⟩
theorem s93 {L : List Nd} {v : AV} (H : IsSl 3 Nd.e L v) (hl : L.length ≤ 1000) {q : Nd → Bool} {c : Nat} {cap : List AV} {h : List AO} (hq : ∀ (x : Nd) X, Ro E c (.agg [I x.up, I x.w, I x.f] :: cap) (h ++ X) = some (Bo (q x))) : Ro E 93 [v, .fn c [] cap] h = some (Bo (L.all q)) := by
  have hr := s108 H hl (q := fun x => !q x) (k := 109) (cap := [.ptr h.length 0]) (h := h ++ [.cells [.fn c [] cap] false]) fun x => s109 x atE fun X => by rw [List.append_assoc]; exact hq x _
  have e : (!L.any fun x => !q x) = L.all q := any_all
  refine Ro_of (es _ _ _ _) e93 ?_
  simp only [f93]
  simp (disch := first | assumption | omega | (simp only [az]; done)) only [ru, eq_self, if_true, if_false, BEq.rfl, binI, AO.row?, splice, fillL, mmAll, loadV, storeV, zeros, Am.rowAt, Am.part, addOff, Nat.reduceAdd, Nat.reduceMul, Nat.reduceLeDiff, Nat.reduceSub, Nat.reduceLT, Int.reduceEq, Int.reduceLT, Int.reduceLE, Int.reduceGT, Int.reduceGE, Int.reduceAdd, Int.reduceSub, Int.reduceMul, Int.reduceNeg, Int.reduceToNat, reduceCtorEq, reduceIte, lenV_sl H, view_sl H, scalar_sl H, cells_sl H, pure_sl H, hr, e]
  rfl

theorem s111 {q : Py → Bool} {c : Nat} {cap : List AV} (x : Py) {o : Nat} {h : List AO} (ho : h[o]? = some (.cells [.fn c [] cap] false)) (hq : ∀ X, Ro E c (.agg [I x.p, I x.n, I x.c] :: cap) (h ++ X) = some (Bo (q x))) : Ro E 111 [.agg [I x.p, I x.n, I x.c], .ptr o 0] h = some (Bo (!q x)) := by
  have ol := (List.getElem?_eq_some_iff.1 ho).1
  refine Ro_of (es _ _ _ _) e111 ?_
  simp only [f111]
  have h0 := hq []
  rw [List.append_nil] at h0
  simp (disch := first | assumption | omega | (simp only [az]; done)) only [ru, eq_self, if_true, if_false, BEq.rfl, binI, AO.row?, splice, fillL, mmAll, loadV, storeV, zeros, Am.rowAt, Am.part, addOff, Nat.reduceAdd, Nat.reduceMul, Nat.reduceLeDiff, Nat.reduceSub, Nat.reduceLT, Int.reduceEq, Int.reduceLT, Int.reduceLE, Int.reduceGT, Int.reduceGE, Int.reduceAdd, Int.reduceSub, Int.reduceMul, Int.reduceNeg, Int.reduceToNat, reduceCtorEq, reduceIte, atE, lenE, at_ap ol, ho, exOp_callv1, List.nil_append, List.cons_append, hq, h0]
  rfl
set_option maxHeartbeats 1000000 in
theorem s120 {L : List Py} {v : AV} (H : IsSl 3 Py.e L v) (hl : L.length ≤ 1000) {q : Py → Bool} {k : Nat} {cap : List AV} {h : List AO} (hq : ∀ x : Py, x ∈ L → Ro E k (.agg [I x.p, I x.n, I x.c] :: cap) h = some (Bo (q x))) :
    ∃ j : Int, Ro E 120 [v, .fn k [] cap] h = some (I j) ∧ decide (j ≥ 0) = L.any q := by
  refine (fun x => ?_ : (∃ w, Ro E 120 [v, .fn k [] cap] h = some w ∧ ∃ j : Int, w = I j ∧ decide (j ≥ 0) = L.any q) → _) (Ro_ex (fun r => ∃ j : Int, r = I j ∧ decide (j ≥ 0) = L.any q) (by rintro _ ⟨j, rfl, _⟩; rfl) (es _ _ _ _) e120 ?_)
  · obtain ⟨w, hv, j, rfl, hj⟩ := x; exact ⟨j, hv, hj⟩
  have ep := elem_py H
  simp only [f120]
  simp (disch := first | assumption | omega | (simp only [az]; done)) only [ru, eq_self, if_true, if_false, BEq.rfl, binI, AO.row?, splice, fillL, mmAll, loadV, storeV, zeros, Am.rowAt, Am.part, addOff, Nat.reduceAdd, Nat.reduceMul, Nat.reduceLeDiff, Nat.reduceSub, Nat.reduceLT, Int.reduceEq, Int.reduceLT, Int.reduceLE, Int.reduceGT, Int.reduceGE, Int.reduceAdd, Int.reduceSub, Int.reduceMul, Int.reduceNeg, Int.reduceToNat, reduceCtorEq, reduceIte, lenV_sl H]
  refine G_loop_ind (fun m ts hh mk => ∃ i : Nat, i ≤ L.length ∧ m = L.length - i ∧ (L.take i).any q = false ∧ ts.length = 19 ∧ ts.getD 0 .undef = v ∧ ts.getD 1 .undef = .fn k [] cap ∧ ts.getD 7 .undef = I L.length ∧ ts.getD 8 .undef = I i ∧ hh = h ∧ mk = []) ?_ _ _ _ _
    ⟨0, Nat.zero_le _, rfl, rfl, rfl, rfl, rfl, rfl, rfl, rfl, rfl⟩
  rintro m ts hh mk ih ⟨i, hi, rfl, hall, hl', q0, q1, q7, q8, rfl, rfl⟩
  rw [lit_all hl']
  simp only [lit0, litS, Nat.reduceAdd, q0, q1, q7, q8]
  simp (disch := first | assumption | omega | (simp only [az]; done)) only [ru, eq_self, if_true, if_false, BEq.rfl, binI, AO.row?, splice, fillL, mmAll, loadV, storeV, zeros, Am.rowAt, Am.part, addOff, Nat.reduceAdd, Nat.reduceMul, Nat.reduceLeDiff, Nat.reduceSub, Nat.reduceLT, Int.reduceEq, Int.reduceLT, Int.reduceLE, Int.reduceGT, Int.reduceGE, Int.reduceAdd, Int.reduceSub, Int.reduceMul, Int.reduceNeg, Int.reduceToNat, reduceCtorEq, reduceIte]
  by_cases hlt : (i : Int) < L.length
  case pos =>
    have hi' : i < L.length := by omega
    have nx := any_upto_succ (d := default) hi' hall
    have ya := any_at (d := default) (q := q) hi'
    obtain ⟨x, hx⟩ : ∃ x, x = L.getD i default := ⟨_, rfl⟩
    have hr := hq x (by rw [hx]; exact getD_mem hi')
    rw [← hx] at nx ya
    cases hc : q x
    · rw [hc] at hr
      simp (disch := first | assumption | omega | (simp only [az]; done)) only [ru, eq_self, if_true, if_false, BEq.rfl, binI, AO.row?, splice, fillL, mmAll, loadV, storeV, zeros, Am.rowAt, Am.part, addOff, Nat.reduceAdd, Nat.reduceMul, Nat.reduceLeDiff, Nat.reduceSub, Nat.reduceLT, Int.reduceEq, Int.reduceLT, Int.reduceLE, Int.reduceGT, Int.reduceGE, Int.reduceAdd, Int.reduceSub, Int.reduceMul, Int.reduceNeg, Int.reduceToNat, reduceCtorEq, reduceIte, hlt, ep, Int.toNat_natCast, ← hx, exOp_callv1, List.nil_append, List.cons_append, hr]
      exact ih (L.length - (i + 1)) _ _ _ (by omega) ⟨i + 1, by omega, rfl, nx hc, rfl, rfl, rfl, rfl, rfl, rfl, rfl⟩
    · rw [hc] at hr
      simp (disch := first | assumption | omega | (simp only [az]; done)) only [ru, eq_self, if_true, if_false, BEq.rfl, binI, AO.row?, splice, fillL, mmAll, loadV, storeV, zeros, Am.rowAt, Am.part, addOff, Nat.reduceAdd, Nat.reduceMul, Nat.reduceLeDiff, Nat.reduceSub, Nat.reduceLT, Int.reduceEq, Int.reduceLT, Int.reduceLE, Int.reduceGT, Int.reduceGE, Int.reduceAdd, Int.reduceSub, Int.reduceMul, Int.reduceNeg, Int.reduceToNat, reduceCtorEq, reduceIte, hlt, ep, Int.toNat_natCast, ← hx, exOp_callv1, List.nil_append, List.cons_append, hr]
      exact ⟨i, rfl, by rw [ya hc]; simp⟩
  obtain rfl : i = L.length := by omega
  rw [List.take_length] at hall
  simp (disch := first | assumption | omega | (simp only [az]; done)) only [ru, eq_self, if_true, if_false, BEq.rfl, binI, AO.row?, splice, fillL, mmAll, loadV, storeV, zeros, Am.rowAt, Am.part, addOff, Nat.reduceAdd, Nat.reduceMul, Nat.reduceLeDiff, Nat.reduceSub, Nat.reduceLT, Int.reduceEq, Int.reduceLT, Int.reduceLE, Int.reduceGT, Int.reduceGE, Int.reduceAdd, Int.reduceSub, Int.reduceMul, Int.reduceNeg, Int.reduceToNat, reduceCtorEq, reduceIte, hlt]
  exact ⟨-1, rfl, by rw [hall]; decide⟩
theorem s110 {L : List Py} {v : AV} (H : IsSl 3 Py.e L v) (hl : L.length ≤ 1000) {q : Py → Bool} {k : Nat} {cap : List AV} {h : List AO} (hq : ∀ x : Py, x ∈ L → Ro E k (.agg [I x.p, I x.n, I x.c] :: cap) h = some (Bo (q x))) : Ro E 110 [v, .fn k [] cap] h = some (Bo (L.any q)) := by
  obtain ⟨j, hr, hj⟩ := s120 H hl hq
  refine Ro_of (es _ _ _ _) e110 ?_
  simp only [f110]
  simp (disch := first | assumption | omega | (simp only [az]; done)) only [ru, eq_self, if_true, if_false, BEq.rfl, binI, AO.row?, splice, fillL, mmAll, loadV, storeV, zeros, Am.rowAt, Am.part, addOff, Nat.reduceAdd, Nat.reduceMul, Nat.reduceLeDiff, Nat.reduceSub, Nat.reduceLT, Int.reduceEq, Int.reduceLT, Int.reduceLE, Int.reduceGT, Int.reduceGE, Int.reduceAdd, Int.reduceSub, Int.reduceMul, Int.reduceNeg, Int.reduceToNat, reduceCtorEq, reduceIte, hr]
  rw [hj]; exact ⟨rfl, rfl⟩
theorem s96 {L : List Py} {v : AV} (H : IsSl 3 Py.e L v) (hl : L.length ≤ 1000) {q : Py → Bool} {c : Nat} {cap : List AV} {h : List AO} (hq : ∀ (x : Py), x ∈ L → ∀ X, Ro E c (.agg [I x.p, I x.n, I x.c] :: cap) (h ++ X) = some (Bo (q x))) : Ro E 96 [v, .fn c [] cap] h = some (Bo (L.all q)) := by
  have hr := s110 H hl (q := fun x => !q x) (k := 111) (cap := [.ptr h.length 0]) (h := h ++ [.cells [.fn c [] cap] false]) fun x hx => s111 x atE fun X => by rw [List.append_assoc]; exact hq x hx _
  have e : (!L.any fun x => !q x) = L.all q := any_all
  refine Ro_of (es _ _ _ _) e96 ?_
  simp only [f96]
  simp (disch := first | assumption | omega | (simp only [az]; done)) only [ru, eq_self, if_true, if_false, BEq.rfl, binI, AO.row?, splice, fillL, mmAll, loadV, storeV, zeros, Am.rowAt, Am.part, addOff, Nat.reduceAdd, Nat.reduceMul, Nat.reduceLeDiff, Nat.reduceSub, Nat.reduceLT, Int.reduceEq, Int.reduceLT, Int.reduceLE, Int.reduceGT, Int.reduceGE, Int.reduceAdd, Int.reduceSub, Int.reduceMul, Int.reduceNeg, Int.reduceToNat, reduceCtorEq, reduceIte, lenV_sl H, view_sl H, scalar_sl H, cells_sl H, pure_sl H, hr, e]
  rfl

theorem s104 {q : Int → Bool} {c : Nat} {cap : List AV} (x : Int) {o : Nat} {h : List AO} (ho : h[o]? = some (.cells [.fn c [] cap] false)) (hq : ∀ X, Ro E c (I x :: cap) (h ++ X) = some (Bo (q x))) : Ro E 104 [I x, .ptr o 0] h = some (Bo (!q x)) := by
  have ol := (List.getElem?_eq_some_iff.1 ho).1
  refine Ro_of (es _ _ _ _) e104 ?_
  simp only [f104]
  have h0 := hq []
  rw [List.append_nil] at h0
  simp (disch := first | assumption | omega | (simp only [az]; done)) only [ru, eq_self, if_true, if_false, BEq.rfl, binI, AO.row?, splice, fillL, mmAll, loadV, storeV, zeros, Am.rowAt, Am.part, addOff, Nat.reduceAdd, Nat.reduceMul, Nat.reduceLeDiff, Nat.reduceSub, Nat.reduceLT, Int.reduceEq, Int.reduceLT, Int.reduceLE, Int.reduceGT, Int.reduceGE, Int.reduceAdd, Int.reduceSub, Int.reduceMul, Int.reduceNeg, Int.reduceToNat, reduceCtorEq, reduceIte, atE, lenE, at_ap ol, ho, exOp_callv1, List.nil_append, List.cons_append, hq, h0]
  rfl
set_option maxHeartbeats 1000000 in
theorem s116 {L : List Int} {v : AV} (H : IsSl 1 intL L v) (hl : L.length ≤ 1000) {q : Int → Bool} {k : Nat} {cap : List AV} {h : List AO} (hq : ∀ x : Int, Ro E k (I x :: cap) h = some (Bo (q x))) :
    ∃ j : Int, Ro E 116 [v, .fn k [] cap] h = some (I j) ∧ decide (j ≥ 0) = L.any q := by
  refine (fun x => ?_ : (∃ w, Ro E 116 [v, .fn k [] cap] h = some w ∧ ∃ j : Int, w = I j ∧ decide (j ≥ 0) = L.any q) → _) (Ro_ex (fun r => ∃ j : Int, r = I j ∧ decide (j ≥ 0) = L.any q) (by rintro _ ⟨j, rfl, _⟩; rfl) (es _ _ _ _) e116 ?_)
  · obtain ⟨w, hv, j, rfl, hj⟩ := x; exact ⟨j, hv, hj⟩
  have ep := elem_in H
  simp only [f116]
  simp (disch := first | assumption | omega | (simp only [az]; done)) only [ru, eq_self, if_true, if_false, BEq.rfl, binI, AO.row?, splice, fillL, mmAll, loadV, storeV, zeros, Am.rowAt, Am.part, addOff, Nat.reduceAdd, Nat.reduceMul, Nat.reduceLeDiff, Nat.reduceSub, Nat.reduceLT, Int.reduceEq, Int.reduceLT, Int.reduceLE, Int.reduceGT, Int.reduceGE, Int.reduceAdd, Int.reduceSub, Int.reduceMul, Int.reduceNeg, Int.reduceToNat, reduceCtorEq, reduceIte, lenV_sl H]
  refine G_loop_ind (fun m ts hh mk => ∃ i : Nat, i ≤ L.length ∧ m = L.length - i ∧ (L.take i).any q = false ∧ ts.length = 19 ∧ ts.getD 0 .undef = v ∧ ts.getD 1 .undef = .fn k [] cap ∧ ts.getD 7 .undef = I L.length ∧ ts.getD 8 .undef = I i ∧ hh = h ∧ mk = []) ?_ _ _ _ _
    ⟨0, Nat.zero_le _, rfl, rfl, rfl, rfl, rfl, rfl, rfl, rfl, rfl⟩
  rintro m ts hh mk ih ⟨i, hi, rfl, hall, hl', q0, q1, q7, q8, rfl, rfl⟩
  rw [lit_all hl']
  simp only [lit0, litS, Nat.reduceAdd, q0, q1, q7, q8]
  simp (disch := first | assumption | omega | (simp only [az]; done)) only [ru, eq_self, if_true, if_false, BEq.rfl, binI, AO.row?, splice, fillL, mmAll, loadV, storeV, zeros, Am.rowAt, Am.part, addOff, Nat.reduceAdd, Nat.reduceMul, Nat.reduceLeDiff, Nat.reduceSub, Nat.reduceLT, Int.reduceEq, Int.reduceLT, Int.reduceLE, Int.reduceGT, Int.reduceGE, Int.reduceAdd, Int.reduceSub, Int.reduceMul, Int.reduceNeg, Int.reduceToNat, reduceCtorEq, reduceIte]
  by_cases hlt : (i : Int) < L.length
  case pos =>
    have hi' : i < L.length := by omega
    have nx := any_upto_succ (d := 0) hi' hall
    have ya := any_at (d := 0) (q := q) hi'
    obtain ⟨x, hx⟩ : ∃ x, x = L.getD i 0 := ⟨_, rfl⟩
    have hr := hq x
    rw [← hx] at nx ya
    cases hc : q x
    · rw [hc] at hr
      simp (disch := first | assumption | omega | (simp only [az]; done)) only [ru, eq_self, if_true, if_false, BEq.rfl, binI, AO.row?, splice, fillL, mmAll, loadV, storeV, zeros, Am.rowAt, Am.part, addOff, Nat.reduceAdd, Nat.reduceMul, Nat.reduceLeDiff, Nat.reduceSub, Nat.reduceLT, Int.reduceEq, Int.reduceLT, Int.reduceLE, Int.reduceGT, Int.reduceGE, Int.reduceAdd, Int.reduceSub, Int.reduceMul, Int.reduceNeg, Int.reduceToNat, reduceCtorEq, reduceIte, hlt, ep, Int.toNat_natCast, ← hx, exOp_callv1, List.nil_append, List.cons_append, hr]
      exact ih (L.length - (i + 1)) _ _ _ (by omega) ⟨i + 1, by omega, rfl, nx hc, rfl, rfl, rfl, rfl, rfl, rfl, rfl⟩
    · rw [hc] at hr
      simp (disch := first | assumption | omega | (simp only [az]; done)) only [ru, eq_self, if_true, if_false, BEq.rfl, binI, AO.row?, splice, fillL, mmAll, loadV, storeV, zeros, Am.rowAt, Am.part, addOff, Nat.reduceAdd, Nat.reduceMul, Nat.reduceLeDiff, Nat.reduceSub, Nat.reduceLT, Int.reduceEq, Int.reduceLT, Int.reduceLE, Int.reduceGT, Int.reduceGE, Int.reduceAdd, Int.reduceSub, Int.reduceMul, Int.reduceNeg, Int.reduceToNat, reduceCtorEq, reduceIte, hlt, ep, Int.toNat_natCast, ← hx, exOp_callv1, List.nil_append, List.cons_append, hr]
      exact ⟨i, rfl, by rw [ya hc]; simp⟩
  obtain rfl : i = L.length := by omega
  rw [List.take_length] at hall
  simp (disch := first | assumption | omega | (simp only [az]; done)) only [ru, eq_self, if_true, if_false, BEq.rfl, binI, AO.row?, splice, fillL, mmAll, loadV, storeV, zeros, Am.rowAt, Am.part, addOff, Nat.reduceAdd, Nat.reduceMul, Nat.reduceLeDiff, Nat.reduceSub, Nat.reduceLT, Int.reduceEq, Int.reduceLT, Int.reduceLE, Int.reduceGT, Int.reduceGE, Int.reduceAdd, Int.reduceSub, Int.reduceMul, Int.reduceNeg, Int.reduceToNat, reduceCtorEq, reduceIte, hlt]
  exact ⟨-1, rfl, by rw [hall]; decide⟩
theorem s103 {L : List Int} {v : AV} (H : IsSl 1 intL L v) (hl : L.length ≤ 1000) {q : Int → Bool} {k : Nat} {cap : List AV} {h : List AO} (hq : ∀ x : Int, Ro E k (I x :: cap) h = some (Bo (q x))) : Ro E 103 [v, .fn k [] cap] h = some (Bo (L.any q)) := by
  obtain ⟨j, hr, hj⟩ := s116 H hl hq
  refine Ro_of (es _ _ _ _) e103 ?_
  simp only [f103]
  simp (disch := first | assumption | omega | (simp only [az]; done)) only [ru, eq_self, if_true, if_false, BEq.rfl, binI, AO.row?, splice, fillL, mmAll, loadV, storeV, zeros, Am.rowAt, Am.part, addOff, Nat.reduceAdd, Nat.reduceMul, Nat.reduceLeDiff, Nat.reduceSub, Nat.reduceLT, Int.reduceEq, Int.reduceLT, Int.reduceLE, Int.reduceGT, Int.reduceGE, Int.reduceAdd, Int.reduceSub, Int.reduceMul, Int.reduceNeg, Int.reduceToNat, reduceCtorEq, reduceIte, hr]
  rw [hj]; exact ⟨rfl, rfl⟩
theorem s79 {L : List Int} {v : AV} (H : IsSl 1 intL L v) (hl : L.length ≤ 1000) {q : Int → Bool} {c : Nat} {cap : List AV} {h : List AO} (hq : ∀ (x : Int) X, Ro E c (I x :: cap) (h ++ X) = some (Bo (q x))) : Ro E 79 [v, .fn c [] cap] h = some (Bo (L.all q)) := by
  have hr := s103 H hl (q := fun x => !q x) (k := 104) (cap := [.ptr h.length 0]) (h := h ++ [.cells [.fn c [] cap] false]) fun x => s104 x atE fun X => by rw [List.append_assoc]; exact hq x _
  have e : (!L.any fun x => !q x) = L.all q := any_all
  refine Ro_of (es _ _ _ _) e79 ?_
  simp only [f79]
  simp (disch := first | assumption | omega | (simp only [az]; done)) only [ru, eq_self, if_true, if_false, BEq.rfl, binI, AO.row?, splice, fillL, mmAll, loadV, storeV, zeros, Am.rowAt, Am.part, addOff, Nat.reduceAdd, Nat.reduceMul, Nat.reduceLeDiff, Nat.reduceSub, Nat.reduceLT, Int.reduceEq, Int.reduceLT, Int.reduceLE, Int.reduceGT, Int.reduceGE, Int.reduceAdd, Int.reduceSub, Int.reduceMul, Int.reduceNeg, Int.reduceToNat, reduceCtorEq, reduceIte, lenV_sl H, view_sl H, scalar_sl H, cells_sl H, pure_sl H, hr, e]
  rfl

end Go.Proofs.Ytaeijjfgfenfhaa.S

/-
What the program asks of a custom; what it answers of all nodes.
-/
namespace Go.Proofs.Ytaeijjfgfenfhaa.S
open Go Go.Am Go.Proofs.Ytaeijjfgfenfhaa.T
set_option maxRecDepth 100000
set_option linter.unusedSimpArgs false
set_option linter.unusedVariables false

theorem t91 (n lo hi : Int) (st : Bool) : Iso E 91 [I n, I lo, I hi] st = some (Bo (inR n lo hi)) := by
  refine Iso_of (es _ _ _ _) e91 ?_
  simp only [f91, inR]
  simp (disch := first | assumption | omega | (simp only [az]; done)) only [ru, eq_self, if_true, if_false, BEq.rfl, binI, AO.row?, splice, fillL, mmAll, loadV, storeV, zeros, Am.rowAt, Am.part, addOff, Nat.reduceAdd, Nat.reduceMul, Nat.reduceLeDiff, Nat.reduceSub, Nat.reduceLT, Int.reduceEq, Int.reduceLT, Int.reduceLE, Int.reduceGT, Int.reduceGE, Int.reduceAdd, Int.reduceSub, Int.reduceMul, Int.reduceNeg, Int.reduceToNat, reduceCtorEq, reduceIte]
  by_cases h1 : lo ≤ n
  · simp (disch := first | assumption | omega | (simp only [az]; done)) only [ru, eq_self, if_true, if_false, BEq.rfl, binI, AO.row?, splice, fillL, mmAll, loadV, storeV, zeros, Am.rowAt, Am.part, addOff, Nat.reduceAdd, Nat.reduceMul, Nat.reduceLeDiff, Nat.reduceSub, Nat.reduceLT, Int.reduceEq, Int.reduceLT, Int.reduceLE, Int.reduceGT, Int.reduceGE, Int.reduceAdd, Int.reduceSub, Int.reduceMul, Int.reduceNeg, Int.reduceToNat, reduceCtorEq, reduceIte, h1]
  · simp (disch := first | assumption | omega | (simp only [az]; done)) only [ru, eq_self, if_true, if_false, BEq.rfl, binI, AO.row?, splice, fillL, mmAll, loadV, storeV, zeros, Am.rowAt, Am.part, addOff, Nat.reduceAdd, Nat.reduceMul, Nat.reduceLeDiff, Nat.reduceSub, Nat.reduceLT, Int.reduceEq, Int.reduceLT, Int.reduceLE, Int.reduceGT, Int.reduceGE, Int.reduceAdd, Int.reduceSub, Int.reduceMul, Int.reduceNeg, Int.reduceToNat, reduceCtorEq, reduceIte, h1]
theorem t63 (n : Int) (st : Bool) : Iso E 63 [I n] st = some (Bo (inR n 0 400)) := by
  refine Iso_of (es _ _ _ _) e63 ?_
  simp only [f63]
  simp (disch := first | assumption | omega | (simp only [az]; done)) only [ru, eq_self, if_true, if_false, BEq.rfl, binI, AO.row?, splice, fillL, mmAll, loadV, storeV, zeros, Am.rowAt, Am.part, addOff, Nat.reduceAdd, Nat.reduceMul, Nat.reduceLeDiff, Nat.reduceSub, Nat.reduceLT, Int.reduceEq, Int.reduceLT, Int.reduceLE, Int.reduceGT, Int.reduceGE, Int.reduceAdd, Int.reduceSub, Int.reduceMul, Int.reduceNeg, Int.reduceToNat, reduceCtorEq, reduceIte, t91]
def payOk (n : Nat) (x : Py) : Bool := inR x.n 0 (n - 1) && inR x.p 0 400 && inR x.c 0 400
def fitE (C : List Nd) (b : Bool) (L : List Py) : Int := if cuB C = false then 100 else if 6 < L.length then 2 else if (b && L.all (payOk C.length)) = false then 1 else 0
section
variable {C : List Nd} {v : AV} (hv : IsSl 3 Nd.e C v) (hl : C.length ≤ 1000)
include hv hl
theorem t92 (st : Bool) : Iso E 92 [cuV v] st = some (Bo ((List.range C.length).all (upOk C))) := by
  refine Iso_of (es _ _ _ _) e92 ?_
  simp only [f92]
  simp (disch := first | assumption | omega | (simp only [az]; done)) only [ru, eq_self, if_true, if_false, BEq.rfl, binI, AO.row?, splice, fillL, mmAll, loadV, storeV, zeros, Am.rowAt, Am.part, addOff, Nat.reduceAdd, Nat.reduceMul, Nat.reduceLeDiff, Nat.reduceSub, Nat.reduceLT, Int.reduceEq, Int.reduceLT, Int.reduceLE, Int.reduceGT, Int.reduceGE, Int.reduceAdd, Int.reduceSub, Int.reduceMul, Int.reduceNeg, Int.reduceToNat, reduceCtorEq, reduceIte, lenV_sl hv, view_sl hv, scalar_sl hv, cells_sl hv, pure_sl hv]
  refine G_loop_ind (fun y ts hk mk => ∃ i : Nat, i ≤ C.length ∧ y = C.length - i ∧ (List.range i).all (upOk C) = true ∧ ts.length = 33 ∧ ts.getD 6 .undef = v ∧ ts.getD 7 .undef = I C.length ∧ ts.getD 8 .undef = I i ∧ mk = []) ?_ C.length _ _ _ ⟨0, Nat.zero_le _, rfl, rfl, rfl, rfl, rfl, rfl, rfl⟩
  rintro y ts hk mk ih ⟨i, hi, rfl, hall, hl', q6, q7, q8, rfl⟩
  rw [lit_all hl']
  simp only [lit0, litS, Nat.reduceAdd, q6, q7, q8]
  by_cases e : i = C.length
  · subst e
    have c1 : ¬ ((C.length : Nat) : Int) < C.length := by omega
    simp (disch := first | assumption | omega | (simp only [az]; done)) only [ru, eq_self, if_true, if_false, BEq.rfl, binI, AO.row?, splice, fillL, mmAll, loadV, storeV, zeros, Am.rowAt, Am.part, addOff, Nat.reduceAdd, Nat.reduceMul, Nat.reduceLeDiff, Nat.reduceSub, Nat.reduceLT, Int.reduceEq, Int.reduceLT, Int.reduceLE, Int.reduceGT, Int.reduceGE, Int.reduceAdd, Int.reduceSub, Int.reduceMul, Int.reduceNeg, Int.reduceToNat, reduceCtorEq, reduceIte, c1, hall]
  · have c1 : ((i : Nat) : Int) < C.length := by omega
    have no := fun hp => range_not (N := C.length) (p := upOk C) (show i < C.length by omega) hp
    have nx := fun hp => range_all_succ (p := upOk C) hall hp
    by_cases e0 : i = 0
    · have b0 : ((i : Int) == 0) = true := by simp [e0]
      have b2 : ¬ ((i : Int) > 0) := by omega
      by_cases eu : (ndA C i).up = -1
      · have b1 : ((ndA C i).up != -1) = false := by simp [eu]
        have hu : upOk C i = true := by unfold upOk; rw [if_pos e0]; simpa using eu
        simp (disch := first | assumption | omega | (simp only [az]; done)) only [ru, eq_self, if_true, if_false, BEq.rfl, binI, AO.row?, splice, fillL, mmAll, loadV, storeV, zeros, Am.rowAt, Am.part, addOff, Nat.reduceAdd, Nat.reduceMul, Nat.reduceLeDiff, Nat.reduceSub, Nat.reduceLT, Int.reduceEq, Int.reduceLT, Int.reduceLE, Int.reduceGT, Int.reduceGE, Int.reduceAdd, Int.reduceSub, Int.reduceMul, Int.reduceNeg, Int.reduceToNat, reduceCtorEq, reduceIte, c1, elem_nd hv, lenE, atT0, setT0, atT, Int.toNat_natCast, b0, b1, b2, decide_false, gUn]
        exact ih (C.length - (i + 1)) _ _ _ (by omega) ⟨i + 1, by omega, rfl, nx hu, rfl, rfl, rfl, rfl, rfl⟩
      · have b1 : ((ndA C i).up != -1) = true := by simp [eu]
        have hu : upOk C i = false := by unfold upOk; rw [if_pos e0]; simpa using eu
        simp (disch := first | assumption | omega | (simp only [az]; done)) only [ru, eq_self, if_true, if_false, BEq.rfl, binI, AO.row?, splice, fillL, mmAll, loadV, storeV, zeros, Am.rowAt, Am.part, addOff, Nat.reduceAdd, Nat.reduceMul, Nat.reduceLeDiff, Nat.reduceSub, Nat.reduceLT, Int.reduceEq, Int.reduceLT, Int.reduceLE, Int.reduceGT, Int.reduceGE, Int.reduceAdd, Int.reduceSub, Int.reduceMul, Int.reduceNeg, Int.reduceToNat, reduceCtorEq, reduceIte, c1, elem_nd hv, lenE, atT0, setT0, atT, Int.toNat_natCast, b0, b1, gUn, no hu]
    · have b0 : ((i : Int) == 0) = false := by simp [e0]
      have b1 : (i : Int) > 0 := by omega
      have ew := wr64 (n := (i : Int) - 1) (by omega) (by omega)
      cases hu : inR (ndA C i).up 0 ((i : Int) - 1) with
      | true =>
        have hu' : upOk C i = true := by unfold upOk; rw [if_neg e0]; exact hu
        simp (disch := first | assumption | omega | (simp only [az]; done)) only [ru, eq_self, if_true, if_false, BEq.rfl, binI, AO.row?, splice, fillL, mmAll, loadV, storeV, zeros, Am.rowAt, Am.part, addOff, Nat.reduceAdd, Nat.reduceMul, Nat.reduceLeDiff, Nat.reduceSub, Nat.reduceLT, Int.reduceEq, Int.reduceLT, Int.reduceLE, Int.reduceGT, Int.reduceGE, Int.reduceAdd, Int.reduceSub, Int.reduceMul, Int.reduceNeg, Int.reduceToNat, reduceCtorEq, reduceIte, c1, elem_nd hv, lenE, atT0, setT0, atT, Int.toNat_natCast, b0, b1, gUn, ew, t91, hu, Bool.not_true]
        exact ih (C.length - (i + 1)) _ _ _ (by omega) ⟨i + 1, by omega, rfl, nx hu', rfl, rfl, rfl, rfl, rfl⟩
      | false =>
        have hu' : upOk C i = false := by unfold upOk; rw [if_neg e0]; exact hu
        simp (disch := first | assumption | omega | (simp only [az]; done)) only [ru, eq_self, if_true, if_false, BEq.rfl, binI, AO.row?, splice, fillL, mmAll, loadV, storeV, zeros, Am.rowAt, Am.part, addOff, Nat.reduceAdd, Nat.reduceMul, Nat.reduceLeDiff, Nat.reduceSub, Nat.reduceLT, Int.reduceEq, Int.reduceLT, Int.reduceLE, Int.reduceGT, Int.reduceGE, Int.reduceAdd, Int.reduceSub, Int.reduceMul, Int.reduceNeg, Int.reduceToNat, reduceCtorEq, reduceIte, c1, elem_nd hv, lenE, atT0, setT0, atT, Int.toNat_natCast, b0, b1, gUn, ew, t91, hu, Bool.not_false, no hu']
omit hv hl in
theorem s94' (x : Nd) (h : List AO) : Ro E 94 [.agg [I x.up, I x.w, I x.f]] h = some (Bo (ndOk x)) := by
  refine Ro_of (es _ _ _ _) e94 ?_
  simp only [f94]
  unfold ndOk
  cases hw : inR x.w 0 9
  · simp (disch := first | assumption | omega | (simp only [az]; done)) only [ru, eq_self, if_true, if_false, BEq.rfl, binI, AO.row?, splice, fillL, mmAll, loadV, storeV, zeros, Am.rowAt, Am.part, addOff, Nat.reduceAdd, Nat.reduceMul, Nat.reduceLeDiff, Nat.reduceSub, Nat.reduceLT, Int.reduceEq, Int.reduceLT, Int.reduceLE, Int.reduceGT, Int.reduceGE, Int.reduceAdd, Int.reduceSub, Int.reduceMul, Int.reduceNeg, Int.reduceToNat, reduceCtorEq, reduceIte, lenE, atT0, setT0, atT, t91, hw, gUn, Bool.false_and]
    rfl
  · simp (disch := first | assumption | omega | (simp only [az]; done)) only [ru, eq_self, if_true, if_false, BEq.rfl, binI, AO.row?, splice, fillL, mmAll, loadV, storeV, zeros, Am.rowAt, Am.part, addOff, Nat.reduceAdd, Nat.reduceMul, Nat.reduceLeDiff, Nat.reduceSub, Nat.reduceLT, Int.reduceEq, Int.reduceLT, Int.reduceLE, Int.reduceGT, Int.reduceGE, Int.reduceAdd, Int.reduceSub, Int.reduceMul, Int.reduceNeg, Int.reduceToNat, reduceCtorEq, reduceIte, lenE, atT0, setT0, atT, t91, hw, gUn, Bool.true_and]
    rfl
theorem t60 (st : Bool) : Iso E 60 [cuV v] st = some (Bo (cuB C)) := by
  refine Iso_of (es _ _ _ _) e60 ?_
  simp only [f60]
  have hea := s93 hv hl (q := ndOk) (c := 94) (cap := []) (h := [AO.cells [v] false]) fun x X => s94' x _
  unfold cuB
  cases h1 : inR C.length 1 8
  · simp (disch := first | assumption | omega | (simp only [az]; done)) only [ru, eq_self, if_true, if_false, BEq.rfl, binI, AO.row?, splice, fillL, mmAll, loadV, storeV, zeros, Am.rowAt, Am.part, addOff, Nat.reduceAdd, Nat.reduceMul, Nat.reduceLeDiff, Nat.reduceSub, Nat.reduceLT, Int.reduceEq, Int.reduceLT, Int.reduceLE, Int.reduceGT, Int.reduceGE, Int.reduceAdd, Int.reduceSub, Int.reduceMul, Int.reduceNeg, Int.reduceToNat, reduceCtorEq, reduceIte, lenV_sl hv, view_sl hv, scalar_sl hv, cells_sl hv, pure_sl hv, t91, h1, gUn, Bool.false_and]
  · cases h2 : (List.range C.length).all (upOk C)
    · simp (disch := first | assumption | omega | (simp only [az]; done)) only [ru, eq_self, if_true, if_false, BEq.rfl, binI, AO.row?, splice, fillL, mmAll, loadV, storeV, zeros, Am.rowAt, Am.part, addOff, Nat.reduceAdd, Nat.reduceMul, Nat.reduceLeDiff, Nat.reduceSub, Nat.reduceLT, Int.reduceEq, Int.reduceLT, Int.reduceLE, Int.reduceGT, Int.reduceGE, Int.reduceAdd, Int.reduceSub, Int.reduceMul, Int.reduceNeg, Int.reduceToNat, reduceCtorEq, reduceIte, lenV_sl hv, view_sl hv, scalar_sl hv, cells_sl hv, pure_sl hv, t91, h1, t92 hv hl, h2, gUn, Bool.true_and, Bool.false_and]
    · simp (disch := first | assumption | omega | (simp only [az]; done)) only [ru, eq_self, if_true, if_false, BEq.rfl, binI, AO.row?, splice, fillL, mmAll, loadV, storeV, zeros, Am.rowAt, Am.part, addOff, Nat.reduceAdd, Nat.reduceMul, Nat.reduceLeDiff, Nat.reduceSub, Nat.reduceLT, Int.reduceEq, Int.reduceLT, Int.reduceLE, Int.reduceGT, Int.reduceGE, Int.reduceAdd, Int.reduceSub, Int.reduceMul, Int.reduceNeg, Int.reduceToNat, reduceCtorEq, reduceIte, lenV_sl hv, view_sl hv, scalar_sl hv, cells_sl hv, pure_sl hv, t91, h1, t92 hv hl, h2, gUn, Bool.true_and, hea]
theorem t70 (n : Int) (st : Bool) : Iso E 70 [cuV v, I n] st = some (Bo (inR n 0 (C.length - 1))) := by
  refine Iso_of (es _ _ _ _) e70 ?_
  simp only [f70]
  have ew := wr64 (n := (C.length : Int) - 1) (by omega) (by omega)
  simp (disch := first | assumption | omega | (simp only [az]; done)) only [ru, eq_self, if_true, if_false, BEq.rfl, binI, AO.row?, splice, fillL, mmAll, loadV, storeV, zeros, Am.rowAt, Am.part, addOff, Nat.reduceAdd, Nat.reduceMul, Nat.reduceLeDiff, Nat.reduceSub, Nat.reduceLT, Int.reduceEq, Int.reduceLT, Int.reduceLE, Int.reduceGT, Int.reduceGE, Int.reduceAdd, Int.reduceSub, Int.reduceMul, Int.reduceNeg, Int.reduceToNat, reduceCtorEq, reduceIte, lenV_sl hv, view_sl hv, scalar_sl hv, cells_sl hv, pure_sl hv, t91, ew]
omit hl in
theorem t64 : Iso E 64 [cuV v] false = some (cuV v) := by
  refine Iso_of (es _ _ _ _) e64 ?_
  simp only [f64]
  simp (disch := first | assumption | omega | (simp only [az]; done)) only [ru, eq_self, if_true, if_false, BEq.rfl, binI, AO.row?, splice, fillL, mmAll, loadV, storeV, zeros, Am.rowAt, Am.part, addOff, Nat.reduceAdd, Nat.reduceMul, Nat.reduceLeDiff, Nat.reduceSub, Nat.reduceLT, Int.reduceEq, Int.reduceLT, Int.reduceLE, Int.reduceGT, Int.reduceGE, Int.reduceAdd, Int.reduceSub, Int.reduceMul, Int.reduceNeg, Int.reduceToNat, reduceCtorEq, reduceIte, lenV_sl hv, view_sl hv, scalar_sl hv, cells_sl hv, pure_sl hv, finC, getRes, Option.some.injEq, exists_eq_left', view_agg]
theorem s95 {o : Nat} {h : List AO} (ho : h[o]? = some (.cells [v] false)) (x : Py) : Ro E 95 [.agg [I x.p, I x.n, I x.c], .ptr o 0] h = some (Bo (payOk C.length x)) := by
  refine Ro_of (es _ _ _ _) e95 ?_
  simp only [f95]
  have ho' : ∀ m, (h ++ m)[o]? = some (.cells [v] false) := fun m => at_up ho
  unfold payOk
  cases h1 : inR x.n 0 (C.length - 1)
  · simp (disch := first | assumption | omega | (simp only [az]; done)) only [ru, eq_self, if_true, if_false, BEq.rfl, binI, AO.row?, splice, fillL, mmAll, loadV, storeV, zeros, Am.rowAt, Am.part, addOff, Nat.reduceAdd, Nat.reduceMul, Nat.reduceLeDiff, Nat.reduceSub, Nat.reduceLT, Int.reduceEq, Int.reduceLT, Int.reduceLE, Int.reduceGT, Int.reduceGE, Int.reduceAdd, Int.reduceSub, Int.reduceMul, Int.reduceNeg, Int.reduceToNat, reduceCtorEq, reduceIte, lenV_sl hv, view_sl hv, scalar_sl hv, cells_sl hv, pure_sl hv, lenE, atT0, setT0, atT, ho', t70 hv hl, t63, h1, gUn, Bool.false_and]
    rfl
  · cases h2 : inR x.p 0 400
    · simp (disch := first | assumption | omega | (simp only [az]; done)) only [ru, eq_self, if_true, if_false, BEq.rfl, binI, AO.row?, splice, fillL, mmAll, loadV, storeV, zeros, Am.rowAt, Am.part, addOff, Nat.reduceAdd, Nat.reduceMul, Nat.reduceLeDiff, Nat.reduceSub, Nat.reduceLT, Int.reduceEq, Int.reduceLT, Int.reduceLE, Int.reduceGT, Int.reduceGE, Int.reduceAdd, Int.reduceSub, Int.reduceMul, Int.reduceNeg, Int.reduceToNat, reduceCtorEq, reduceIte, lenV_sl hv, view_sl hv, scalar_sl hv, cells_sl hv, pure_sl hv, lenE, atT0, setT0, atT, ho', t70 hv hl, t63, h1, h2, gUn, Bool.false_and, Bool.true_and]
      rfl
    · simp (disch := first | assumption | omega | (simp only [az]; done)) only [ru, eq_self, if_true, if_false, BEq.rfl, binI, AO.row?, splice, fillL, mmAll, loadV, storeV, zeros, Am.rowAt, Am.part, addOff, Nat.reduceAdd, Nat.reduceMul, Nat.reduceLeDiff, Nat.reduceSub, Nat.reduceLT, Int.reduceEq, Int.reduceLT, Int.reduceLE, Int.reduceGT, Int.reduceGE, Int.reduceAdd, Int.reduceSub, Int.reduceMul, Int.reduceNeg, Int.reduceToNat, reduceCtorEq, reduceIte, lenV_sl hv, view_sl hv, scalar_sl hv, cells_sl hv, pure_sl hv, lenE, atT0, setT0, atT, ho', t70 hv hl, t63, h1, h2, gUn, Bool.true_and]
      rfl
theorem t62 (b : Bool) {L : List Py} {pv : AV} (V : IsSl 3 Py.e L pv) (hL : L.length ≤ 1000) (st : Bool) : Iso E 62 [cuV v, Bo b, pv] st = some (I (fitE C b L)) := by
  refine Iso_of (es _ _ _ _) e62 ?_
  simp only [f62]
  have hea := s96 V hL (q := payOk C.length) (c := 95) (cap := [.ptr 0 0]) (h := [AO.cells [v] false]) fun x _ X => s95 hv hl (by rfl) x
  unfold fitE
  cases h1 : cuB C
  · simp (disch := first | assumption | omega | (simp only [az]; done)) only [ru, eq_self, if_true, if_false, BEq.rfl, binI, AO.row?, splice, fillL, mmAll, loadV, storeV, zeros, Am.rowAt, Am.part, addOff, Nat.reduceAdd, Nat.reduceMul, Nat.reduceLeDiff, Nat.reduceSub, Nat.reduceLT, Int.reduceEq, Int.reduceLT, Int.reduceLE, Int.reduceGT, Int.reduceGE, Int.reduceAdd, Int.reduceSub, Int.reduceMul, Int.reduceNeg, Int.reduceToNat, reduceCtorEq, reduceIte, lenV_sl hv, view_sl hv, scalar_sl hv, cells_sl hv, pure_sl hv, lenV_sl V, view_sl V, scalar_sl V, cells_sl V, pure_sl V, t60 hv hl, h1, Bool.not_false]
  · by_cases h2 : 6 < L.length
    · have h2' : (L.length : Int) > 6 := by omega
      simp (disch := first | assumption | omega | (simp only [az]; done)) only [ru, eq_self, if_true, if_false, BEq.rfl, binI, AO.row?, splice, fillL, mmAll, loadV, storeV, zeros, Am.rowAt, Am.part, addOff, Nat.reduceAdd, Nat.reduceMul, Nat.reduceLeDiff, Nat.reduceSub, Nat.reduceLT, Int.reduceEq, Int.reduceLT, Int.reduceLE, Int.reduceGT, Int.reduceGE, Int.reduceAdd, Int.reduceSub, Int.reduceMul, Int.reduceNeg, Int.reduceToNat, reduceCtorEq, reduceIte, lenV_sl hv, view_sl hv, scalar_sl hv, cells_sl hv, pure_sl hv, lenV_sl V, view_sl V, scalar_sl V, cells_sl V, pure_sl V, t60 hv hl, h1, Bool.not_true, h2, h2']
    · have h2' : ¬ (L.length : Int) > 6 := by omega
      cases b
      · simp (disch := first | assumption | omega | (simp only [az]; done)) only [ru, eq_self, if_true, if_false, BEq.rfl, binI, AO.row?, splice, fillL, mmAll, loadV, storeV, zeros, Am.rowAt, Am.part, addOff, Nat.reduceAdd, Nat.reduceMul, Nat.reduceLeDiff, Nat.reduceSub, Nat.reduceLT, Int.reduceEq, Int.reduceLT, Int.reduceLE, Int.reduceGT, Int.reduceGE, Int.reduceAdd, Int.reduceSub, Int.reduceMul, Int.reduceNeg, Int.reduceToNat, reduceCtorEq, reduceIte, lenV_sl hv, view_sl hv, scalar_sl hv, cells_sl hv, pure_sl hv, lenV_sl V, view_sl V, scalar_sl V, cells_sl V, pure_sl V, t60 hv hl, h1, Bool.not_true, Bool.not_false, h2, h2', gUn, Bool.false_and]
      · cases h3 : L.all (payOk C.length)
        · rw [h3] at hea
          simp (disch := first | assumption | omega | (simp only [az]; done)) only [ru, eq_self, if_true, if_false, BEq.rfl, binI, AO.row?, splice, fillL, mmAll, loadV, storeV, zeros, Am.rowAt, Am.part, addOff, Nat.reduceAdd, Nat.reduceMul, Nat.reduceLeDiff, Nat.reduceSub, Nat.reduceLT, Int.reduceEq, Int.reduceLT, Int.reduceLE, Int.reduceGT, Int.reduceGE, Int.reduceAdd, Int.reduceSub, Int.reduceMul, Int.reduceNeg, Int.reduceToNat, reduceCtorEq, reduceIte, lenV_sl hv, view_sl hv, scalar_sl hv, cells_sl hv, pure_sl hv, lenV_sl V, view_sl V, scalar_sl V, cells_sl V, pure_sl V, t60 hv hl, h1, Bool.not_true, Bool.not_false, h2, h2', gUn, Bool.true_and, hea]
        · rw [h3] at hea
          simp (disch := first | assumption | omega | (simp only [az]; done)) only [ru, eq_self, if_true, if_false, BEq.rfl, binI, AO.row?, splice, fillL, mmAll, loadV, storeV, zeros, Am.rowAt, Am.part, addOff, Nat.reduceAdd, Nat.reduceMul, Nat.reduceLeDiff, Nat.reduceSub, Nat.reduceLT, Int.reduceEq, Int.reduceLT, Int.reduceLE, Int.reduceGT, Int.reduceGE, Int.reduceAdd, Int.reduceSub, Int.reduceMul, Int.reduceNeg, Int.reduceToNat, reduceCtorEq, reduceIte, lenV_sl hv, view_sl hv, scalar_sl hv, cells_sl hv, pure_sl hv, lenV_sl V, view_sl V, scalar_sl V, cells_sl V, pure_sl V, t60 hv hl, h1, Bool.not_true, Bool.not_false, h2, h2', gUn, Bool.true_and, hea]
theorem t19 (st : Bool) : Iso E 19 [cuV v] st = some (I (if cuB C = true then 0 else 100)) := by
  refine Iso_of (es _ _ _ _) e19 ?_
  simp only [f19]
  cases h1 : cuB C
  · simp (disch := first | assumption | omega | (simp only [az]; done)) only [ru, eq_self, if_true, if_false, BEq.rfl, binI, AO.row?, splice, fillL, mmAll, loadV, storeV, zeros, Am.rowAt, Am.part, addOff, Nat.reduceAdd, Nat.reduceMul, Nat.reduceLeDiff, Nat.reduceSub, Nat.reduceLT, Int.reduceEq, Int.reduceLT, Int.reduceLE, Int.reduceGT, Int.reduceGE, Int.reduceAdd, Int.reduceSub, Int.reduceMul, Int.reduceNeg, Int.reduceToNat, reduceCtorEq, reduceIte, lenV_sl hv, view_sl hv, scalar_sl hv, cells_sl hv, pure_sl hv, t60 hv hl, h1, Bool.not_false]
  · simp (disch := first | assumption | omega | (simp only [az]; done)) only [ru, eq_self, if_true, if_false, BEq.rfl, binI, AO.row?, splice, fillL, mmAll, loadV, storeV, zeros, Am.rowAt, Am.part, addOff, Nat.reduceAdd, Nat.reduceMul, Nat.reduceLeDiff, Nat.reduceSub, Nat.reduceLT, Int.reduceEq, Int.reduceLT, Int.reduceLE, Int.reduceGT, Int.reduceGE, Int.reduceAdd, Int.reduceSub, Int.reduceMul, Int.reduceNeg, Int.reduceToNat, reduceCtorEq, reduceIte, lenV_sl hv, view_sl hv, scalar_sl hv, cells_sl hv, pure_sl hv, t60 hv hl, h1, Bool.not_true]
end
end Go.Proofs.Ytaeijjfgfenfhaa.S

/-
What the program answers of all nodes: Gets, Keeps, Split.
-/
namespace Go.Proofs.Ytaeijjfgfenfhaa.S
open Go Go.Am Go.Proofs.Ytaeijjfgfenfhaa.T
set_option maxRecDepth 100000
set_option linter.unusedSimpArgs false
set_option linter.unusedVariables false

/-- what all nodes get, keep; the error beside it -/
def gL (C : List Nd) (p : Int) : List Int := (List.range C.length).map (gG C p)
def kL (C : List Nd) (p : Int) : List Int := (List.range C.length).map (kK C p)
def sL (C : List Nd) (i p : Int) : List Int := (bl C i C.length).map (spv C i p)
def ansL (e : Int) (l : List Int) : AV := .tup [resL (if e = 0 then l else []), I e]
theorem fit_ok {C : List Nd} {b : Bool} {L : List Py} (h : fitE C b L = 0) : CuOk C ∧ b = true ∧ L.length ≤ 6 ∧ ∀ x ∈ L, payOk C.length x = true := by
  unfold fitE at h
  split at h
  · omega
  · rename_i h1
    split at h
    · omega
    · rename_i h2
      split at h
      · omega
      · rename_i h3
        simp only [Bool.not_eq_false, Bool.and_eq_true, List.all_eq_true] at h1 h3
        exact ⟨cuOk_iff.1 h1, h3.1, by omega, h3.2⟩
theorem val_all {g : Nat → Int} {n : Nat} : valN (fun j => some (g j)) n = (List.range n).map g := by
  unfold valN keyN
  rw [List.filter_eq_self.2 (by simp)]
  exact List.map_congr_left fun j _ => rfl
theorem val_sp {C : List Nd} {i p : Int} : valN (spF C i p) C.length = sL C i p := by
  unfold valN keyN sL bl
  have : ((List.range C.length).filter fun j => (spF C i p j).isSome) = (List.range C.length).filter fun j => decide ((ndA C j).up = i) := by
    refine List.filter_congr fun j _ => ?_
    unfold spF; split <;> simp [*]
  rw [this]
  refine List.map_congr_left fun j hj => ?_
  simp only [List.mem_filter, decide_eq_true_eq] at hj
  unfold spF; rw [if_pos hj.2]; rfl
section
variable {C : List Nd} {v : AV} (hv : IsSl 3 Nd.e C v) (hl : C.length ≤ 1000)
include hv hl
theorem t21s (p : Int) (st : Bool) : Iso E 21 [cuV v, I p] st = some (ansL (fitE C (inR p 0 400) []) (gL C p)) := by
  refine Iso_of (es _ _ _ _) e21 ?_
  simp only [f21]
  have hf := fun st => t62 hv hl (inR p 0 400) (L := []) (pv := .nils) (.inr ⟨rfl, rfl⟩) (Nat.zero_le _) st
  unfold ansL
  by_cases h0 : fitE C (inR p 0 400) [] = 0
  · obtain ⟨H, hb, _, _⟩ := fit_ok h0
    rw [inR_iff] at hb
    obtain ⟨J, hc, h1, h2⟩ := C65 hv H hb.1 (by omega) [AO.cells [v] false]
    have h1' : (AO.cells [v] false :: J)[2]? = some (.mpo KI (mapOf (fun j => some (gG C p j)) C.length)) := h1
    obtain ⟨w, g, hr, b, ho⟩ := r66 (lim := 0) h1' (lit_mapOf (by have := H.n8; omega) fun j z hj hz => by cases hz; have := gG_bd H hb.1 j hj; omega) (Nat.zero_le _) (by omega)
    rw [val_all] at ho
    have hb0 : (fitE C (inR p 0 400) [] != 0) = false := by simp [h0]
    have hb1 : ((0 : Int) != 0) = false := rfl
    rw [h0] at hf ⊢
    simp (disch := first | assumption | omega | (simp only [az]; done)) only [ru, eq_self, if_true, if_false, BEq.rfl, binI, AO.row?, splice, fillL, mmAll, loadV, storeV, zeros, Am.rowAt, Am.part, addOff, Nat.reduceAdd, Nat.reduceMul, Nat.reduceLeDiff, Nat.reduceSub, Nat.reduceLT, Int.reduceEq, Int.reduceLT, Int.reduceLE, Int.reduceGT, Int.reduceGE, Int.reduceAdd, Int.reduceSub, Int.reduceMul, Int.reduceNeg, Int.reduceToNat, reduceCtorEq, reduceIte, lenV_sl hv, view_sl hv, scalar_sl hv, cells_sl hv, pure_sl hv, t63, hf, hb1, t64 hv, exOp_call2, hc, List.length_cons, List.length_nil, exOp_call0, hr, ho.viewL]
    rfl
  · have hb0 : (fitE C (inR p 0 400) [] != 0) = true := by simp [h0]
    simp (disch := first | assumption | omega | (simp only [az]; done)) only [ru, eq_self, if_true, if_false, BEq.rfl, binI, AO.row?, splice, fillL, mmAll, loadV, storeV, zeros, Am.rowAt, Am.part, addOff, Nat.reduceAdd, Nat.reduceMul, Nat.reduceLeDiff, Nat.reduceSub, Nat.reduceLT, Int.reduceEq, Int.reduceLT, Int.reduceLE, Int.reduceGT, Int.reduceGE, Int.reduceAdd, Int.reduceSub, Int.reduceMul, Int.reduceNeg, Int.reduceToNat, reduceCtorEq, reduceIte, lenV_sl hv, view_sl hv, scalar_sl hv, cells_sl hv, pure_sl hv, t63, hf, hb0, h0]
    rfl
theorem t21 (p : Int) : Iso E 21 [cuV v, I p] false = some (ansL (fitE C (inR p 0 400) []) (gL C p)) := t21s hv hl p false
theorem t23 (p : Int) : Iso E 23 [cuV v, I p] false = some (ansL (fitE C (inR p 0 400) []) (kL C p)) := by
  refine Iso_of (es _ _ _ _) e23 ?_
  simp only [f23]
  have hf := fun st => t62 hv hl (inR p 0 400) (L := []) (pv := .nils) (.inr ⟨rfl, rfl⟩) (Nat.zero_le _) st
  unfold ansL
  by_cases h0 : fitE C (inR p 0 400) [] = 0
  · obtain ⟨H, hb, _, _⟩ := fit_ok h0
    rw [inR_iff] at hb
    obtain ⟨J, hc, h1, h2⟩ := C65 hv H hb.1 (by omega) [AO.cells [v] false]
    have h1' : (AO.cells [v] false :: J)[3]? = some (.mpo KI (mapOf (fun j => some (kK C p j)) C.length)) := h2
    obtain ⟨w, g, hr, b, ho⟩ := r66 (lim := 0) h1' (lit_mapOf (by have := H.n8; omega) fun j z hj hz => by cases hz; have := kK_bd H hb.1 hj; omega) (Nat.zero_le _) (by omega)
    rw [val_all] at ho
    have hb0 : (fitE C (inR p 0 400) [] != 0) = false := by simp [h0]
    have hb1 : ((0 : Int) != 0) = false := rfl
    rw [h0] at hf ⊢
    simp (disch := first | assumption | omega | (simp only [az]; done)) only [ru, eq_self, if_true, if_false, BEq.rfl, binI, AO.row?, splice, fillL, mmAll, loadV, storeV, zeros, Am.rowAt, Am.part, addOff, Nat.reduceAdd, Nat.reduceMul, Nat.reduceLeDiff, Nat.reduceSub, Nat.reduceLT, Int.reduceEq, Int.reduceLT, Int.reduceLE, Int.reduceGT, Int.reduceGE, Int.reduceAdd, Int.reduceSub, Int.reduceMul, Int.reduceNeg, Int.reduceToNat, reduceCtorEq, reduceIte, lenV_sl hv, view_sl hv, scalar_sl hv, cells_sl hv, pure_sl hv, t63, hf, hb1, t64 hv, exOp_call2, hc, List.length_cons, List.length_nil, exOp_call0, hr, ho.viewL]
    rfl
  · have hb0 : (fitE C (inR p 0 400) [] != 0) = true := by simp [h0]
    simp (disch := first | assumption | omega | (simp only [az]; done)) only [ru, eq_self, if_true, if_false, BEq.rfl, binI, AO.row?, splice, fillL, mmAll, loadV, storeV, zeros, Am.rowAt, Am.part, addOff, Nat.reduceAdd, Nat.reduceMul, Nat.reduceLeDiff, Nat.reduceSub, Nat.reduceLT, Int.reduceEq, Int.reduceLT, Int.reduceLE, Int.reduceGT, Int.reduceGE, Int.reduceAdd, Int.reduceSub, Int.reduceMul, Int.reduceNeg, Int.reduceToNat, reduceCtorEq, reduceIte, lenV_sl hv, view_sl hv, scalar_sl hv, cells_sl hv, pure_sl hv, t63, hf, hb0, h0]
    rfl
/-- the answer of Split -/
def ansS (e : Int) (l : List Int) (k : Int) : AV := .tup [resL (if e = 0 then l else []), I (if e = 0 then k else 0), I e]
theorem t25 (i p : Int) : Iso E 25 [cuV v, I i, I p] false = some (ansS (fitE C (inR i 0 (C.length - 1) && inR p 0 400) []) (sL C i p) (spk C i p)) := by
  refine Iso_of (es _ _ _ _) e25 ?_
  simp only [f25]
  have hf := fun b st => t62 hv hl b (L := []) (pv := .nils) (.inr ⟨rfl, rfl⟩) (Nat.zero_le _) st
  unfold ansS
  cases hi : inR i 0 (C.length - 1)
  · have h0 : fitE C false [] ≠ 0 := by
      intro h; have := (fit_ok h).2.1; cases this
    have hb0 : (fitE C false [] != 0) = true := by simp [h0]
    simp only [Bool.false_and]
    simp (disch := first | assumption | omega | (simp only [az]; done)) only [ru, eq_self, if_true, if_false, BEq.rfl, binI, AO.row?, splice, fillL, mmAll, loadV, storeV, zeros, Am.rowAt, Am.part, addOff, Nat.reduceAdd, Nat.reduceMul, Nat.reduceLeDiff, Nat.reduceSub, Nat.reduceLT, Int.reduceEq, Int.reduceLT, Int.reduceLE, Int.reduceGT, Int.reduceGE, Int.reduceAdd, Int.reduceSub, Int.reduceMul, Int.reduceNeg, Int.reduceToNat, reduceCtorEq, reduceIte, lenV_sl hv, view_sl hv, scalar_sl hv, cells_sl hv, pure_sl hv, t63, t70 hv hl, hi, gUn, hf, hb0, h0, fin3]
    rfl
  · simp only [Bool.true_and]
    by_cases h0 : fitE C (inR p 0 400) [] = 0
    · obtain ⟨H, hb, _, _⟩ := fit_ok h0
      rw [inR_iff] at hb hi
      have hi' : inR i 0 (C.length - 1) = true := inR_iff.2 hi
      obtain ⟨q, rfl⟩ : ∃ q : Nat, i = q := ⟨i.toNat, by omega⟩
      obtain ⟨J, hc, h1⟩ := C71 hv H (m := q) hb.1 (by omega) [AO.cells [v] false]
      have h1' : (AO.cells [v] false :: J)[4]? = some (.mpo KI (mapOf (spF C q p) C.length)) := h1
      obtain ⟨w, g, hr, b, ho⟩ := r66 (lim := 0) h1' (lit_s H hb.1 (by omega)) (Nat.zero_le _) (by omega)
      rw [val_sp] at ho
      have hb1 : ((0 : Int) != 0) = false := rfl
      have hf0 := fun st => hf (inR p 0 400) st
      rw [h0] at hf0 ⊢
      simp (disch := first | assumption | omega | (simp only [az]; done)) only [ru, eq_self, if_true, if_false, BEq.rfl, binI, AO.row?, splice, fillL, mmAll, loadV, storeV, zeros, Am.rowAt, Am.part, addOff, Nat.reduceAdd, Nat.reduceMul, Nat.reduceLeDiff, Nat.reduceSub, Nat.reduceLT, Int.reduceEq, Int.reduceLT, Int.reduceLE, Int.reduceGT, Int.reduceGE, Int.reduceAdd, Int.reduceSub, Int.reduceMul, Int.reduceNeg, Int.reduceToNat, reduceCtorEq, reduceIte, lenV_sl hv, view_sl hv, scalar_sl hv, cells_sl hv, pure_sl hv, t63, t70 hv hl, hi', gUn, hf0, hb1, t64 hv, exOp_call2, hc, List.length_cons, List.length_nil, exOp_call0, hr, ho.viewL, fin3]
    · have hb0 : (fitE C (inR p 0 400) [] != 0) = true := by simp [h0]
      simp (disch := first | assumption | omega | (simp only [az]; done)) only [ru, eq_self, if_true, if_false, BEq.rfl, binI, AO.row?, splice, fillL, mmAll, loadV, storeV, zeros, Am.rowAt, Am.part, addOff, Nat.reduceAdd, Nat.reduceMul, Nat.reduceLeDiff, Nat.reduceSub, Nat.reduceLT, Int.reduceEq, Int.reduceLT, Int.reduceLE, Int.reduceGT, Int.reduceGE, Int.reduceAdd, Int.reduceSub, Int.reduceMul, Int.reduceNeg, Int.reduceToNat, reduceCtorEq, reduceIte, lenV_sl hv, view_sl hv, scalar_sl hv, cells_sl hv, pure_sl hv, t63, t70 hv hl, hi, gUn, hf, hb0, h0, fin3]
      rfl
end
end Go.Proofs.Ytaeijjfgfenfhaa.S

/-
The least number of which something is so: From, Falls, Enough.
-/
namespace Go.Proofs.Ytaeijjfgfenfhaa.S
open Go Go.Am Go.Proofs.Ytaeijjfgfenfhaa.T
set_option maxRecDepth 100000
set_option linter.unusedSimpArgs false
set_option linter.unusedVariables false

def frN (last : Nat) (q : Nat → Bool) : Int := match (List.range (last + 1)).find? q with
  | some n => n
  | none => 0
def frE (last : Nat) (q : Nat → Bool) : Int := match (List.range (last + 1)).find? q with
  | some _ => 0
  | none => 3
def frA (last : Nat) (q : Nat → Bool) : AV := .tup [I (frN last q), I (frE last q)]
theorem find_none {q : Nat → Bool} {i : Nat} (h : (List.range i).find? q = none) (hq : q i = false) : (List.range (i + 1)).find? q = none := by
  rw [List.range_succ, List.find?_append, h]; simp [hq]
theorem find_some {q : Nat → Bool} {i n : Nat} (h : (List.range i).find? q = none) (hi : i < n) (hq : q i = true) : (List.range n).find? q = some i := by
  obtain ⟨k, rfl⟩ : ∃ k, n = i + 1 + k := ⟨n - (i + 1), by omega⟩
  have : List.range (i + 1 + k) = List.range (i + 1) ++ (List.range k).map (i + 1 + ·) := List.range_add
  rw [this, List.find?_append, List.range_succ, List.find?_append, h]; simp [hq]
theorem s73 {last k : Nat} {q : Nat → Bool} {cap : List AV} {h : List AO} (hlast : last ≤ 1000) (hq : ∀ x : Nat, x ≤ last → Ro E k (I x :: cap) h = some (Bo (q x))) : Ro E 73 [I last, .fn k [] cap] h = some (frA last q) := by
  refine Ro_of (es _ _ _ _) e73 ?_
  simp only [f73]
  have ew := wr64 (n := (last : Int) + 1) (by omega) (by omega)
  simp (disch := first | assumption | omega | (simp only [az]; done)) only [ru, eq_self, if_true, if_false, BEq.rfl, binI, AO.row?, splice, fillL, mmAll, loadV, storeV, zeros, Am.rowAt, Am.part, addOff, Nat.reduceAdd, Nat.reduceMul, Nat.reduceLeDiff, Nat.reduceSub, Nat.reduceLT, Int.reduceEq, Int.reduceLT, Int.reduceLE, Int.reduceGT, Int.reduceGE, Int.reduceAdd, Int.reduceSub, Int.reduceMul, Int.reduceNeg, Int.reduceToNat, reduceCtorEq, reduceIte, ew]
  refine G_loop_ind (fun m ts hh mk => ∃ i : Nat, i ≤ last + 1 ∧ m = last + 1 - i ∧ (List.range i).find? q = none ∧ ts.length = 17 ∧ ts.getD 1 .undef = .fn k [] cap ∧ ts.getD 8 .undef = I ((last : Int) + 1) ∧ ts.getD 9 .undef = I i ∧ hh = h ∧ mk = []) ?_ (last + 1) _ _ _ ⟨0, Nat.zero_le _, rfl, rfl, rfl, rfl, rfl, rfl, rfl, rfl⟩
  rintro m ts hh mk ih ⟨i, hi, rfl, hall, hl', q1, q8, q9, rfl, rfl⟩
  rw [lit_all hl']
  simp only [lit0, litS, Nat.reduceAdd, q1, q8, q9]
  by_cases hlt : (i : Int) < (last : Int) + 1
  · have hr := hq i (by omega)
    cases hc : q i
    · rw [hc] at hr
      simp (disch := first | assumption | omega | (simp only [az]; done)) only [ru, eq_self, if_true, if_false, BEq.rfl, binI, AO.row?, splice, fillL, mmAll, loadV, storeV, zeros, Am.rowAt, Am.part, addOff, Nat.reduceAdd, Nat.reduceMul, Nat.reduceLeDiff, Nat.reduceSub, Nat.reduceLT, Int.reduceEq, Int.reduceLT, Int.reduceLE, Int.reduceGT, Int.reduceGE, Int.reduceAdd, Int.reduceSub, Int.reduceMul, Int.reduceNeg, Int.reduceToNat, reduceCtorEq, reduceIte, hlt, exOp_callv1, List.nil_append, List.cons_append, hr]
      exact ih (last + 1 - (i + 1)) _ _ _ (by omega) ⟨i + 1, by omega, rfl, find_none hall hc, rfl, rfl, rfl, rfl, rfl, rfl⟩
    · rw [hc] at hr
      simp (disch := first | assumption | omega | (simp only [az]; done)) only [ru, eq_self, if_true, if_false, BEq.rfl, binI, AO.row?, splice, fillL, mmAll, loadV, storeV, zeros, Am.rowAt, Am.part, addOff, Nat.reduceAdd, Nat.reduceMul, Nat.reduceLeDiff, Nat.reduceSub, Nat.reduceLT, Int.reduceEq, Int.reduceLT, Int.reduceLE, Int.reduceGT, Int.reduceGE, Int.reduceAdd, Int.reduceSub, Int.reduceMul, Int.reduceNeg, Int.reduceToNat, reduceCtorEq, reduceIte, hlt, exOp_callv1, List.nil_append, List.cons_append, hr]
      unfold frA frN frE; rw [find_some hall (by omega) hc]; exact ⟨rfl, rfl⟩
  · obtain rfl : i = last + 1 := by omega
    simp (disch := first | assumption | omega | (simp only [az]; done)) only [ru, eq_self, if_true, if_false, BEq.rfl, binI, AO.row?, splice, fillL, mmAll, loadV, storeV, zeros, Am.rowAt, Am.part, addOff, Nat.reduceAdd, Nat.reduceMul, Nat.reduceLeDiff, Nat.reduceSub, Nat.reduceLT, Int.reduceEq, Int.reduceLT, Int.reduceLE, Int.reduceGT, Int.reduceGE, Int.reduceAdd, Int.reduceSub, Int.reduceMul, Int.reduceNeg, Int.reduceToNat, reduceCtorEq, reduceIte, hlt]
    unfold frA frN frE; rw [hall]; exact ⟨rfl, rfl⟩
def ansN (e : Int) (v : AV) : AV := if e = 0 then v else .tup [I 0, I e]
section
variable {C : List Nd} {v : AV} (hv : IsSl 3 Nd.e C v) (hl : C.length ≤ 1000)
include hv
theorem s74 (H : CuOk C) {a b c : Nat} {h : List AO} {j : Nat} {co : Int} (ha : h[a]? = some (.cells [v] false)) (hb : h[b]? = some (.cells [I j] false)) (hc : h[c]? = some (.cells [I co] false)) (hj : j < C.length) {p : Nat} (hp : p ≤ 1000) : Ro E 74 [I p, .ptr a 0, .ptr b 0, .ptr c 0] h = some (Bo (decide (gG C p j ≥ co))) := by
  refine Ro_of (es _ _ _ _) e74 ?_
  simp only [f74]
  simp (disch := first | assumption | omega | (simp only [az]; done)) only [ru, eq_self, if_true, if_false, BEq.rfl, binI, AO.row?, splice, fillL, mmAll, loadV, storeV, zeros, Am.rowAt, Am.part, addOff, Nat.reduceAdd, Nat.reduceMul, Nat.reduceLeDiff, Nat.reduceSub, Nat.reduceLT, Int.reduceEq, Int.reduceLT, Int.reduceLE, Int.reduceGT, Int.reduceGE, Int.reduceAdd, Int.reduceSub, Int.reduceMul, Int.reduceNeg, Int.reduceToNat, reduceCtorEq, reduceIte, lenV_sl hv, view_sl hv, scalar_sl hv, cells_sl hv, pure_sl hv, ha, hb, hc, t75 hv H hj (p := (p : Int)) (by omega) (by omega)]
  rfl
theorem s76 (H : CuOk C) {a b : Nat} {h : List AO} {j : Nat} (ha : h[a]? = some (.cells [v] false)) (hb : h[b]? = some (.cells [I j] false)) (hj : j < C.length) {p : Nat} (hp : p ≤ 999) : Ro E 76 [I p, .ptr a 0, .ptr b 0] h = some (Bo (decide (gG C p j > gG C (p + 1) j))) := by
  refine Ro_of (es _ _ _ _) e76 ?_
  simp only [f76]
  have ew := wr64 (n := (p : Int) + 1) (by omega) (by omega)
  simp (disch := first | assumption | omega | (simp only [az]; done)) only [ru, eq_self, if_true, if_false, BEq.rfl, binI, AO.row?, splice, fillL, mmAll, loadV, storeV, zeros, Am.rowAt, Am.part, addOff, Nat.reduceAdd, Nat.reduceMul, Nat.reduceLeDiff, Nat.reduceSub, Nat.reduceLT, Int.reduceEq, Int.reduceLT, Int.reduceLE, Int.reduceGT, Int.reduceGE, Int.reduceAdd, Int.reduceSub, Int.reduceMul, Int.reduceNeg, Int.reduceToNat, reduceCtorEq, reduceIte, lenV_sl hv, view_sl hv, scalar_sl hv, cells_sl hv, pure_sl hv, ha, hb, ew, t75 hv H hj (p := (p : Int)) (by omega) (by omega), t75 hv H hj (p := (p : Int) + 1) (by omega) (by omega)]
  rfl
include hl
theorem t29 (i c : Int) (st : Bool) : Iso E 29 [cuV v, I i, I c] st = some (ansN (fitE C (inR i 0 (C.length - 1) && inR c 0 400) []) (frA 400 fun p => decide (gG C p i.toNat ≥ c))) := by
  refine Iso_of (es _ _ _ _) e29 ?_
  simp only [f29]
  have hf := fun b st => t62 hv hl b (L := []) (pv := .nils) (.inr ⟨rfl, rfl⟩) (Nat.zero_le _) st
  unfold ansN
  have fin : ∀ e : Int, e ≠ 0 → (e != 0) = true := fun e he => by simp [he]
  cases hi : inR i 0 (C.length - 1)
  · have h0 : fitE C false [] ≠ 0 := by
      intro h; have := (fit_ok h).2.1; cases this
    have hb0 := fin _ h0
    simp only [Bool.false_and]
    simp (disch := first | assumption | omega | (simp only [az]; done)) only [ru, eq_self, if_true, if_false, BEq.rfl, binI, AO.row?, splice, fillL, mmAll, loadV, storeV, zeros, Am.rowAt, Am.part, addOff, Nat.reduceAdd, Nat.reduceMul, Nat.reduceLeDiff, Nat.reduceSub, Nat.reduceLT, Int.reduceEq, Int.reduceLT, Int.reduceLE, Int.reduceGT, Int.reduceGE, Int.reduceAdd, Int.reduceSub, Int.reduceMul, Int.reduceNeg, Int.reduceToNat, reduceCtorEq, reduceIte, lenV_sl hv, view_sl hv, scalar_sl hv, cells_sl hv, pure_sl hv, t63, t70 hv hl, hi, gUn, hf, hb0, h0]
  · simp only [Bool.true_and]
    by_cases h0 : fitE C (inR c 0 400) [] = 0
    · obtain ⟨H, hb, _, _⟩ := fit_ok h0
      have hi' := inR_iff.1 hi
      obtain ⟨j, rfl⟩ : ∃ q : Nat, i = q := ⟨i.toNat, by omega⟩
      have hb1 : ((0 : Int) != 0) = false := rfl
      have hf0 := fun st => hf (inR c 0 400) st
      rw [h0] at hf0 ⊢
      have hs : Ro E 73 [I 400, .fn 74 [] [.ptr 3 0, .ptr 1 0, .ptr 2 0]] [AO.cells [v] false, .cells [I j] false, .cells [I c] false, .cells [v] false] = _ := s73 (last := 400) (by omega) fun x hx => s74 hv H (a := 3) (b := 1) (c := 2) rfl rfl rfl (by omega) (p := x) (by omega)
      simp (disch := first | assumption | omega | (simp only [az]; done)) only [ru, eq_self, if_true, if_false, BEq.rfl, binI, AO.row?, splice, fillL, mmAll, loadV, storeV, zeros, Am.rowAt, Am.part, addOff, Nat.reduceAdd, Nat.reduceMul, Nat.reduceLeDiff, Nat.reduceSub, Nat.reduceLT, Int.reduceEq, Int.reduceLT, Int.reduceLE, Int.reduceGT, Int.reduceGE, Int.reduceAdd, Int.reduceSub, Int.reduceMul, Int.reduceNeg, Int.reduceToNat, reduceCtorEq, reduceIte, lenV_sl hv, view_sl hv, scalar_sl hv, cells_sl hv, pure_sl hv, t63, t70 hv hl, hi, gUn, hf0, hb1, t64 hv, hs, frA]
      rfl
    · have hb0 := fin _ h0
      simp (disch := first | assumption | omega | (simp only [az]; done)) only [ru, eq_self, if_true, if_false, BEq.rfl, binI, AO.row?, splice, fillL, mmAll, loadV, storeV, zeros, Am.rowAt, Am.part, addOff, Nat.reduceAdd, Nat.reduceMul, Nat.reduceLeDiff, Nat.reduceSub, Nat.reduceLT, Int.reduceEq, Int.reduceLT, Int.reduceLE, Int.reduceGT, Int.reduceGE, Int.reduceAdd, Int.reduceSub, Int.reduceMul, Int.reduceNeg, Int.reduceToNat, reduceCtorEq, reduceIte, lenV_sl hv, view_sl hv, scalar_sl hv, cells_sl hv, pure_sl hv, t63, t70 hv hl, hi, gUn, hf, hb0, h0]
theorem t31 (i : Int) (st : Bool) : Iso E 31 [cuV v, I i] st = some (ansN (fitE C (inR i 0 (C.length - 1)) []) (frA 399 fun p => decide (gG C p i.toNat > gG C (p + 1) i.toNat))) := by
  refine Iso_of (es _ _ _ _) e31 ?_
  simp only [f31]
  have hf := fun b st => t62 hv hl b (L := []) (pv := .nils) (.inr ⟨rfl, rfl⟩) (Nat.zero_le _) st
  unfold ansN
  by_cases h0 : fitE C (inR i 0 (C.length - 1)) [] = 0
  · obtain ⟨H, hi, _, _⟩ := fit_ok h0
    have hi' := inR_iff.1 hi
    obtain ⟨j, rfl⟩ : ∃ q : Nat, i = q := ⟨i.toNat, by omega⟩
    have hb1 : ((0 : Int) != 0) = false := rfl
    have hf0 := fun st => hf (inR j 0 (C.length - 1)) st
    rw [h0] at hf0 ⊢
    have hs : Ro E 73 [I 399, .fn 76 [] [.ptr 2 0, .ptr 1 0]] [AO.cells [v] false, .cells [I j] false, .cells [v] false] = _ := s73 (last := 399) (by omega) fun x hx => s76 hv H (a := 2) (b := 1) rfl rfl (by omega) (p := x) (by omega)
    simp (disch := first | assumption | omega | (simp only [az]; done)) only [ru, eq_self, if_true, if_false, BEq.rfl, binI, AO.row?, splice, fillL, mmAll, loadV, storeV, zeros, Am.rowAt, Am.part, addOff, Nat.reduceAdd, Nat.reduceMul, Nat.reduceLeDiff, Nat.reduceSub, Nat.reduceLT, Int.reduceEq, Int.reduceLT, Int.reduceLE, Int.reduceGT, Int.reduceGE, Int.reduceAdd, Int.reduceSub, Int.reduceMul, Int.reduceNeg, Int.reduceToNat, reduceCtorEq, reduceIte, lenV_sl hv, view_sl hv, scalar_sl hv, cells_sl hv, pure_sl hv, t63, t70 hv hl, hf0, hb1, t64 hv, hs, frA]
    rfl
  · have hb0 : (fitE C (inR i 0 (C.length - 1)) [] != 0) = true := by simp [h0]
    simp (disch := first | assumption | omega | (simp only [az]; done)) only [ru, eq_self, if_true, if_false, BEq.rfl, binI, AO.row?, splice, fillL, mmAll, loadV, storeV, zeros, Am.rowAt, Am.part, addOff, Nat.reduceAdd, Nat.reduceMul, Nat.reduceLeDiff, Nat.reduceSub, Nat.reduceLT, Int.reduceEq, Int.reduceLT, Int.reduceLE, Int.reduceGT, Int.reduceGE, Int.reduceAdd, Int.reduceSub, Int.reduceMul, Int.reduceNeg, Int.reduceToNat, reduceCtorEq, reduceIte, lenV_sl hv, view_sl hv, scalar_sl hv, cells_sl hv, pure_sl hv, t63, t70 hv hl, hf, hb0, h0]
/-! enough -/
def eno (C : List Nd) (p : Int) (L : List Int) : Bool := (List.range L.length).all fun j => decide (L.getD j 0 ≤ kK C p j)
omit hl in
theorem t81 (H : CuOk C) {L : List Int} {lv : AV} (V : IsSl 1 intL L lv) (hL : L.length = C.length) {p : Int} (hp : 0 ≤ p) (hp2 : p ≤ 1000) (st : Bool) : Iso E 81 [cuV v, I p, lv] st = some (Bo (eno C p L)) := by
  refine Iso_of (es _ _ _ _) e81 ?_
  simp only [f81]
  obtain ⟨J, hc, h1, h2⟩ := C65 hv H hp hp2 [AO.cells [v] false]
  have h2' : (AO.cells [v] false :: J)[3]? = some (.mpo KI (mapOf (fun j => some (kK C p j)) C.length)) := h2
  have n8 := H.n8
  simp (disch := first | assumption | omega | (simp only [az]; done)) only [ru, eq_self, if_true, if_false, BEq.rfl, binI, AO.row?, splice, fillL, mmAll, loadV, storeV, zeros, Am.rowAt, Am.part, addOff, Nat.reduceAdd, Nat.reduceMul, Nat.reduceLeDiff, Nat.reduceSub, Nat.reduceLT, Int.reduceEq, Int.reduceLT, Int.reduceLE, Int.reduceGT, Int.reduceGE, Int.reduceAdd, Int.reduceSub, Int.reduceMul, Int.reduceNeg, Int.reduceToNat, reduceCtorEq, reduceIte, lenV_sl hv, view_sl hv, scalar_sl hv, cells_sl hv, pure_sl hv, lenV_sl V, elem_in V, view_sl V, scalar_sl V, cells_sl V, pure_sl V, Int.toNat_natCast, exOp_call2, hc, List.length_cons, List.length_nil]
  refine G_loop_ind (fun y ts hk mk => ∃ i : Nat, i ≤ L.length ∧ y = L.length - i ∧ (List.range i).all (fun j => decide (L.getD j 0 ≤ kK C p j)) = true ∧ hk = AO.cells [v] false :: J ∧ ts.length = 30 ∧ ts.getD 8 .undef = .mp 3 ∧ ts.getD 17 .undef = lv ∧ ts.getD 18 .undef = I L.length ∧ ts.getD 19 .undef = I i ∧ mk = []) ?_ L.length _ _ _ ⟨0, Nat.zero_le _, rfl, rfl, rfl, rfl, rfl, rfl, rfl, rfl, rfl⟩
  rintro y ts hk mk ih ⟨i, hi, rfl, hall, rfl, hl', q8, q17, q18, q19, rfl⟩
  rw [lit_all hl']
  simp only [lit0, litS, Nat.reduceAdd, q8, q17, q18, q19]
  by_cases hlt : (i : Int) < L.length
  · have no := fun hp => range_not (N := L.length) (p := fun j => decide (L.getD j 0 ≤ kK C p j)) (show i < L.length by omega) hp
    have nx := fun hp => range_all_succ (p := fun j => decide (L.getD j 0 ≤ kK C p j)) hall hp
    have hf := (gK_find (C := C) (p := p) (j := i) (by omega)).2
    by_cases c : kK C p i < L.getD i 0
    · have no' : eno C p L = false := no (decide_eq_false (by omega))
      simp (disch := first | assumption | omega | (simp only [az]; done)) only [ru, eq_self, if_true, if_false, BEq.rfl, binI, AO.row?, splice, fillL, mmAll, loadV, storeV, zeros, Am.rowAt, Am.part, addOff, Nat.reduceAdd, Nat.reduceMul, Nat.reduceLeDiff, Nat.reduceSub, Nat.reduceLT, Int.reduceEq, Int.reduceLT, Int.reduceLE, Int.reduceGT, Int.reduceGE, Int.reduceAdd, Int.reduceSub, Int.reduceMul, Int.reduceNeg, Int.reduceToNat, reduceCtorEq, reduceIte, hlt, lenV_sl V, elem_in V, view_sl V, scalar_sl V, cells_sl V, pure_sl V, Int.toNat_natCast, rmp, mapGet_at h2', hf, Option.getD_some, c, no']
    · simp (disch := first | assumption | omega | (simp only [az]; done)) only [ru, eq_self, if_true, if_false, BEq.rfl, binI, AO.row?, splice, fillL, mmAll, loadV, storeV, zeros, Am.rowAt, Am.part, addOff, Nat.reduceAdd, Nat.reduceMul, Nat.reduceLeDiff, Nat.reduceSub, Nat.reduceLT, Int.reduceEq, Int.reduceLT, Int.reduceLE, Int.reduceGT, Int.reduceGE, Int.reduceAdd, Int.reduceSub, Int.reduceMul, Int.reduceNeg, Int.reduceToNat, reduceCtorEq, reduceIte, hlt, lenV_sl V, elem_in V, view_sl V, scalar_sl V, cells_sl V, pure_sl V, Int.toNat_natCast, rmp, mapGet_at h2', hf, Option.getD_some, c]
      exact ih (L.length - (i + 1)) _ _ _ (by omega) ⟨i + 1, by omega, rfl, nx (decide_eq_true (by omega)), rfl, rfl, rfl, rfl, rfl, rfl, rfl⟩
  · obtain rfl : i = L.length := by omega
    have ye : eno C p L = true := hall
    simp (disch := first | assumption | omega | (simp only [az]; done)) only [ru, eq_self, if_true, if_false, BEq.rfl, binI, AO.row?, splice, fillL, mmAll, loadV, storeV, zeros, Am.rowAt, Am.part, addOff, Nat.reduceAdd, Nat.reduceMul, Nat.reduceLeDiff, Nat.reduceSub, Nat.reduceLT, Int.reduceEq, Int.reduceLT, Int.reduceLE, Int.reduceGT, Int.reduceGE, Int.reduceAdd, Int.reduceSub, Int.reduceMul, Int.reduceNeg, Int.reduceToNat, reduceCtorEq, reduceIte, hlt, ye]
omit hl in
theorem s80 (H : CuOk C) {a b : Nat} {h : List AO} {L : List Int} {lv : AV} (V : IsSl 1 intL L lv) (hL : L.length = C.length) (ha : h[a]? = some (.cells [v] false)) (hb : h[b]? = some (.cells [lv] false)) {p : Nat} (hp : p ≤ 1000) : Ro E 80 [I p, .ptr a 0, .ptr b 0] h = some (Bo (eno C p L)) := by
  refine Ro_of (es _ _ _ _) e80 ?_
  simp only [f80]
  simp (disch := first | assumption | omega | (simp only [az]; done)) only [ru, eq_self, if_true, if_false, BEq.rfl, binI, AO.row?, splice, fillL, mmAll, loadV, storeV, zeros, Am.rowAt, Am.part, addOff, Nat.reduceAdd, Nat.reduceMul, Nat.reduceLeDiff, Nat.reduceSub, Nat.reduceLT, Int.reduceEq, Int.reduceLT, Int.reduceLE, Int.reduceGT, Int.reduceGE, Int.reduceAdd, Int.reduceSub, Int.reduceMul, Int.reduceNeg, Int.reduceToNat, reduceCtorEq, reduceIte, lenV_sl hv, view_sl hv, scalar_sl hv, cells_sl hv, pure_sl hv, lenV_sl V, elem_in V, view_sl V, scalar_sl V, cells_sl V, pure_sl V, Int.toNat_natCast, ha, hb, t81 hv H V hL (p := (p : Int)) (by omega) (by omega)]
  rfl
omit hv hl in
theorem s63 (x : Int) (h : List AO) : Ro E 63 [I x] h = some (Bo (inR x 0 400)) := by
  refine Ro_of (es _ _ _ _) e63 ?_
  simp only [f63]
  simp (disch := first | assumption | omega | (simp only [az]; done)) only [ru, eq_self, if_true, if_false, BEq.rfl, binI, AO.row?, splice, fillL, mmAll, loadV, storeV, zeros, Am.rowAt, Am.part, addOff, Nat.reduceAdd, Nat.reduceMul, Nat.reduceLeDiff, Nat.reduceSub, Nat.reduceLT, Int.reduceEq, Int.reduceLT, Int.reduceLE, Int.reduceGT, Int.reduceGE, Int.reduceAdd, Int.reduceSub, Int.reduceMul, Int.reduceNeg, Int.reduceToNat, reduceCtorEq, reduceIte, t91]
  rfl
def coB (C : List Nd) (L : List Int) : Bool := decide (L.length = C.length) && L.all fun x => inR x 0 400
theorem t35 {L : List Int} {lv : AV} (V : IsSl 1 intL L lv) (hL : L.length ≤ 1000) (st : Bool) : Iso E 35 [cuV v, lv] st = some (ansN (fitE C (coB C L) []) (frA 400 fun p => eno C p L)) := by
  refine Iso_of (es _ _ _ _) e35 ?_
  simp only [f35]
  have hf := fun b st => t62 hv hl b (L := []) (pv := .nils) (.inr ⟨rfl, rfl⟩) (Nat.zero_le _) st
  have hea := s79 V hL (q := fun x => inR x 0 400) (c := 63) (cap := []) (h := [AO.cells [v] false, .cells [lv] false]) fun x X => s63 x _
  unfold ansN
  have fin : ∀ e : Int, e ≠ 0 → (e != 0) = true := fun e he => by simp [he]
  by_cases e1 : L.length = C.length
  · have e1' : ((L.length : Int) == C.length) = true := by simp [e1]
    have ec : coB C L = L.all fun x => inR x 0 400 := by unfold coB; simp [e1]
    rw [ec]
    by_cases h0 : fitE C (L.all fun x => inR x 0 400) [] = 0
    · obtain ⟨H, _, _, _⟩ := fit_ok h0
      have hb1 : ((0 : Int) != 0) = false := rfl
      have hf0 := fun st => hf (L.all fun x => inR x 0 400) st
      rw [h0] at hf0 ⊢
      have hs : Ro E 73 [I 400, .fn 80 [] [.ptr 2 0, .ptr 1 0]] [AO.cells [v] false, .cells [lv] false, .cells [v] false] = _ := s73 (last := 400) (by omega) fun x hx => s80 hv H V e1 (a := 2) (b := 1) rfl rfl (p := x) (by omega)
      simp (disch := first | assumption | omega | (simp only [az]; done)) only [ru, eq_self, if_true, if_false, BEq.rfl, binI, AO.row?, splice, fillL, mmAll, loadV, storeV, zeros, Am.rowAt, Am.part, addOff, Nat.reduceAdd, Nat.reduceMul, Nat.reduceLeDiff, Nat.reduceSub, Nat.reduceLT, Int.reduceEq, Int.reduceLT, Int.reduceLE, Int.reduceGT, Int.reduceGE, Int.reduceAdd, Int.reduceSub, Int.reduceMul, Int.reduceNeg, Int.reduceToNat, reduceCtorEq, reduceIte, lenV_sl hv, view_sl hv, scalar_sl hv, cells_sl hv, pure_sl hv, lenV_sl V, elem_in V, view_sl V, scalar_sl V, cells_sl V, pure_sl V, Int.toNat_natCast, e1', gUn, hea, hf0, hb1, t64 hv, hs, frA]
    · have hb0 := fin _ h0
      simp (disch := first | assumption | omega | (simp only [az]; done)) only [ru, eq_self, if_true, if_false, BEq.rfl, binI, AO.row?, splice, fillL, mmAll, loadV, storeV, zeros, Am.rowAt, Am.part, addOff, Nat.reduceAdd, Nat.reduceMul, Nat.reduceLeDiff, Nat.reduceSub, Nat.reduceLT, Int.reduceEq, Int.reduceLT, Int.reduceLE, Int.reduceGT, Int.reduceGE, Int.reduceAdd, Int.reduceSub, Int.reduceMul, Int.reduceNeg, Int.reduceToNat, reduceCtorEq, reduceIte, lenV_sl hv, view_sl hv, scalar_sl hv, cells_sl hv, pure_sl hv, lenV_sl V, elem_in V, view_sl V, scalar_sl V, cells_sl V, pure_sl V, Int.toNat_natCast, e1', gUn, hea, hf, hb0, h0]
  · have e1' : ((L.length : Int) == C.length) = false := by simp; omega
    have ec : coB C L = false := by unfold coB; simp [e1]
    rw [ec]
    have h0 : fitE C false [] ≠ 0 := by
      intro h; have := (fit_ok h).2.1; cases this
    have hb0 := fin _ h0
    simp (disch := first | assumption | omega | (simp only [az]; done)) only [ru, eq_self, if_true, if_false, BEq.rfl, binI, AO.row?, splice, fillL, mmAll, loadV, storeV, zeros, Am.rowAt, Am.part, addOff, Nat.reduceAdd, Nat.reduceMul, Nat.reduceLeDiff, Nat.reduceSub, Nat.reduceLT, Int.reduceEq, Int.reduceLT, Int.reduceLE, Int.reduceGT, Int.reduceGE, Int.reduceAdd, Int.reduceSub, Int.reduceMul, Int.reduceNeg, Int.reduceToNat, reduceCtorEq, reduceIte, lenV_sl hv, view_sl hv, scalar_sl hv, cells_sl hv, pure_sl hv, lenV_sl V, elem_in V, view_sl V, scalar_sl V, cells_sl V, pure_sl V, Int.toNat_natCast, e1', gUn, hf, hb0, h0]
end
end Go.Proofs.Ytaeijjfgfenfhaa.S

/-
Old payments: Wrong, Weights, Ask.
-/
namespace Go.Proofs.Ytaeijjfgfenfhaa.S
open Go Go.Am Go.Proofs.Ytaeijjfgfenfhaa.T
set_option maxRecDepth 100000
set_option linter.unusedSimpArgs false
set_option linter.unusedVariables false

/-- agrees with a payment -/
def agr (C : List Nd) (x : Py) : Bool := decide (gG C x.p x.n.toNat = x.c)
/-- another weight of a node -/
def wth (C : List Nd) (j : Nat) (w : Int) : List Nd := C.set j { ndA C j with w := w }
theorem wth_len {C : List Nd} {j : Nat} {w : Int} : (wth C j w).length = C.length := by simp [wth]
theorem wth_at {C : List Nd} {j i : Nat} {w : Int} (hj : j < C.length) : ndA (wth C j w) i = if i = j then { ndA C j with w := w } else ndA C i := by
  unfold ndA wth
  simp only [List.getD_eq_getElem?_getD]
  by_cases e : i = j
  · subst e; rw [if_pos rfl, List.getElem?_set_self hj]; rfl
  · rw [if_neg e, List.getElem?_set_ne (Ne.symm e)]
theorem wth_ok {C : List Nd} (H : CuOk C) {j : Nat} {w : Int} (hj : j < C.length) (hw : 0 ≤ w ∧ w ≤ 9) : CuOk (wth C j w) := by
  have hup : ∀ i, (ndA (wth C j w) i).up = (ndA C i).up := fun i => by rw [wth_at hj]; split <;> simp [*]
  have hf : ∀ i, (ndA (wth C j w) i).f = (ndA C i).f := fun i => by rw [wth_at hj]; split <;> simp [*]
  refine ⟨by rw [wth_len]; exact H.n1, by rw [wth_len]; exact H.n8, by rw [hup]; exact H.top, fun i h1 h2 => by rw [hup]; exact H.up i h1 (by rwa [wth_len] at h2), fun i hi => ?_, fun i hi => by rw [hf]; exact H.f i (by rwa [wth_len] at hi)⟩
  rw [wth_at hj]
  split
  · exact hw
  · exact H.w i (by rwa [wth_len] at hi)
theorem nd_put {C : List Nd} {j : Nat} {w : Int} (hj : j < C.length) : (C.flatMap Nd.e).take (j * 3 + 1) ++ [I w] ++ (C.flatMap Nd.e).drop (j * 3 + 1 + 1) = (wth C j w).flatMap Nd.e := by
  unfold wth ndA
  induction C generalizing j with
  | nil => simp at hj
  | cons a C ih =>
    cases j with
    | zero => rfl
    | succ j =>
      have := ih (j := j) (by simpa using hj)
      rw [show (j + 1) * 3 + 1 = (j * 3 + 1) + 3 by omega]
      simp only [List.flatMap_cons, Nd.e, List.cons_append, List.nil_append, List.take_succ_cons, List.drop_succ_cons, List.set_cons_succ, List.getD_cons_succ] at this ⊢
      rw [← this]
section
variable {C : List Nd} {v : AV} (hv : IsSl 3 Nd.e C v) (H : CuOk C)
include hv H
theorem s117 {o : Nat} {h : List AO} (ho : h[o]? = some (.cells [v] false)) {x : Py} (hx : payOk C.length x = true) : Ro E 117 [.agg [I x.p, I x.n, I x.c], .ptr o 0] h = some (Bo (agr C x)) := by
  simp only [payOk, Bool.and_eq_true, inR_iff] at hx
  obtain ⟨⟨⟨n0, n1⟩, p0, p1⟩, _⟩ := hx
  have e : x.n = (x.n.toNat : Int) := by omega
  have hg := t75 hv H (j := x.n.toNat) (by omega) p0 (by omega)
  rw [← e] at hg
  refine Ro_of (es _ _ _ _) e117 ?_
  simp only [f117]
  have ho' : ∀ m, (h ++ m)[o]? = some (.cells [v] false) := fun m => at_up ho
  have ea : (gG C x.p x.n.toNat == x.c) = agr C x := by unfold agr; by_cases c : gG C x.p x.n.toNat = x.c <;> simp [c]
  simp (disch := first | assumption | omega | (simp only [az]; done)) only [ru, eq_self, if_true, if_false, BEq.rfl, binI, AO.row?, splice, fillL, mmAll, loadV, storeV, zeros, Am.rowAt, Am.part, addOff, Nat.reduceAdd, Nat.reduceMul, Nat.reduceLeDiff, Nat.reduceSub, Nat.reduceLT, Int.reduceEq, Int.reduceLT, Int.reduceLE, Int.reduceGT, Int.reduceGE, Int.reduceAdd, Int.reduceSub, Int.reduceMul, Int.reduceNeg, Int.reduceToNat, reduceCtorEq, reduceIte, lenV_sl hv, view_sl hv, scalar_sl hv, cells_sl hv, pure_sl hv, lenE, atT0, setT0, atT, ho', hg, ea]
  rfl
theorem t105 {L : List Py} {pv : AV} (V : IsSl 3 Py.e L pv) (hL : L.length ≤ 1000) (hp : ∀ x ∈ L, payOk C.length x = true) (st : Bool) : Iso E 105 [cuV v, pv] st = some (Bo (L.all (agr C))) := by
  refine Iso_of (es _ _ _ _) e105 ?_
  simp only [f105]
  have hea := s96 V hL (q := agr C) (c := 117) (cap := [.ptr 0 0]) (h := [AO.cells [v] false]) fun x hx X => s117 hv H (by rfl) (hp x hx)
  simp (disch := first | assumption | omega | (simp only [az]; done)) only [ru, eq_self, if_true, if_false, BEq.rfl, binI, AO.row?, splice, fillL, mmAll, loadV, storeV, zeros, Am.rowAt, Am.part, addOff, Nat.reduceAdd, Nat.reduceMul, Nat.reduceLeDiff, Nat.reduceSub, Nat.reduceLT, Int.reduceEq, Int.reduceLT, Int.reduceLE, Int.reduceGT, Int.reduceGE, Int.reduceAdd, Int.reduceSub, Int.reduceMul, Int.reduceNeg, Int.reduceToNat, reduceCtorEq, reduceIte, lenV_sl hv, view_sl hv, scalar_sl hv, cells_sl hv, pure_sl hv, lenV_sl V, view_sl V, scalar_sl V, cells_sl V, pure_sl V, hea]
def wrL (C : List Nd) (L : List Py) (k : Nat) : List Int := ofN ((List.range k).filter fun i => !agr C (L.getD i default))
omit hv H in
theorem wrL_succ {L : List Py} {k : Nat} : wrL C L (k + 1) = if agr C (L.getD k default) = true then wrL C L k else wrL C L k ++ [(k : Int)] := by
  unfold wrL ofN
  rw [List.range_succ, List.filter_append, List.map_append]
  simp only [List.filter_cons, List.filter_nil]
  cases agr C (L.getD k default) <;> simp
set_option maxHeartbeats 1000000 in
theorem t83 {L : List Py} {pv : AV} (V : IsSl 3 Py.e L pv) (hL : L.length ≤ 1000) (hp : ∀ x ∈ L, payOk C.length x = true) (st : Bool) : Iso E 83 [cuV v, pv] st = some (resL (wrL C L L.length)) := by
  refine Iso_of (es _ _ _ _) e83 ?_
  simp only [f83]
  simp (disch := first | assumption | omega | (simp only [az]; done)) only [ru, eq_self, if_true, if_false, BEq.rfl, binI, AO.row?, splice, fillL, mmAll, loadV, storeV, zeros, Am.rowAt, Am.part, addOff, Nat.reduceAdd, Nat.reduceMul, Nat.reduceLeDiff, Nat.reduceSub, Nat.reduceLT, Int.reduceEq, Int.reduceLT, Int.reduceLE, Int.reduceGT, Int.reduceGE, Int.reduceAdd, Int.reduceSub, Int.reduceMul, Int.reduceNeg, Int.reduceToNat, reduceCtorEq, reduceIte, lenV_sl hv, view_sl hv, scalar_sl hv, cells_sl hv, pure_sl hv, lenV_sl V, view_sl V, scalar_sl V, cells_sl V, pure_sl V]
  obtain ⟨pre, hpre⟩ : ∃ pre, pre = [AO.cells [v] false] := ⟨_, rfl⟩
  have hp0 : ∀ m : List AO, (pre ++ m)[0]? = some (.cells [v] false) := fun m => by rw [hpre]; rfl
  have hpl : pre.length = 1 := by rw [hpre]; rfl
  refine G_loop_ind (fun y ts hk mk => ∃ (i : Nat) (J : List AO), i ≤ L.length ∧ y = L.length - i ∧ hk = pre ++ J ∧ OutE intL 1 pre.length (pre ++ J) (ts.getD 5 .undef) (wrL C L i) ∧ ts.length = 26 ∧ ts.getD 2 .undef = .ptr 0 0 ∧ ts.getD 8 .undef = pv ∧ ts.getD 9 .undef = I L.length ∧ ts.getD 10 .undef = I i ∧ mk = []) ?_ L.length _ _ _ ⟨0, [], Nat.zero_le _, rfl, by rw [hpre]; rfl, .inl ⟨rfl, rfl⟩, rfl, rfl, rfl, rfl, rfl, rfl⟩
  rintro y ts hk mk ih ⟨i, J, hi, rfl, rfl, ho, hl', q2, q8, q9, q10, rfl⟩
  rw [lit_all hl']
  obtain ⟨w, hw⟩ : ∃ w, w = ts.getD 5 .undef := ⟨_, rfl⟩
  rw [← hw] at ho
  have hw' := hw.symm
  simp only [lit0, litS, Nat.reduceAdd, q2, q8, q9, q10, hw']
  by_cases hlt : (i : Int) < L.length
  · obtain ⟨x, hx⟩ : ∃ x, x = L.getD i default := ⟨_, rfl⟩
    have hxm : x ∈ L := by rw [hx]; exact getD_mem (by omega)
    have h105 := fun st => t105 hv H (L := [x]) (pv := .cs 3 1 [I x.p, I x.n, I x.c]) (.inl rfl) (by simp) (fun y hy => by rw [List.mem_singleton] at hy; subst hy; exact hp y hxm) st
    have e1 : [x].all (agr C) = agr C x := by simp
    rw [e1] at h105
    have hlen : (wrL C L i).length ≤ 1000 := by unfold wrL; rw [ofN_len]; exact Nat.le_trans (List.length_filter_le _ _) (by simp; omega)
    have up : ∀ m, OutE intL 1 pre.length (pre ++ (J ++ m)) w (wrL C L i) := by
      intro m
      rcases ho with ⟨a, b⟩ | ⟨a, o, b, c, d⟩
      · exact .inl ⟨a, b⟩
      · exact .inr ⟨a, o, b, c, by rw [← List.append_assoc]; exact at_up d⟩
    have at0' : ∀ m : List AO, (pre ++ (J ++ m))[0]? = some (.cells [v] false) := fun m => hp0 _
    cases hc : agr C x with
    | true =>
      rw [hc] at h105
      have e2 : wrL C L (i + 1) = wrL C L i := by rw [wrL_succ, ← hx, if_pos hc]
      simp (disch := first | assumption | omega | (simp only [az]; done)) only [ru, eq_self, if_true, if_false, BEq.rfl, binI, AO.row?, splice, fillL, mmAll, loadV, storeV, zeros, Am.rowAt, Am.part, addOff, Nat.reduceAdd, Nat.reduceMul, Nat.reduceLeDiff, Nat.reduceSub, Nat.reduceLT, Int.reduceEq, Int.reduceLT, Int.reduceLE, Int.reduceGT, Int.reduceGE, Int.reduceAdd, Int.reduceSub, Int.reduceMul, Int.reduceNeg, Int.reduceToNat, reduceCtorEq, reduceIte, hlt, lenV_sl hv, view_sl hv, scalar_sl hv, cells_sl hv, pure_sl hv, lenV_sl V, view_sl V, scalar_sl V, cells_sl V, pure_sl V, elem_py V, Int.toNat_natCast, ← hx, lenE, List.append_assoc, hp0, atT0, setT0, atT, setT, exOp_litS, h105, Bool.not_true]
      exact ih (L.length - (i + 1)) _ _ _ (by omega) ⟨i + 1, _, by omega, rfl, rfl, by rw [e2]; exact up _, rfl, rfl, rfl, rfl, rfl, rfl⟩
    | false =>
      rw [hc] at h105
      have e2 : wrL C L (i + 1) = wrL C L i ++ [(i : Int)] := by rw [wrL_succ, ← hx, if_neg (by rw [hc]; simp)]
      obtain ⟨v', J', ha, ho'⟩ := outE_app (pre := pre) (J := J ++ [AO.cells [I x.p, I x.n, I x.c] false]) (eb := 8) (lim := 0) intE intSc (by omega) (by omega) (by omega) (up _) (Nat.zero_le _) (by omega) (i : Int)
      simp (disch := first | assumption | omega | (simp only [az]; done)) only [ru, eq_self, if_true, if_false, BEq.rfl, binI, AO.row?, splice, fillL, mmAll, loadV, storeV, zeros, Am.rowAt, Am.part, addOff, Nat.reduceAdd, Nat.reduceMul, Nat.reduceLeDiff, Nat.reduceSub, Nat.reduceLT, Int.reduceEq, Int.reduceLT, Int.reduceLE, Int.reduceGT, Int.reduceGE, Int.reduceAdd, Int.reduceSub, Int.reduceMul, Int.reduceNeg, Int.reduceToNat, reduceCtorEq, reduceIte, hlt, lenV_sl hv, view_sl hv, scalar_sl hv, cells_sl hv, pure_sl hv, lenV_sl V, view_sl V, scalar_sl V, cells_sl V, pure_sl V, elem_py V, Int.toNat_natCast, ← hx, lenE, List.append_assoc, hp0, atT0, setT0, atT, setT, exOp_litS, h105, Bool.not_false, ha]
      exact ih (L.length - (i + 1)) _ _ _ (by omega) ⟨i + 1, J', by omega, rfl, rfl, by rw [e2]; exact ho', rfl, rfl, rfl, rfl, rfl, rfl⟩
  · obtain rfl : i = L.length := by omega
    simp (disch := first | assumption | omega | (simp only [az]; done)) only [ru, eq_self, if_true, if_false, BEq.rfl, binI, AO.row?, splice, fillL, mmAll, loadV, storeV, zeros, Am.rowAt, Am.part, addOff, Nat.reduceAdd, Nat.reduceMul, Nat.reduceLeDiff, Nat.reduceSub, Nat.reduceLT, Int.reduceEq, Int.reduceLT, Int.reduceLE, Int.reduceGT, Int.reduceGE, Int.reduceAdd, Int.reduceSub, Int.reduceMul, Int.reduceNeg, Int.reduceToNat, reduceCtorEq, reduceIte, hlt, ho.viewL]
omit H in
theorem r118 (h1 : 1 ≤ C.length) (hl : C.length ≤ 1000) (h : List AO) : ∃ o J, C2 E 118 [v] h = some (.ms 3 (o + h.length) 0 C.length, h ++ J) ∧ (h ++ J)[o + h.length]? = some (.cells (C.flatMap Nd.e) false) := by
  have key : ∃ r J, R E (.fn 118) [v] [] 0 = some (r, J) ∧ ∃ o, r = .ms 3 o 0 C.length ∧ J[o]? = some (.cells (C.flatMap Nd.e) false) := by
    refine R_of _ (es _ _ _ _) e118 ?_
    simp only [f118]
    obtain ⟨n, c, hn⟩ := isNil_ne hv (by omega)
    obtain ⟨o, J, ha, _, _, ho⟩ := cpyO (h := []) (lim := 0) (eb := 24) hv Nd.el Nd.sc (by omega) (by omega) (Nat.zero_le _)
    subst hn
    simp only [List.nil_append, List.length_nil] at ha
    simp (disch := first | assumption | omega | (simp only [az]; done)) only [ru, eq_self, if_true, if_false, BEq.rfl, binI, AO.row?, splice, fillL, mmAll, loadV, storeV, zeros, Am.rowAt, Am.part, addOff, Nat.reduceAdd, Nat.reduceMul, Nat.reduceLeDiff, Nat.reduceSub, Nat.reduceLT, Int.reduceEq, Int.reduceLT, Int.reduceLE, Int.reduceGT, Int.reduceGE, Int.reduceAdd, Int.reduceSub, Int.reduceMul, Int.reduceNeg, Int.reduceToNat, reduceCtorEq, reduceIte, lenV_sl hv, view_sl hv, scalar_sl hv, cells_sl hv, pure_sl hv, pex_isNil, ha, List.nil_append, List.length_nil]
    exact ⟨o, rfl, ho⟩
  obtain ⟨r, J, hr, o, rfl, ho⟩ := key
  have hpu : AV.pureV.go [v] = true := by
    have := pure_sl hv
    simp only [AV.pureV.go, this, Bool.and_true]
  refine ⟨o, _, C2_of hpu hr, ?_⟩
  rw [Nat.add_comm, List.getElem?_append_right (by omega), Nat.add_sub_cancel_left, List.getElem?_map, ho]
  show some (AO.cells ((C.flatMap Nd.e).map (AV.shift h.length)) false) = _
  congr 2
  have : ∀ (C : List Nd), (C.flatMap Nd.e).map (AV.shift h.length) = C.flatMap Nd.e := by
    intro C
    induction C with
    | nil => rfl
    | cons a C ih => rw [List.flatMap_cons, List.map_append, ih]; rfl
  exact this C
theorem t107 {j : Nat} (hj : j < C.length) (w : Int) : Iso E 107 [cuV v, I j, I w] false = some (cuV (slV 3 Nd.e (wth C j w))) := by
  refine Iso_of (es _ _ _ _) e107 ?_
  simp only [f107]
  have n1 := H.n1
  have n8 := H.n8
  obtain ⟨o, J, hc, ho⟩ := r118 hv (by omega) (by omega) [AO.cells [v] false, .cells [.nils] false]
  have el : elemAt 3 (.ms 3 (o + 2) 0 C.length) (I j) = some (.ptr (o + 2) (j * 3)) := by
    have : (j : Int) < C.length := by omega
    simp [elemAt, this]
  have hJ : J[o]? = some (.cells (C.flatMap Nd.e) false) := by simpa using ho
  have fl : j * 3 + 1 + 1 ≤ (C.flatMap Nd.e).length := by rw [flat_len Nd.el]; omega
  have hout : OutE Nd.e 3 0 (AO.cells [AV.ms 3 (o + 2) 0 C.length] false :: AO.cells [AV.ms 3 (o + 2) 0 C.length] false :: J.set o (AO.cells ((wth C j w).flatMap Nd.e) false)) (.ms 3 (o + 2) 0 C.length) (wth C j w) := by
    refine .inr ⟨fun e => ?_, o + 2, Nat.zero_le _, by rw [wth_len], ?_⟩
    · have h0 := congrArg List.length e; rw [wth_len] at h0; have h00 : C.length = 0 := h0; omega
    · show (J.set o _)[o]? = _
      exact at_se hJ
  have hvw : ∀ (g : List AO) (k : Nat) (a : Nd), (a.e).mapM (view false g (k + 1)) = some a.e := fun g k a => mapM_view fun x hx => by
    obtain ⟨q, i, rfl⟩ := Nd.iv a x hx
    exact view_int
  have hne : wth C j w ≠ [] := fun e => by have h0 := congrArg List.length e; rw [wth_len] at h0; have h00 : C.length = 0 := h0; omega
  have hview := outE_view (k := 6) Nd.el hout hne (st := false) (fun a => hvw _ _ a)
  simp (disch := first | assumption | omega | (simp only [az]; done)) only [ru, eq_self, if_true, if_false, BEq.rfl, binI, AO.row?, splice, fillL, mmAll, loadV, storeV, zeros, Am.rowAt, Am.part, addOff, Nat.reduceAdd, Nat.reduceMul, Nat.reduceLeDiff, Nat.reduceSub, Nat.reduceLT, Int.reduceEq, Int.reduceLT, Int.reduceLE, Int.reduceGT, Int.reduceGE, Int.reduceAdd, Int.reduceSub, Int.reduceMul, Int.reduceNeg, Int.reduceToNat, reduceCtorEq, reduceIte, lenV_sl hv, view_sl hv, scalar_sl hv, cells_sl hv, pure_sl hv, exOp_call2, List.length_cons, List.length_nil, hc, el, hJ, fl, nd_put hj, finC, getRes, Option.some.injEq, exists_eq_left', view_agg, hview]
def wtL (C : List Nd) (j : Nat) (L : List Py) (k : Nat) : List Int := ofN ((List.range k).filter fun w => L.all (agr (wth C j w)))
omit hv H in
theorem wtL_succ {j : Nat} {L : List Py} {k : Nat} : wtL C j L (k + 1) = if L.all (agr (wth C j k)) = true then wtL C j L k ++ [(k : Int)] else wtL C j L k := by
  unfold wtL ofN
  rw [List.range_succ, List.filter_append, List.map_append]
  simp only [List.filter_cons, List.filter_nil]
  cases L.all (agr (wth C j k)) <;> simp
set_option maxHeartbeats 1000000 in
theorem t86 {j : Nat} (hj : j < C.length) {L : List Py} {pv : AV} (V : IsSl 3 Py.e L pv) (hL : L.length ≤ 1000) (hp : ∀ x ∈ L, payOk C.length x = true) (st : Bool) : Iso E 86 [cuV v, I j, pv] st = some (resL (wtL C j L 10)) := by
  refine Iso_of (es _ _ _ _) e86 ?_
  simp only [f86]
  simp (disch := first | assumption | omega | (simp only [az]; done)) only [ru, eq_self, if_true, if_false, BEq.rfl, binI, AO.row?, splice, fillL, mmAll, loadV, storeV, zeros, Am.rowAt, Am.part, addOff, Nat.reduceAdd, Nat.reduceMul, Nat.reduceLeDiff, Nat.reduceSub, Nat.reduceLT, Int.reduceEq, Int.reduceLT, Int.reduceLE, Int.reduceGT, Int.reduceGE, Int.reduceAdd, Int.reduceSub, Int.reduceMul, Int.reduceNeg, Int.reduceToNat, reduceCtorEq, reduceIte, lenV_sl hv, view_sl hv, scalar_sl hv, cells_sl hv, pure_sl hv, lenV_sl V, view_sl V, scalar_sl V, cells_sl V, pure_sl V]
  obtain ⟨pre, hpre⟩ : ∃ pre, pre = [AO.cells [v] false] := ⟨_, rfl⟩
  have hp0 : ∀ m : List AO, (pre ++ m)[0]? = some (.cells [v] false) := fun m => by rw [hpre]; rfl
  have hpl : pre.length = 1 := by rw [hpre]; rfl
  refine G_loop_ind (fun y ts hk mk => ∃ (i : Nat) (J : List AO), i ≤ 10 ∧ y = 10 - i ∧ hk = pre ++ J ∧ OutE intL 1 pre.length (pre ++ J) (ts.getD 7 .undef) (wtL C j L i) ∧ ts.length = 24 ∧ ts.getD 1 .undef = I j ∧ ts.getD 2 .undef = pv ∧ ts.getD 3 .undef = .ptr 0 0 ∧ ts.getD 9 .undef = I i ∧ mk = []) ?_ 10 _ _ _ ⟨0, [], Nat.zero_le _, rfl, by rw [hpre]; rfl, .inl ⟨rfl, rfl⟩, rfl, rfl, rfl, rfl, rfl, rfl⟩
  rintro y ts hk mk ih ⟨i, J, hi, rfl, rfl, ho, hl', q1, q2, q3, q9, rfl⟩
  rw [lit_all hl']
  obtain ⟨w, hw⟩ : ∃ w, w = ts.getD 7 .undef := ⟨_, rfl⟩
  rw [← hw] at ho
  have hw' := hw.symm
  simp only [lit0, litS, Nat.reduceAdd, q1, q2, q3, q9, hw']
  by_cases hlt : (i : Int) < 10
  · have H' := wth_ok H hj (w := (i : Int)) (by omega)
    have h107 := t107 hv H hj (i : Int)
    have sv := slV_is (esz := 3) (enc := Nd.e) (l := wth C j i)
    have h105 := fun st => t105 sv H' V hL (fun x hx => by rw [wth_len]; exact hp x hx) st
    have hlen : (wtL C j L i).length ≤ 1000 := by unfold wtL; rw [ofN_len]; exact Nat.le_trans (List.length_filter_le _ _) (by simp; omega)
    cases hc : L.all (agr (wth C j i)) with
    | true =>
      rw [hc] at h105
      have e2 : wtL C j L (i + 1) = wtL C j L i ++ [(i : Int)] := by rw [wtL_succ, if_pos hc]
      obtain ⟨v', J', ha, ho'⟩ := outE_app (pre := pre) (J := J) (eb := 8) (lim := 0) intE intSc (by omega) (by omega) (by omega) ho (Nat.zero_le _) (by omega) (i : Int)
      simp (disch := first | assumption | omega | (simp only [az]; done)) only [ru, eq_self, if_true, if_false, BEq.rfl, binI, AO.row?, splice, fillL, mmAll, loadV, storeV, zeros, Am.rowAt, Am.part, addOff, Nat.reduceAdd, Nat.reduceMul, Nat.reduceLeDiff, Nat.reduceSub, Nat.reduceLT, Int.reduceEq, Int.reduceLT, Int.reduceLE, Int.reduceGT, Int.reduceGE, Int.reduceAdd, Int.reduceSub, Int.reduceMul, Int.reduceNeg, Int.reduceToNat, reduceCtorEq, reduceIte, hlt, lenV_sl hv, view_sl hv, scalar_sl hv, cells_sl hv, pure_sl hv, lenV_sl V, view_sl V, scalar_sl V, cells_sl V, pure_sl V, lenV_sl sv, view_sl sv, scalar_sl sv, cells_sl sv, pure_sl sv, hp0, exOp_litS, h107, h105, ha]
      exact ih (10 - (i + 1)) _ _ _ (by omega) ⟨i + 1, J', by omega, rfl, rfl, by rw [e2]; exact ho', rfl, rfl, rfl, rfl, rfl, rfl⟩
    | false =>
      rw [hc] at h105
      have e2 : wtL C j L (i + 1) = wtL C j L i := by rw [wtL_succ, if_neg (by rw [hc]; simp)]
      simp (disch := first | assumption | omega | (simp only [az]; done)) only [ru, eq_self, if_true, if_false, BEq.rfl, binI, AO.row?, splice, fillL, mmAll, loadV, storeV, zeros, Am.rowAt, Am.part, addOff, Nat.reduceAdd, Nat.reduceMul, Nat.reduceLeDiff, Nat.reduceSub, Nat.reduceLT, Int.reduceEq, Int.reduceLT, Int.reduceLE, Int.reduceGT, Int.reduceGE, Int.reduceAdd, Int.reduceSub, Int.reduceMul, Int.reduceNeg, Int.reduceToNat, reduceCtorEq, reduceIte, hlt, lenV_sl hv, view_sl hv, scalar_sl hv, cells_sl hv, pure_sl hv, lenV_sl V, view_sl V, scalar_sl V, cells_sl V, pure_sl V, lenV_sl sv, view_sl sv, scalar_sl sv, cells_sl sv, pure_sl sv, hp0, h107, h105]
      exact ih (10 - (i + 1)) _ _ _ (by omega) ⟨i + 1, J, by omega, rfl, rfl, by rw [e2]; exact ho, rfl, rfl, rfl, rfl, rfl, rfl⟩
  · obtain rfl : i = 10 := by omega
    simp (disch := first | assumption | omega | (simp only [az]; done)) only [ru, eq_self, if_true, if_false, BEq.rfl, binI, AO.row?, splice, fillL, mmAll, loadV, storeV, zeros, Am.rowAt, Am.part, addOff, Nat.reduceAdd, Nat.reduceMul, Nat.reduceLeDiff, Nat.reduceSub, Nat.reduceLT, Int.reduceEq, Int.reduceLT, Int.reduceLE, Int.reduceGT, Int.reduceGE, Int.reduceAdd, Int.reduceSub, Int.reduceMul, Int.reduceNeg, Int.reduceToNat, reduceCtorEq, reduceIte, hlt, ho.viewL]
/-! pence that tell weights apart -/
def apM (g : Int → Int) (ws : List Int) : List (List Int × AV) := ws.foldl (fun a w => putM [g w] (.bool true) a) []
omit hv H in
theorem apM_snoc {g : Int → Int} {ws : List Int} {w : Int} : apM g (ws ++ [w]) = putM [g w] (.bool true) (apM g ws) := by unfold apM; rw [List.foldl_append]; rfl
omit hv H in
theorem putM_len {k : List Int} {v : AV} : ∀ {es : List (List Int × AV)}, (es.Pairwise fun a b => ltK a.1 b.1 = true) → (putM k v es).length = if ∃ e ∈ es, e.1 = k then es.length else es.length + 1
  | [], _ => by simp [putM]
  | (a, b) :: r, hp => by
    obtain ⟨p1, p2⟩ := List.pairwise_cons.1 hp
    simp only [putM]
    split
    · rename_i e; subst e
      rw [if_pos ⟨(k, b), by simp, rfl⟩]; rfl
    · rename_i e
      split
      · rename_i c
        rw [if_neg]
        · rfl
        · rintro ⟨x, hx, rfl⟩
          rcases List.mem_cons.1 hx with rfl | hx
          · exact e rfl
          · have := ltK_tr c (p1 x hx); rw [ltK_irr] at this; cases this
      · rw [List.length_cons, putM_len p2]
        have : (∃ e ∈ (a, b) :: r, e.1 = k) ↔ ∃ e ∈ r, e.1 = k := by
          constructor
          · rintro ⟨x, hx, hk⟩
            rcases List.mem_cons.1 hx with rfl | hx
            · exact absurd hk.symm e
            · exact ⟨x, hx, hk⟩
          · rintro ⟨x, hx, hk⟩; exact ⟨x, by simp [hx], hk⟩
        simp only [this]
        split <;> simp
omit hv H in
theorem apM_spec {g : Int → Int} (ws : List Int) : ((apM g ws).Pairwise fun a b => ltK a.1 b.1 = true) ∧ (∀ k : Int, (∃ e ∈ apM g ws, e.1 = [k]) ↔ k ∈ ws.map g) ∧ (apM g ws).length ≤ ws.length ∧ ((apM g ws).length = ws.length ↔ (ws.map g).Nodup) := by
  refine snocRec (fun ws => ((apM g ws).Pairwise fun a b => ltK a.1 b.1 = true) ∧ (∀ k : Int, (∃ e ∈ apM g ws, e.1 = [k]) ↔ k ∈ ws.map g) ∧ (apM g ws).length ≤ ws.length ∧ ((apM g ws).length = ws.length ↔ (ws.map g).Nodup)) ws ⟨List.Pairwise.nil, by simp [apM], by simp [apM], by simp [apM]⟩ ?_
  rintro ws w ⟨h1, h2, h3, h4⟩
  rw [apM_snoc]
  have hk := h2 (g w)
  have hlen := putM_len (k := [g w]) (v := .bool true) h1
  have hmem : ∀ k : Int, (∃ e ∈ putM [g w] (.bool true) (apM g ws), e.1 = [k]) ↔ k = g w ∨ k ∈ ws.map g := by
    intro k
    rw [← h2 k]
    have hf : ∀ (es : List (List Int × AV)) (k' : List Int), (∃ e ∈ putM [g w] (.bool true) es, e.1 = k') ↔ k' = [g w] ∨ ∃ e ∈ es, e.1 = k' := by
      intro es k'
      induction es with
      | nil => simp [putM, eq_comm]
      | cons x r ih =>
        obtain ⟨a, b⟩ := x
        simp only [putM]
        split
        · rename_i e; subst e; simp [eq_comm]
        · split
          · simp [eq_comm]
          · have : (∃ e ∈ (a, b) :: putM [g w] (.bool true) r, e.1 = k') ↔ a = k' ∨ ∃ e ∈ putM [g w] (.bool true) r, e.1 = k' := by simp
            rw [this, ih]
            simp only [List.mem_cons, exists_eq_or_imp]
            constructor
            · rintro (h | h | h) <;> simp [h]
            · rintro (h | h | h) <;> simp [h]
    rw [hf]; simp
  refine ⟨putM_sorted h1, fun k => by rw [hmem]; simp [or_comm], ?_, ?_⟩
  · rw [hlen, List.length_append, List.length_singleton]; split <;> omega
  · rw [hlen, List.length_append, List.length_singleton, List.map_append, List.map_singleton, List.nodup_append]
    by_cases c : ∃ e ∈ apM g ws, e.1 = [g w]
    · rw [if_pos c]
      constructor
      · intro h; omega
      · rintro ⟨_, _, h⟩
        exact absurd rfl (h _ (hk.1 c) _ (by simp))
    · rw [if_neg c]
      constructor
      · intro h
        refine ⟨h4.1 (by omega), by simp, fun a ha b hb => ?_⟩
        rw [List.mem_singleton] at hb; subst hb
        rintro rfl; exact c (hk.2 ha)
      · rintro ⟨h, _, _⟩
        have := h4.2 h; omega
def apt (C : List Nd) (j : Nat) (p : Int) (ws : List Int) : Bool := decide ((ws.map fun w => gG (wth C j w) p j).Nodup)
set_option maxHeartbeats 1000000 in
theorem t89 {j : Nat} (hj : j < C.length) {p : Int} (hp : 0 ≤ p) (hp2 : p ≤ 1000) {ws : List Int} {wv : AV} (V : IsSl 1 intL ws wv) (hw : ∀ w ∈ ws, 0 ≤ w ∧ w ≤ 9) (hl : ws.length ≤ 1000) (st : Bool) : Iso E 89 [cuV v, I j, I p, wv] st = some (Bo (apt C j p ws)) := by
  refine Iso_of (es _ _ _ _) e89 ?_
  simp only [f89]
  simp (disch := first | assumption | omega | (simp only [az]; done)) only [ru, eq_self, if_true, if_false, BEq.rfl, binI, AO.row?, splice, fillL, mmAll, loadV, storeV, zeros, Am.rowAt, Am.part, addOff, Nat.reduceAdd, Nat.reduceMul, Nat.reduceLeDiff, Nat.reduceSub, Nat.reduceLT, Int.reduceEq, Int.reduceLT, Int.reduceLE, Int.reduceGT, Int.reduceGE, Int.reduceAdd, Int.reduceSub, Int.reduceMul, Int.reduceNeg, Int.reduceToNat, reduceCtorEq, reduceIte, lenV_sl hv, view_sl hv, scalar_sl hv, cells_sl hv, pure_sl hv, lenV_sl V, elem_in V, view_sl V, scalar_sl V, cells_sl V, pure_sl V, Int.toNat_natCast, rmp]
  obtain ⟨g, hg⟩ : ∃ g : Int → Int, g = fun w => gG (wth C j w) p j := ⟨_, rfl⟩
  refine G_loop_ind (fun y ts hk mk => ∃ (i : Nat), i ≤ ws.length ∧ y = ws.length - i ∧ hk[0]? = some (.cells [v] false) ∧ hk[1]? = some (.mpo KI (apM g (ws.take i))) ∧ ts.length = 33 ∧ ts.getD 1 .undef = I j ∧ ts.getD 2 .undef = I p ∧ ts.getD 3 .undef = wv ∧ ts.getD 4 .undef = .ptr 0 0 ∧ ts.getD 9 .undef = .mp 1 ∧ ts.getD 13 .undef = wv ∧ ts.getD 14 .undef = I ws.length ∧ ts.getD 15 .undef = I i ∧ mk = []) ?_ ws.length _ _ _ ⟨0, Nat.zero_le _, rfl, rfl, rfl, rfl, rfl, rfl, rfl, rfl, rfl, rfl, rfl, rfl, rfl⟩
  rintro y ts hk mk ih ⟨i, hi, rfl, h0, h1, hl', q1, q2, q3, q4, q9, q13, q14, q15, rfl⟩
  rw [lit_all hl']
  simp only [lit0, litS, Nat.reduceAdd, q1, q2, q3, q4, q9, q13, q14, q15]
  by_cases hlt : (i : Int) < ws.length
  · have hwm := hw (ws.getD i 0) (getD_memI (by omega))
    have h107 := t107 hv H hj (ws.getD i 0)
    have sv := slV_is (esz := 3) (enc := Nd.e) (l := wth C j (ws.getD i 0))
    have h75 := fun st => t75 sv (wth_ok H hj hwm) (j := j) (by rw [wth_len]; exact hj) hp hp2 st
    have hgw : gG (wth C j (ws.getD i 0)) p j = g (ws.getD i 0) := by rw [hg]
    rw [hgw] at h75
    have hs := mapSet_at (lim := 0) h1 (n := g (ws.getD i 0)) (x := .bool true) rfl (Nat.zero_le _)
    simp (disch := first | assumption | omega | (simp only [az]; done)) only [ru, eq_self, if_true, if_false, BEq.rfl, binI, AO.row?, splice, fillL, mmAll, loadV, storeV, zeros, Am.rowAt, Am.part, addOff, Nat.reduceAdd, Nat.reduceMul, Nat.reduceLeDiff, Nat.reduceSub, Nat.reduceLT, Int.reduceEq, Int.reduceLT, Int.reduceLE, Int.reduceGT, Int.reduceGE, Int.reduceAdd, Int.reduceSub, Int.reduceMul, Int.reduceNeg, Int.reduceToNat, reduceCtorEq, reduceIte, hlt, lenV_sl hv, view_sl hv, scalar_sl hv, cells_sl hv, pure_sl hv, lenV_sl V, elem_in V, view_sl V, scalar_sl V, cells_sl V, pure_sl V, Int.toNat_natCast, lenV_sl sv, view_sl sv, scalar_sl sv, cells_sl sv, pure_sl sv, rmp, h0, h107, h75, hs]
    exact ih (ws.length - (i + 1)) _ _ _ (by omega) ⟨i + 1, by omega, rfl, at_st h0 (by omega), by rw [at_se h1, take_snoc (d := 0) (by omega), apM_snoc], rfl, rfl, rfl, rfl, rfl, rfl, rfl, rfl, rfl, rfl⟩
  · obtain rfl : i = ws.length := by omega
    rw [List.take_length] at h1
    have e : (((apM g ws).length : Int) == (ws.length : Int)) = apt C j p ws := by
      have := (apM_spec (g := g) ws).2.2.2
      unfold apt
      rw [← hg]
      by_cases c : (ws.map g).Nodup
      · simp [c, this.2 c]
      · have : ¬ (apM g ws).length = ws.length := fun h => c (this.1 h)
        simp [c]; omega
    simp (disch := first | assumption | omega | (simp only [az]; done)) only [ru, eq_self, if_true, if_false, BEq.rfl, binI, AO.row?, splice, fillL, mmAll, loadV, storeV, zeros, Am.rowAt, Am.part, addOff, Nat.reduceAdd, Nat.reduceMul, Nat.reduceLeDiff, Nat.reduceSub, Nat.reduceLT, Int.reduceEq, Int.reduceLT, Int.reduceLE, Int.reduceGT, Int.reduceGE, Int.reduceAdd, Int.reduceSub, Int.reduceMul, Int.reduceNeg, Int.reduceToNat, reduceCtorEq, reduceIte, hlt, lenV_sl V, elem_in V, view_sl V, scalar_sl V, cells_sl V, pure_sl V, Int.toNat_natCast, rmp, exOp_wMln, wMln_at h1, e]
theorem s88 {a b c : Nat} {h : List AO} {j : Nat} (hj : j < C.length) {ws : List Int} {wv : AV} (V : IsSl 1 intL ws wv) (hw : ∀ w ∈ ws, 0 ≤ w ∧ w ≤ 9) (hl : ws.length ≤ 1000) (ha : h[a]? = some (.cells [v] false)) (hb : h[b]? = some (.cells [I j] false)) (hc : h[c]? = some (.cells [wv] false)) {p : Nat} (hp : p ≤ 1000) : Ro E 88 [I p, .ptr a 0, .ptr b 0, .ptr c 0] h = some (Bo (apt C j p ws)) := by
  refine Ro_of (es _ _ _ _) e88 ?_
  simp only [f88]
  simp (disch := first | assumption | omega | (simp only [az]; done)) only [ru, eq_self, if_true, if_false, BEq.rfl, binI, AO.row?, splice, fillL, mmAll, loadV, storeV, zeros, Am.rowAt, Am.part, addOff, Nat.reduceAdd, Nat.reduceMul, Nat.reduceLeDiff, Nat.reduceSub, Nat.reduceLT, Int.reduceEq, Int.reduceLT, Int.reduceLE, Int.reduceGT, Int.reduceGE, Int.reduceAdd, Int.reduceSub, Int.reduceMul, Int.reduceNeg, Int.reduceToNat, reduceCtorEq, reduceIte, lenV_sl hv, view_sl hv, scalar_sl hv, cells_sl hv, pure_sl hv, lenV_sl V, elem_in V, view_sl V, scalar_sl V, cells_sl V, pure_sl V, Int.toNat_natCast, ha, hb, hc, t89 hv H hj (p := (p : Int)) (by omega) (by omega) V hw hl]
  rfl
end
section
variable {C : List Nd} {v : AV} (hv : IsSl 3 Nd.e C v) (hl : C.length ≤ 1000)
include hv hl
theorem t38 {L : List Py} {pv : AV} (V : IsSl 3 Py.e L pv) (hL : L.length ≤ 1000) : Iso E 38 [cuV v, pv] false = some (ansL (fitE C true L) (wrL C L L.length)) := by
  refine Iso_of (es _ _ _ _) e38 ?_
  simp only [f38]
  have hf := fun st => t62 hv hl true V hL st
  unfold ansL
  by_cases h0 : fitE C true L = 0
  · obtain ⟨H, _, _, hp⟩ := fit_ok h0
    have hb1 : ((0 : Int) != 0) = false := rfl
    rw [h0] at hf ⊢
    have rl := resL_is (wrL C L L.length)
    simp (disch := first | assumption | omega | (simp only [az]; done)) only [ru, eq_self, if_true, if_false, BEq.rfl, binI, AO.row?, splice, fillL, mmAll, loadV, storeV, zeros, Am.rowAt, Am.part, addOff, Nat.reduceAdd, Nat.reduceMul, Nat.reduceLeDiff, Nat.reduceSub, Nat.reduceLT, Int.reduceEq, Int.reduceLT, Int.reduceLE, Int.reduceGT, Int.reduceGE, Int.reduceAdd, Int.reduceSub, Int.reduceMul, Int.reduceNeg, Int.reduceToNat, reduceCtorEq, reduceIte, lenV_sl hv, view_sl hv, scalar_sl hv, cells_sl hv, pure_sl hv, lenV_sl V, view_sl V, scalar_sl V, cells_sl V, pure_sl V, hf, hb1, t64 hv, t83 hv H V hL hp, lenV_sl rl, view_sl rl, scalar_sl rl, cells_sl rl, pure_sl rl]
  · have hb0 : (fitE C true L != 0) = true := by simp [h0]
    simp (disch := first | assumption | omega | (simp only [az]; done)) only [ru, eq_self, if_true, if_false, BEq.rfl, binI, AO.row?, splice, fillL, mmAll, loadV, storeV, zeros, Am.rowAt, Am.part, addOff, Nat.reduceAdd, Nat.reduceMul, Nat.reduceLeDiff, Nat.reduceSub, Nat.reduceLT, Int.reduceEq, Int.reduceLT, Int.reduceLE, Int.reduceGT, Int.reduceGE, Int.reduceAdd, Int.reduceSub, Int.reduceMul, Int.reduceNeg, Int.reduceToNat, reduceCtorEq, reduceIte, lenV_sl hv, view_sl hv, scalar_sl hv, cells_sl hv, pure_sl hv, lenV_sl V, view_sl V, scalar_sl V, cells_sl V, pure_sl V, hf, hb0, h0]
    rfl
/-- the error of Weights, and of Ask but for pence -/
def wtE (C : List Nd) (i : Int) (L : List Py) : Int :=
  let e := fitE C (inR i 0 (C.length - 1) && decide (i ≠ 0)) L
  if e ≠ 0 then e else if (wtL C i.toNat L 10).length = 0 then 3 else 0
theorem t40 (i : Int) {L : List Py} {pv : AV} (V : IsSl 3 Py.e L pv) (hL : L.length ≤ 1000) : Iso E 40 [cuV v, I i, pv] false = some (ansL (wtE C i L) (wtL C i.toNat L 10)) := by
  refine Iso_of (es _ _ _ _) e40 ?_
  simp only [f40]
  have hf := fun b st => t62 hv hl b V hL st
  have bne0 : (i != 0) = decide (i ≠ 0) := by by_cases c : i = 0 <;> simp [c]
  unfold ansL wtE
  have run : ∀ b, b = (inR i 0 (C.length - 1) && decide (i ≠ 0)) → fitE C b L ≠ 0 → (fitE C b L != 0) = true := fun b _ h => by simp [h]
  by_cases h0 : fitE C (inR i 0 (C.length - 1) && decide (i ≠ 0)) L = 0
  · obtain ⟨H, hb, _, hp⟩ := fit_ok h0
    simp only [Bool.and_eq_true, decide_eq_true_eq] at hb
    have hi' := inR_iff.1 hb.1
    obtain ⟨j, rfl⟩ : ∃ q : Nat, i = q := ⟨i.toNat, by omega⟩
    have hb1 : ((0 : Int) != 0) = false := rfl
    have hf0 := fun st => hf true st
    have bt : decide ((j : Int) ≠ 0) = true := decide_eq_true hb.2
    have e1 : fitE C true L = 0 := by rw [hb.1, bt] at h0; exact h0
    rw [e1] at hf0
    rw [hb.1, bt]
    simp only [Bool.and_self, e1, ne_eq, not_true_eq_false, if_false, Int.toNat_natCast]
    have rl := resL_is (wtL C j L 10)
    have h86 := t86 hv H (j := j) (by omega) V hL hp
    by_cases c : (wtL C j L 10).length = 0
    · have cb : (((wtL C j L 10).length : Int) == 0) = true := by simp [c]
      simp (disch := first | assumption | omega | (simp only [az]; done)) only [ru, eq_self, if_true, if_false, BEq.rfl, binI, AO.row?, splice, fillL, mmAll, loadV, storeV, zeros, Am.rowAt, Am.part, addOff, Nat.reduceAdd, Nat.reduceMul, Nat.reduceLeDiff, Nat.reduceSub, Nat.reduceLT, Int.reduceEq, Int.reduceLT, Int.reduceLE, Int.reduceGT, Int.reduceGE, Int.reduceAdd, Int.reduceSub, Int.reduceMul, Int.reduceNeg, Int.reduceToNat, reduceCtorEq, reduceIte, lenV_sl hv, view_sl hv, scalar_sl hv, cells_sl hv, pure_sl hv, lenV_sl V, view_sl V, scalar_sl V, cells_sl V, pure_sl V, t70 hv hl, hb.1, gUn, bne0, bt, hf0, hb1, t64 hv, h86, lenV_sl rl, view_sl rl, scalar_sl rl, cells_sl rl, pure_sl rl, cb, c]
      rfl
    · have cb : (((wtL C j L 10).length : Int) == 0) = false := by simp; intro e; rw [e] at c; simp at c
      simp (disch := first | assumption | omega | (simp only [az]; done)) only [ru, eq_self, if_true, if_false, BEq.rfl, binI, AO.row?, splice, fillL, mmAll, loadV, storeV, zeros, Am.rowAt, Am.part, addOff, Nat.reduceAdd, Nat.reduceMul, Nat.reduceLeDiff, Nat.reduceSub, Nat.reduceLT, Int.reduceEq, Int.reduceLT, Int.reduceLE, Int.reduceGT, Int.reduceGE, Int.reduceAdd, Int.reduceSub, Int.reduceMul, Int.reduceNeg, Int.reduceToNat, reduceCtorEq, reduceIte, lenV_sl hv, view_sl hv, scalar_sl hv, cells_sl hv, pure_sl hv, lenV_sl V, view_sl V, scalar_sl V, cells_sl V, pure_sl V, t70 hv hl, hb.1, gUn, bne0, bt, hf0, hb1, t64 hv, h86, lenV_sl rl, view_sl rl, scalar_sl rl, cells_sl rl, pure_sl rl, cb, c]
  · have hb0 : (fitE C (inR i 0 (C.length - 1) && decide (i ≠ 0)) L != 0) = true := bne_iff_ne.2 h0
    simp only [ne_eq, h0, not_false_eq_true, if_true, if_false]
    cases hi : inR i 0 (C.length - 1)
    · rw [hi] at h0 hb0
      simp only [Bool.false_and] at h0 hb0 ⊢
      simp (disch := first | assumption | omega | (simp only [az]; done)) only [ru, eq_self, if_true, if_false, BEq.rfl, binI, AO.row?, splice, fillL, mmAll, loadV, storeV, zeros, Am.rowAt, Am.part, addOff, Nat.reduceAdd, Nat.reduceMul, Nat.reduceLeDiff, Nat.reduceSub, Nat.reduceLT, Int.reduceEq, Int.reduceLT, Int.reduceLE, Int.reduceGT, Int.reduceGE, Int.reduceAdd, Int.reduceSub, Int.reduceMul, Int.reduceNeg, Int.reduceToNat, reduceCtorEq, reduceIte, lenV_sl hv, view_sl hv, scalar_sl hv, cells_sl hv, pure_sl hv, lenV_sl V, view_sl V, scalar_sl V, cells_sl V, pure_sl V, t70 hv hl, hi, gUn, hf, hb0, h0]
      rfl
    · rw [hi] at h0 hb0
      simp only [Bool.true_and] at h0 hb0 ⊢
      simp (disch := first | assumption | omega | (simp only [az]; done)) only [ru, eq_self, if_true, if_false, BEq.rfl, binI, AO.row?, splice, fillL, mmAll, loadV, storeV, zeros, Am.rowAt, Am.part, addOff, Nat.reduceAdd, Nat.reduceMul, Nat.reduceLeDiff, Nat.reduceSub, Nat.reduceLT, Int.reduceEq, Int.reduceLT, Int.reduceLE, Int.reduceGT, Int.reduceGE, Int.reduceAdd, Int.reduceSub, Int.reduceMul, Int.reduceNeg, Int.reduceToNat, reduceCtorEq, reduceIte, lenV_sl hv, view_sl hv, scalar_sl hv, cells_sl hv, pure_sl hv, lenV_sl V, view_sl V, scalar_sl V, cells_sl V, pure_sl V, t70 hv hl, hi, gUn, bne0, hf, hb0, h0]
      rfl
omit hv hl in
theorem wtL_bd {j : Nat} {L : List Py} : (∀ w ∈ wtL C j L 10, 0 ≤ w ∧ w ≤ 9) ∧ (wtL C j L 10).length ≤ 10 := by
  constructor
  · intro w hw
    simp only [wtL, ofN, List.mem_map, List.mem_filter, List.mem_range] at hw
    obtain ⟨n, ⟨hn, _⟩, rfl⟩ := hw
    omega
  · unfold wtL; rw [ofN_len]; exact Nat.le_trans (List.length_filter_le _ _) (by simp)
theorem t42 (i : Int) {L : List Py} {pv : AV} (V : IsSl 3 Py.e L pv) (hL : L.length ≤ 1000) (st : Bool) : Iso E 42 [cuV v, I i, pv] st = some (ansN (wtE C i L) (frA 400 fun p => apt C i.toNat p (wtL C i.toNat L 10))) := by
  refine Iso_of (es _ _ _ _) e42 ?_
  simp only [f42]
  have h40 := t40 hv hl i V hL
  unfold ansN
  by_cases h0 : wtE C i L = 0
  · have hf : fitE C (inR i 0 (C.length - 1) && decide (i ≠ 0)) L = 0 := by
      unfold wtE at h0
      simp only at h0
      split at h0
      · exact h0
      · rename_i h; simpa using h
    obtain ⟨H, hb, _, hp⟩ := fit_ok hf
    simp only [Bool.and_eq_true, decide_eq_true_eq] at hb
    have hi' := inR_iff.1 hb.1
    obtain ⟨j, rfl⟩ : ∃ q : Nat, i = q := ⟨i.toNat, by omega⟩
    have hb1 : ((0 : Int) != 0) = false := rfl
    unfold ansL at h40
    rw [h0] at h40 ⊢
    simp only [if_true, Int.toNat_natCast] at h40 ⊢
    have rl := resL_is (wtL C j L 10)
    obtain ⟨wv, hwv⟩ : ∃ wv, wv = resL (wtL C j L 10) := ⟨_, rfl⟩
    rw [← hwv] at h40 rl
    have hs : Ro E 73 [I 400, .fn 88 [] [.ptr 3 0, .ptr 1 0, .ptr 2 0]] [AO.cells [v] false, .cells [I j] false, .cells [wv] false, .cells [v] false] = _ := s73 (last := 400) (by omega) fun x hx => s88 hv H (j := j) (by omega) rl wtL_bd.1 (by have := (wtL_bd (C := C) (j := j) (L := L)).2; omega) (a := 3) (b := 1) (c := 2) rfl rfl rfl (p := x) (by omega)
    simp (disch := first | assumption | omega | (simp only [az]; done)) only [ru, eq_self, if_true, if_false, BEq.rfl, binI, AO.row?, splice, fillL, mmAll, loadV, storeV, zeros, Am.rowAt, Am.part, addOff, Nat.reduceAdd, Nat.reduceMul, Nat.reduceLeDiff, Nat.reduceSub, Nat.reduceLT, Int.reduceEq, Int.reduceLT, Int.reduceLE, Int.reduceGT, Int.reduceGE, Int.reduceAdd, Int.reduceSub, Int.reduceMul, Int.reduceNeg, Int.reduceToNat, reduceCtorEq, reduceIte, lenV_sl hv, view_sl hv, scalar_sl hv, cells_sl hv, pure_sl hv, lenV_sl V, view_sl V, scalar_sl V, cells_sl V, pure_sl V, h40, lenV_sl rl, view_sl rl, scalar_sl rl, cells_sl rl, pure_sl rl, hb1, t64 hv, hs, frA]
    done
  · have hb0 : (wtE C i L != 0) = true := by simp [h0]
    unfold ansL at h40
    rw [if_neg h0] at h40
    have e0 : resL [] = .nils := rfl
    rw [e0] at h40
    simp (disch := first | assumption | omega | (simp only [az]; done)) only [ru, eq_self, if_true, if_false, BEq.rfl, binI, AO.row?, splice, fillL, mmAll, loadV, storeV, zeros, Am.rowAt, Am.part, addOff, Nat.reduceAdd, Nat.reduceMul, Nat.reduceLeDiff, Nat.reduceSub, Nat.reduceLT, Int.reduceEq, Int.reduceLT, Int.reduceLE, Int.reduceGT, Int.reduceGE, Int.reduceAdd, Int.reduceSub, Int.reduceMul, Int.reduceNeg, Int.reduceToNat, reduceCtorEq, reduceIte, lenV_sl hv, view_sl hv, scalar_sl hv, cells_sl hv, pure_sl hv, lenV_sl V, view_sl V, scalar_sl V, cells_sl V, pure_sl V, h40, hb0, h0]
end
end Go.Proofs.Ytaeijjfgfenfhaa.S

/-
Parts of a great sum: Exact.
-/
namespace Go.Proofs.Ytaeijjfgfenfhaa.S
open Go Go.Am Go.Proofs.Ytaeijjfgfenfhaa.T
set_option maxRecDepth 100000
set_option linter.unusedSimpArgs false
set_option linter.unusedVariables false

/-- a fraction in lowest terms -/
def red (a b : Nat) : Nat × Nat := (a / Nat.gcd b a, b / Nat.gcd b a)
abbrev ratV (x : Nat × Nat) : AV := .agg [I (x.1 : Int), I (x.2 : Int)]
theorem red_mul {a b k : Nat} (hk : 0 < k) : red (k * a) (k * b) = red a b := by
  unfold red
  rw [Nat.gcd_mul_left, Nat.mul_div_mul_left _ _ hk, Nat.mul_div_mul_left _ _ hk]
theorem red_zero {b : Nat} (hb : 0 < b) : red 0 b = (0, 1) := by
  unfold red; rw [Nat.gcd_zero_right, Nat.zero_div, Nat.div_self hb]
theorem red_spec {a b : Nat} (hb : 0 < b) : ∃ k, 0 < k ∧ a = k * (red a b).1 ∧ b = k * (red a b).2 ∧ 0 < (red a b).2 := by
  have hg : 0 < Nat.gcd b a := Nat.gcd_pos_of_pos_left _ hb
  refine ⟨Nat.gcd b a, hg, ?_, ?_, ?_⟩
  · exact (Nat.mul_div_cancel' (Nat.gcd_dvd_right b a)).symm
  · exact (Nat.mul_div_cancel' (Nat.gcd_dvd_left b a)).symm
  · exact Nat.div_pos (Nat.le_of_dvd hb (Nat.gcd_dvd_left b a)) hg
theorem red_mul2 {a b w s : Nat} (hb : 0 < b) : red ((red a b).1 * w) ((red a b).2 * s) = red (a * w) (b * s) := by
  obtain ⟨k, hk, ha, hb', _⟩ := red_spec (a := a) hb
  have e1 : a * w = k * ((red a b).1 * w) := by rw [← Nat.mul_assoc, ← ha]
  have e2 : b * s = k * ((red a b).2 * s) := by rw [← Nat.mul_assoc, ← hb']
  rw [e1, e2, red_mul hk]
theorem red_le {a b : Nat} : (red a b).1 ≤ a ∧ (red a b).2 ≤ b := ⟨Nat.div_le_self _ _, Nat.div_le_self _ _⟩
/-- the part of a node, not in lowest terms -/
def exP (C : List Nd) : Nat → Nat → Nat × Nat
  | 0, _ => (1, 1)
  | k + 1, j => if j = 0 then (1, 1) else if rsS C (ndA C j).up = 0 then (0, 1) else
      ((exP C k (ndA C j).up.toNat).1 * (ndA C j).w.toNat, (exP C k (ndA C j).up.toNat).2 * (rsS C (ndA C j).up).toNat)
def exA (C : List Nd) (j : Nat) : Nat × Nat := exP C (j + 1) j
set_option maxHeartbeats 1000000 in
theorem t102 {a b : Nat} (ha : a ≤ 1000000000000000) (hb : b ≤ 1000000000000000) (hb1 : 0 < b) (st : Bool) : Iso E 102 [I (a : Int), I (b : Int)] st = some (ratV (red a b)) := by
  refine Iso_of (es _ _ _ _) e102 ?_
  simp only [f102]
  simp (disch := first | assumption | omega | (simp only [az]; done)) only [ru, eq_self, if_true, if_false, BEq.rfl, binI, AO.row?, splice, fillL, mmAll, loadV, storeV, zeros, Am.rowAt, Am.part, addOff, Nat.reduceAdd, Nat.reduceMul, Nat.reduceLeDiff, Nat.reduceSub, Nat.reduceLT, Int.reduceEq, Int.reduceLT, Int.reduceLE, Int.reduceGT, Int.reduceGE, Int.reduceAdd, Int.reduceSub, Int.reduceMul, Int.reduceNeg, Int.reduceToNat, reduceCtorEq, reduceIte]
  refine G_loop_ind (fun y ts hk mk => ∃ d r : Nat, y = r ∧ Nat.gcd d r = Nat.gcd b a ∧ d ≤ 1000000000000000 ∧ r ≤ 1000000000000000 ∧ hk = [.cells [I 0, I 0] false] ∧ ts.length = 22 ∧ ts.getD 0 .undef = I (a : Int) ∧ ts.getD 1 .undef = I (b : Int) ∧ ts.getD 4 .undef = .ptr 0 0 ∧ ts.getD 5 .undef = I (d : Int) ∧ ts.getD 6 .undef = I (r : Int) ∧ mk = []) ?_ a _ _ _ ⟨b, a, rfl, rfl, hb, ha, rfl, rfl, rfl, rfl, rfl, rfl, rfl, rfl⟩
  rintro y ts hk mk ih ⟨d, r, rfl, hg, hd, hr, rfl, hl', q0, q1, q4, q5, q6, rfl⟩
  rw [lit_all hl']
  simp only [lit0, litS, Nat.reduceAdd, q0, q1, q4, q5, q6]
  by_cases c : (y : Int) > 0
  · have n0 : ¬ (y : Int) = 0 := by omega
    have tm : (d : Int).tmod (y : Int) = ((d % y : Nat) : Int) := rfl
    have hlt : d % y < y := Nat.mod_lt _ (by omega)
    simp (disch := first | assumption | omega | (simp only [az]; done)) only [ru, eq_self, if_true, if_false, BEq.rfl, binI, AO.row?, splice, fillL, mmAll, loadV, storeV, zeros, Am.rowAt, Am.part, addOff, Nat.reduceAdd, Nat.reduceMul, Nat.reduceLeDiff, Nat.reduceSub, Nat.reduceLT, Int.reduceEq, Int.reduceLT, Int.reduceLE, Int.reduceGT, Int.reduceGE, Int.reduceAdd, Int.reduceSub, Int.reduceMul, Int.reduceNeg, Int.reduceToNat, reduceCtorEq, reduceIte, c, n0, tm]
    refine ih (d % y) _ _ _ (by omega) ⟨y, d % y, rfl, ?_, by omega, by omega, rfl, rfl, rfl, rfl, rfl, rfl, rfl, rfl⟩
    rw [← hg, Nat.gcd_comm y, ← Nat.gcd_rec, Nat.gcd_comm]
  · obtain rfl : y = 0 := by omega
    rw [Nat.gcd_zero_right] at hg
    subst hg
    have hg0 : 0 < Nat.gcd b a := Nat.gcd_pos_of_pos_left _ hb1
    have n0 : ¬ ((Nat.gcd b a : Nat) : Int) = 0 := by omega
    have t1 : (a : Int).tdiv ((Nat.gcd b a : Nat) : Int) = ((a / Nat.gcd b a : Nat) : Int) := rfl
    have t2 : (b : Int).tdiv ((Nat.gcd b a : Nat) : Int) = ((b / Nat.gcd b a : Nat) : Int) := rfl
    have b1 := Nat.div_le_self a (Nat.gcd b a)
    have b2 := Nat.div_le_self b (Nat.gcd b a)
    have er : red a b = (a / Nat.gcd b a, b / Nat.gcd b a) := rfl
    rw [er]
    obtain ⟨x1, hx1⟩ : ∃ x, x = a / Nat.gcd b a := ⟨_, rfl⟩
    obtain ⟨x2, hx2⟩ : ∃ x, x = b / Nat.gcd b a := ⟨_, rfl⟩
    rw [← hx1] at t1 b1 ⊢
    rw [← hx2] at t2 b2 ⊢
    have w1 := wr64 (n := (x1 : Int)) (by omega) (by omega)
    have w2 := wr64 (n := (x2 : Int)) (by omega) (by omega)
    simp (disch := first | assumption | omega | (simp only [az]; done)) only [ru, eq_self, if_true, if_false, BEq.rfl, binI, AO.row?, splice, fillL, mmAll, loadV, storeV, zeros, Am.rowAt, Am.part, addOff, Nat.reduceAdd, Nat.reduceMul, Nat.reduceLeDiff, Nat.reduceSub, Nat.reduceLT, Int.reduceEq, Int.reduceLT, Int.reduceLE, Int.reduceGT, Int.reduceGE, Int.reduceAdd, Int.reduceSub, Int.reduceMul, Int.reduceNeg, Int.reduceToNat, reduceCtorEq, reduceIte, c, n0, t1, t2, w1, w2, finC, getRes, Option.some.injEq, exists_eq_left', view_agg]
section
variable {C : List Nd} (H : CuOk C)
include H
theorem exP_fuel : ∀ (k k' j : Nat), j < k → j < k' → j < C.length → exP C k j = exP C k' j
  | 0, _, _, h, _, _ => by omega
  | _, 0, _, _, h, _ => by omega
  | k + 1, k' + 1, j, h, h', hj => by
    simp only [exP]
    by_cases e : j = 0
    · simp [e]
    · have hu := H.up j (by omega) hj
      rw [if_neg e, if_neg e, exP_fuel k k' _ (by omega) (by omega) (by omega)]
theorem exA_eq {j : Nat} (h1 : 1 ≤ j) (hj : j < C.length) : exA C j = if rsS C (ndA C j).up = 0 then (0, 1) else ((exA C (ndA C j).up.toNat).1 * (ndA C j).w.toNat, (exA C (ndA C j).up.toNat).2 * (rsS C (ndA C j).up).toNat) := by
  have hu := H.up j h1 hj
  unfold exA
  conv => lhs; unfold exP
  rw [if_neg (by omega), exP_fuel H j _ _ (by omega) (Nat.lt_succ_self _) (by omega)]
omit H in
theorem exA_zero : exA C 0 = (1, 1) := by simp [exA, exP]
theorem rsS_bd {i : Int} : 0 ≤ rsS C i ∧ rsS C i ≤ 72 := by
  have h := smW_bd H (l := bl C i C.length) (fun j hj => bl_lt (Nat.le_refl _) hj)
  have h8 := H.n8
  have hb8 : (bl C i C.length).length ≤ C.length := by unfold bl; exact Nat.le_trans (List.length_filter_le _ _) (by simp)
  unfold rsS; omega
theorem exA_bd : ∀ (j : Nat), j < C.length → (exA C j).1 ≤ 72 ^ j ∧ 0 < (exA C j).2 ∧ (exA C j).2 ≤ 72 ^ j := by
  intro j
  induction j using Nat.strongRecOn with
  | _ j ih =>
    intro hj
    by_cases e : j = 0
    · subst e; rw [exA_zero]; simp
    · have hu := H.up j (by omega) hj
      obtain ⟨i1, i2, i3⟩ := ih (ndA C j).up.toNat (by omega) (by omega)
      rw [exA_eq H (by omega) hj]
      have hp : 72 ^ (ndA C j).up.toNat * 72 ≤ 72 ^ j := by
        rw [← Nat.pow_succ]; exact Nat.pow_le_pow_right (by omega) (by omega)
      split
      · have : 1 ≤ 72 ^ j := Nat.pow_pos (by omega)
        exact ⟨Nat.zero_le _, by simp, this⟩
      · rename_i hS
        have hs := rsS_bd H (i := (ndA C j).up)
        have hw := H.w j hj
        refine ⟨Nat.le_trans (Nat.mul_le_mul i1 (show (ndA C j).w.toNat ≤ 72 by omega)) hp, Nat.mul_pos i2 (by omega), Nat.le_trans (Nat.mul_le_mul i3 (show (rsS C (ndA C j).up).toNat ≤ 72 by omega)) hp⟩
theorem pow72 {j : Nat} (hj : j < C.length) : 72 ^ j ≤ 10030613004288 := by
  have h8 := H.n8
  have : 72 ^ j ≤ 72 ^ 7 := Nat.pow_le_pow_right (by omega) (by omega)
  exact Nat.le_trans this (by decide)
end
section
variable {C : List Nd} {v : AV} (hv : IsSl 3 Nd.e C v) (H : CuOk C)
include hv H
theorem t77 : ∀ (j : Nat), j < C.length → ∀ st, Iso E 77 [cuV v, I j] st = some (ratV (red (exA C j).1 (exA C j).2)) := by
  intro j
  induction j using Nat.strongRecOn with
  | _ j ih =>
    intro hj st
    refine Iso_of (es _ _ _ _) e77 ?_
    simp only [f77]
    by_cases e : j = 0
    · subst e
      have e0 : red (exA C 0).1 (exA C 0).2 = (1, 1) := by rw [exA_zero]; rfl
      rw [e0]
      simp (disch := first | assumption | omega | (simp only [az]; done)) only [ru, eq_self, if_true, if_false, BEq.rfl, binI, AO.row?, splice, fillL, mmAll, loadV, storeV, zeros, Am.rowAt, Am.part, addOff, Nat.reduceAdd, Nat.reduceMul, Nat.reduceLeDiff, Nat.reduceSub, Nat.reduceLT, Int.reduceEq, Int.reduceLT, Int.reduceLE, Int.reduceGT, Int.reduceGE, Int.reduceAdd, Int.reduceSub, Int.reduceMul, Int.reduceNeg, Int.reduceToNat, reduceCtorEq, reduceIte, lenV_sl hv, view_sl hv, scalar_sl hv, cells_sl hv, pure_sl hv, BEq.rfl, finC, getRes, Option.some.injEq, exists_eq_left', view_agg]
      rfl
    · have hu := H.up j (by omega) hj
      have b0 : ((j : Int) == 0) = false := by simp [e]
      have hjl : (j : Int) < C.length := by omega
      have h101 := fun st => t101 hv H (ndA C j).up st
      have hx := exA_eq H (show 1 ≤ j by omega) hj
      by_cases hS : rsS C (ndA C j).up = 0
      · rw [if_pos hS] at hx
        have e0 : red (exA C j).1 (exA C j).2 = (0, 1) := by rw [hx]; rfl
        rw [e0]
        have bS : (rsS C (ndA C j).up == 0) = true := by simp [hS]
        simp (disch := first | assumption | omega | (simp only [az]; done)) only [ru, eq_self, if_true, if_false, BEq.rfl, binI, AO.row?, splice, fillL, mmAll, loadV, storeV, zeros, Am.rowAt, Am.part, addOff, Nat.reduceAdd, Nat.reduceMul, Nat.reduceLeDiff, Nat.reduceSub, Nat.reduceLT, Int.reduceEq, Int.reduceLT, Int.reduceLE, Int.reduceGT, Int.reduceGE, Int.reduceAdd, Int.reduceSub, Int.reduceMul, Int.reduceNeg, Int.reduceToNat, reduceCtorEq, reduceIte, lenV_sl hv, view_sl hv, scalar_sl hv, cells_sl hv, pure_sl hv, b0, elem_nd hv, Int.toNat_natCast, h101, bS, finC, getRes, Option.some.injEq, exists_eq_left', view_agg]
        rfl
      · rw [if_neg hS] at hx
        have bS : (rsS C (ndA C j).up == 0) = false := by simp [hS]
        obtain ⟨q, hq⟩ : ∃ q : Nat, (ndA C j).up = q := ⟨(ndA C j).up.toNat, by omega⟩
        have hrec := fun st => ih q (by omega) (by omega) st
        rw [hq, Int.toNat_natCast] at hx
        rw [hq] at h101 bS hS
        obtain ⟨x1, x2, x3⟩ := exA_bd H q (by omega)
        have hp7 := pow72 H (j := q) (by omega)
        obtain ⟨_, _, _, _, r2⟩ := red_spec (a := (exA C q).1) x2
        obtain ⟨l1, l2⟩ := red_le (a := (exA C q).1) (b := (exA C q).2)
        have hs := rsS_bd H (i := (q : Int))
        have hw := H.w j hj
        obtain ⟨s, hs'⟩ : ∃ s : Nat, rsS C q = s := ⟨(rsS C q).toNat, by omega⟩
        obtain ⟨w, hw'⟩ : ∃ w : Nat, (ndA C j).w = w := ⟨(ndA C j).w.toNat, by omega⟩
        rw [hs', Int.toNat_natCast, hw', Int.toNat_natCast] at hx
        rw [hs'] at h101 bS hs
        rw [hw'] at hw
        have hm := red_mul2 (a := (exA C q).1) (w := w) (s := s) x2
        obtain ⟨P, hP⟩ : ∃ P, P = red (exA C q).1 (exA C q).2 := ⟨_, rfl⟩
        rw [← hP] at hrec r2 l1 l2 hm
        have m1 : P.1 * w ≤ 10030613004288 * 9 := Nat.mul_le_mul (by omega) (by omega)
        have m2 : P.2 * s ≤ 10030613004288 * 72 := Nat.mul_le_mul (by omega) (by omega)
        have c1 : (P.1 : Int) * (w : Int) = ((P.1 * w : Nat) : Int) := rfl
        have c2 : (P.2 : Int) * (s : Int) = ((P.2 * s : Nat) : Int) := rfl
        have hps : 0 < P.2 * s := Nat.mul_pos r2 (by omega)
        rw [hx]
        simp only
        rw [← hm]
        obtain ⟨y1, hy1⟩ : ∃ y, y = P.1 * w := ⟨_, rfl⟩
        obtain ⟨y2, hy2⟩ : ∃ y, y = P.2 * s := ⟨_, rfl⟩
        rw [← hy1] at m1 c1 ⊢
        rw [← hy2] at m2 c2 hps ⊢
        have g1 := wr64 (n := (y1 : Int)) (by omega) (by omega)
        have g2 := wr64 (n := (y2 : Int)) (by omega) (by omega)
        have h102 := fun st => t102 (a := y1) (b := y2) (by omega) (by omega) hps st
        simp (disch := first | assumption | omega | (simp only [az]; done)) only [ru, eq_self, if_true, if_false, BEq.rfl, binI, AO.row?, splice, fillL, mmAll, loadV, storeV, zeros, Am.rowAt, Am.part, addOff, Nat.reduceAdd, Nat.reduceMul, Nat.reduceLeDiff, Nat.reduceSub, Nat.reduceLT, Int.reduceEq, Int.reduceLT, Int.reduceLE, Int.reduceGT, Int.reduceGE, Int.reduceAdd, Int.reduceSub, Int.reduceMul, Int.reduceNeg, Int.reduceToNat, reduceCtorEq, reduceIte, lenV_sl hv, view_sl hv, scalar_sl hv, cells_sl hv, pure_sl hv, b0, elem_nd hv, Int.toNat_natCast, hq, h101, bS, hrec, hw', c1, c2, g1, g2, h102, finC, getRes, Option.some.injEq, exists_eq_left', view_agg]
        done
end
section
variable {C : List Nd} {v : AV} (hv : IsSl 3 Nd.e C v) (hl : C.length ≤ 1000)
include hv hl
def exE (C : List Nd) (i : Int) : Int := fitE C (inR i 0 (C.length - 1)) []
def exR2 (C : List Nd) (i : Int) : Nat × Nat := if exE C i = 0 then red (exA C i.toNat).1 (exA C i.toNat).2 else (0, 0)
theorem t33 (i : Int) (st : Bool) : Iso E 33 [cuV v, I i] st = some (.tup [ratV (exR2 C i), I (exE C i)]) := by
  refine Iso_of (es _ _ _ _) e33 ?_
  simp only [f33]
  have hf := fun b st => t62 hv hl b (L := []) (pv := .nils) (.inr ⟨rfl, rfl⟩) (Nat.zero_le _) st
  unfold exR2
  by_cases h0 : exE C i = 0
  · have h0' := h0
    unfold exE at h0'
    obtain ⟨H, hi, _, _⟩ := fit_ok h0'
    have hi' := inR_iff.1 hi
    obtain ⟨j, rfl⟩ : ∃ q : Nat, i = q := ⟨i.toNat, by omega⟩
    have hb1 : ((0 : Int) != 0) = false := rfl
    have hf0 := fun st => hf (inR j 0 (C.length - 1)) st
    rw [h0'] at hf0
    rw [if_pos h0, h0, Int.toNat_natCast]
    simp (disch := first | assumption | omega | (simp only [az]; done)) only [ru, eq_self, if_true, if_false, BEq.rfl, binI, AO.row?, splice, fillL, mmAll, loadV, storeV, zeros, Am.rowAt, Am.part, addOff, Nat.reduceAdd, Nat.reduceMul, Nat.reduceLeDiff, Nat.reduceSub, Nat.reduceLT, Int.reduceEq, Int.reduceLT, Int.reduceLE, Int.reduceGT, Int.reduceGE, Int.reduceAdd, Int.reduceSub, Int.reduceMul, Int.reduceNeg, Int.reduceToNat, reduceCtorEq, reduceIte, lenV_sl hv, view_sl hv, scalar_sl hv, cells_sl hv, pure_sl hv, t70 hv hl, hf0, hb1, t64 hv, t77 hv H j (by omega), finC2, getRes, Option.some.injEq, exists_eq_left', view_agg]
    done
  · have hb0 : (fitE C (inR i 0 (C.length - 1)) [] != 0) = true := bne_iff_ne.2 h0
    rw [if_neg h0]
    simp (disch := first | assumption | omega | (simp only [az]; done)) only [ru, eq_self, if_true, if_false, BEq.rfl, binI, AO.row?, splice, fillL, mmAll, loadV, storeV, zeros, Am.rowAt, Am.part, addOff, Nat.reduceAdd, Nat.reduceMul, Nat.reduceLeDiff, Nat.reduceSub, Nat.reduceLT, Int.reduceEq, Int.reduceLT, Int.reduceLE, Int.reduceGT, Int.reduceGE, Int.reduceAdd, Int.reduceSub, Int.reduceMul, Int.reduceNeg, Int.reduceToNat, reduceCtorEq, reduceIte, lenV_sl hv, view_sl hv, scalar_sl hv, cells_sl hv, pure_sl hv, t70 hv hl, hf, hb0, finC2, getRes, Option.some.injEq, exists_eq_left', view_agg]
    rfl
end
end Go.Proofs.Ytaeijjfgfenfhaa.S

