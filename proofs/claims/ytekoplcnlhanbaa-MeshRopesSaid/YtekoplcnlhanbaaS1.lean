/-
The mathematics and the functions, one after another (S1).
-/
import Derived.Test.YtekoplcnlhanbaaAmX
import Derived.Test.YtekoplcnlhanbaaTab
import Derived.Test.YtekoplcnlhanbaaAmY

/-
Numbers, lists, the first of the best: what the stages share.
-/
namespace Go.Proofs.Ytekoplcnlhanbaa.S
set_option linter.unusedVariables false
set_option linter.unusedSimpArgs false

def mx (x y : Int) : Int := if y > x then y else x
theorem le_mx1 {x y : Int} : x ≤ mx x y := by unfold mx; split <;> omega
theorem le_mx2 {x y : Int} : y ≤ mx x y := by unfold mx; split <;> omega
theorem mx_le {x y z : Int} (h1 : x ≤ z) (h2 : y ≤ z) : mx x y ≤ z := by unfold mx; split <;> omega
def inR (n lo hi : Int) : Bool := decide (lo ≤ n) && decide (n ≤ hi)
theorem inR_iff {n lo hi : Int} : inR n lo hi = true ↔ lo ≤ n ∧ n ≤ hi := by simp [inR]
def sm : List Int → Int
  | [] => 0
  | a :: l => a + sm l
theorem sm_app : ∀ {a b : List Int}, sm (a ++ b) = sm a + sm b
  | [], b => by simp [sm]
  | x :: a, b => by simp [sm, sm_app (a := a)]; omega
theorem getD_mem {α : Type} [Inhabited α] {l : List α} {i : Nat} (h : i < l.length) : l.getD i default ∈ l := by
  rw [List.getD_eq_getElem?_getD, List.getElem?_eq_getElem h]; exact List.getElem_mem h
theorem mem_getD {α : Type} {d : α} {l : List α} {x : α} (h : x ∈ l) : ∃ i, i < l.length ∧ l.getD i d = x := by
  obtain ⟨i, hi, e⟩ := List.mem_iff_getElem.1 h
  exact ⟨i, hi, by rw [List.getD_eq_getElem?_getD, List.getElem?_eq_getElem hi]; exact e⟩
theorem snocRec {α : Type} (P : List α → Prop) (l : List α) (nil : P []) (snoc : ∀ l c, P l → P (l ++ [c])) : P l := by
  rw [← List.reverse_reverse l]
  induction l.reverse with
  | nil => exact nil
  | cons c l ih => rw [List.reverse_cons]; exact snoc _ _ ih
/-- a list without repeats in another one is no longer -/
theorem nodup_le {α : Type} [DecidableEq α] : ∀ {l m : List α}, l.Nodup → (∀ x ∈ l, x ∈ m) → l.length ≤ m.length
  | [], m, _, _ => by simp
  | a :: l, m, h, hm => by
    rw [List.nodup_cons] at h
    have h1 := nodup_le (l := l) (m := m.erase a) h.2 fun x hx => (List.mem_erase_of_ne (by rintro rfl; exact h.1 hx)).2 (hm x (by simp [hx]))
    have h2 := hm a (by simp)
    rw [List.length_erase_of_mem h2] at h1
    have := List.length_pos_of_mem h2
    simp only [List.length_cons]; omega
/-- the numbers of places, as integers -/
def ofN (l : List Nat) : List Int := l.map fun (n : Nat) => (n : Int)
end Go.Proofs.Ytekoplcnlhanbaa.S

/-
Lists that are made number by number, each after a rule; all of them, in order. Orders of holes, and when they are mended.
-/
namespace Go.Proofs.Ytekoplcnlhanbaa.S
set_option linter.unusedVariables false
set_option linter.unusedSimpArgs false

section
variable {q : List Int → Int → Bool} {k : Nat}
def enm (q : List Int → Int → Bool) (k : Nat) : Nat → List Int → List (List Int)
  | 0, F => [F]
  | d + 1, F => (List.range k).flatMap fun (i : Nat) => if q F i then enm q k d (F ++ [(i : Int)]) else []
def okE (q : List Int → Int → Bool) (k : Nat) (l : List Int) : Prop := ∀ i, i < l.length → 0 ≤ l.getD i 0 ∧ l.getD i 0 < k ∧ q (l.take i) (l.getD i 0) = true
theorem okE_nil : okE q k [] := fun i hi => by simp at hi
theorem okE_app {l m : List Int} (h : okE q k (l ++ m)) : okE q k l := fun i hi => by
  have := h i (by simp; omega)
  rwa [List.getD_eq_getElem?_getD, List.getElem?_append_left hi, ← List.getD_eq_getElem?_getD, List.take_append_of_le_length (by omega)] at this
theorem okE_snoc {l : List Int} {x : Int} : okE q k (l ++ [x]) ↔ okE q k l ∧ 0 ≤ x ∧ x < k ∧ q l x = true := by
  have at_ : (l ++ [x]).getD l.length 0 = x := by simp [List.getD_eq_getElem?_getD]
  have tk : (l ++ [x]).take l.length = l := by simp
  constructor
  · intro h
    have := h l.length (by simp)
    rw [at_, tk] at this
    exact ⟨okE_app h, this⟩
  · rintro ⟨h, hx⟩ i hi
    by_cases c : i = l.length
    · subst c; rw [at_, tk]; exact hx
    · have hl : i < l.length := by simp at hi; omega
      have := h i hl
      rwa [List.getD_eq_getElem?_getD, List.getElem?_append_left hl, ← List.getD_eq_getElem?_getD, List.take_append_of_le_length (by omega)]
theorem mem_enm : ∀ {d : Nat} {F G : List Int}, okE q k F → (G ∈ enm q k d F ↔ okE q k G ∧ ∃ T, G = F ++ T ∧ T.length = d)
  | 0, F, G, h => by
    simp only [enm, List.mem_singleton]
    constructor
    · rintro rfl; exact ⟨h, [], by simp, rfl⟩
    · rintro ⟨_, T, rfl, ht⟩; rw [List.eq_nil_of_length_eq_zero ht, List.append_nil]
  | d + 1, F, G, h => by
    simp only [enm, List.mem_flatMap, List.mem_range]
    constructor
    · rintro ⟨b, hb, hg⟩
      split at hg
      · rename_i hn
        obtain ⟨hp, T, rfl, ht⟩ := (mem_enm (okE_snoc.2 ⟨h, by omega, by omega, hn⟩)).1 hg
        exact ⟨hp, (b : Int) :: T, by simp, by simp [ht]⟩
      · simp at hg
    · rintro ⟨hp, T, rfl, ht⟩
      match T, ht with
      | x :: T, ht =>
        have e : F ++ x :: T = (F ++ [x]) ++ T := by simp
        rw [e] at hp
        have hx := okE_app hp
        have h3 := (okE_snoc.1 hx).2
        refine ⟨x.toNat, by omega, ?_⟩
        rw [show ((x.toNat : Nat) : Int) = x by omega, if_pos h3.2.2]
        exact (mem_enm hx).2 ⟨by rw [e]; exact hp, T, by simp, by simpa using ht⟩
theorem enm_len : ∀ {d : Nat} {F : List Int}, (enm q k d F).length ≤ k ^ d
  | 0, F => by simp [enm]
  | d + 1, F => by
    have : ∀ l : List Nat, (l.flatMap fun (b : Nat) => if q F b then enm q k d (F ++ [(b : Int)]) else []).length ≤ l.length * k ^ d := by
      intro l
      induction l with
      | nil => simp
      | cons a l il =>
        have := enm_len (d := d) (F := F ++ [(a : Int)])
        simp only [List.flatMap_cons, List.length_append, List.length_cons, Nat.succ_mul]
        split
        · omega
        · simp only [List.length_nil]; omega
    have h1 := this (List.range k)
    rw [List.length_range] at h1
    rw [enm, Nat.pow_succ, Nat.mul_comm]; exact h1
/-- a stricter rule leaves fewer -/
theorem okE_mono {q' : List Int → Int → Bool} (h : ∀ F i, q F i = true → q' F i = true) {l : List Int} (hl : okE q k l) : okE q' k l := fun i hi => ⟨(hl i hi).1, (hl i hi).2.1, h _ _ (hl i hi).2.2⟩
end

structure Hl where
  f : Int
  lo : Int
  hi : Int
  h : Int
  deriving Inhabited, DecidableEq
structure Pr where
  a : Int
  b : Int
  deriving Inhabited, DecidableEq
structure Net where
  m : Int
  hs : List Hl
  ps : List Pr

/-- may a hole come next? -/
def may (ps : List Pr) (F : List Int) (i : Int) : Bool := !decide (i ∈ F) && ps.all fun p => !decide (p.b = i) || decide (p.a ∈ F)
abbrev ords (n : Net) : List (List Int) := enm (may n.ps) n.hs.length n.hs.length []
def isO (n : Net) (l : List Int) : Prop := l.length = n.hs.length ∧ okE (may n.ps) n.hs.length l
theorem mem_ords {n : Net} {l : List Int} : l ∈ ords n ↔ isO n l := by
  rw [mem_enm okE_nil]
  constructor
  · rintro ⟨h, T, rfl, ht⟩; exact ⟨by simpa using ht, h⟩
  · rintro ⟨h1, h2⟩; exact ⟨h2, l, by simp, h1⟩

/-! when a hole is mended -/
/-- the first of the least among the first numbers of a list -/
def soo (l : List Int) : Nat → Nat
  | 0 => 0
  | k + 1 => if l.getD k 0 < l.getD (soo l k) 0 then k else soo l k
theorem soo_lt {l : List Int} : ∀ {k : Nat}, 0 < k → soo l k < k
  | 0, h => absurd h (Nat.lt_irrefl 0)
  | k + 1, _ => by
    rw [soo]; split
    · omega
    · by_cases c : k = 0
      · subst c; simp [soo]
      · have := soo_lt (l := l) (k := k) (by omega); omega
theorem soo_le {l : List Int} : ∀ {k i : Nat}, i < k → l.getD (soo l k) 0 ≤ l.getD i 0
  | k + 1, i, hi => by
    rw [soo]
    by_cases c : l.getD k 0 < l.getD (soo l k) 0
    · rw [if_pos c]
      by_cases e : i = k
      · subst e; exact Int.le_refl _
      · have := soo_le (l := l) (k := k) (i := i) (by omega); omega
    · rw [if_neg c]
      by_cases e : i = k
      · subst e; omega
      · exact soo_le (by omega)
/-- how many numbers of a list are at most t -/
def cnt (l : List Int) (t : Int) : Nat := (l.filter fun x => decide (x ≤ t)).length
theorem cnt_set : ∀ {l : List Int} {i : Nat} {v t : Int}, i < l.length → cnt (l.set i v) t + (if l.getD i 0 ≤ t then 1 else 0) = cnt l t + (if v ≤ t then 1 else 0)
  | a :: l, 0, v, t, _ => by
    simp only [cnt, List.set_cons_zero, List.filter_cons, List.getD_cons_zero]
    by_cases c : v ≤ t <;> by_cases d : a ≤ t <;> simp [c, d]
  | a :: l, i + 1, v, t, h => by
    have := cnt_set (l := l) (i := i) (v := v) (t := t) (by simpa using h)
    simp only [cnt, List.set_cons_succ, List.filter_cons, List.getD_cons_succ] at this ⊢
    generalize (if l.getD i 0 ≤ t then 1 else 0) = x at this ⊢
    generalize (if v ≤ t then 1 else 0) = y at this ⊢
    by_cases d : a ≤ t
    · simp only [d, decide_true, if_true, List.length_cons]; omega
    · simp only [d, decide_false, Bool.false_eq_true, if_false]; exact this
theorem cnt_zero {l : List Int} {t : Int} : cnt l t = 0 ↔ ∀ i, i < l.length → t < l.getD i 0 := by
  rw [cnt, List.length_eq_zero_iff, List.filter_eq_nil_iff]
  constructor
  · intro h i hi
    have := h (l.getD i 0) (by rw [List.getD_eq_getElem?_getD, List.getElem?_eq_getElem hi]; exact List.getElem_mem hi)
    simp only [decide_eq_true_eq] at this; omega
  · intro h x hx
    obtain ⟨i, hi, rfl⟩ := mem_getD (d := 0) hx
    have := h i hi
    simp only [decide_eq_true_eq]; omega
/-- menders who are free no later -/
def Dom (A B : List Int) : Prop := ∀ t, cnt B t ≤ cnt A t
theorem dom_min {A B : List Int} (h : Dom A B) (hB : 0 < B.length) : A.getD (soo A A.length) 0 ≤ B.getD (soo B B.length) 0 := by
  have h1 := h (B.getD (soo B B.length) 0)
  have h2 : cnt B (B.getD (soo B B.length) 0) ≠ 0 := fun e => by
    have := cnt_zero.1 e _ (soo_lt (l := B) hB)
    omega
  have h3 : cnt A (B.getD (soo B B.length) 0) ≠ 0 := by omega
  by_cases c : ∃ i, i < A.length ∧ A.getD i 0 ≤ B.getD (soo B B.length) 0
  · obtain ⟨i, hi, hc⟩ := c
    exact Int.le_trans (soo_le hi) hc
  · exact absurd (cnt_zero.2 fun i hi => by
      by_cases d : A.getD i 0 ≤ B.getD (soo B B.length) 0
      · exact absurd ⟨i, hi, d⟩ c
      · omega) h3
theorem dom_step {A B : List Int} (h : Dom A B) (hA : 0 < A.length) (hB : 0 < B.length) {u v : Int} (hv : u ≤ v) (hb : B.getD (soo B B.length) 0 ≤ v) : Dom (A.set (soo A A.length) u) (B.set (soo B B.length) v) := by
  intro t
  have hm := dom_min h hB
  have a := cnt_set (l := A) (v := u) (t := t) (soo_lt (l := A) hA)
  have b := cnt_set (l := B) (v := v) (t := t) (soo_lt (l := B) hB)
  have ht := h t
  have hz : t < B.getD (soo B B.length) 0 → cnt B t = 0 := fun c => cnt_zero.2 fun i hi => by
    have := soo_le (l := B) hi
    omega
  by_cases c1 : v ≤ t
  · rw [if_pos (show u ≤ t by omega), if_pos (show A.getD (soo A A.length) 0 ≤ t by omega)] at a
    rw [if_pos c1, if_pos (show B.getD (soo B B.length) 0 ≤ t by omega)] at b
    omega
  · rw [if_neg c1] at b
    by_cases c2 : B.getD (soo B B.length) 0 ≤ t
    · rw [if_pos c2] at b
      rw [if_pos (show A.getD (soo A A.length) 0 ≤ t by omega)] at a
      omega
    · rw [if_neg c2] at b
      have := hz (by omega)
      omega
end Go.Proofs.Ytekoplcnlhanbaa.S

/-
When holes are mended: a net with less to do, or more menders, is not later.
-/
namespace Go.Proofs.Ytekoplcnlhanbaa.S
set_option linter.unusedVariables false
set_option linter.unusedSimpArgs false

/-- the hour at which a hole can begin, if its mender can at b: not before those that it waits for are mended -/
def beg (out : List Int) (i : Int) : List Pr → Int → Int
  | [], b => b
  | p :: ps, b => beg out i ps (if p.b = i then mx b (out.getD p.a.toNat 0) else b)
theorem beg_le {out : List Int} {i x : Int} : ∀ {ps : List Pr} {b : Int}, beg out i ps b ≤ x ↔ b ≤ x ∧ ∀ p ∈ ps, p.b = i → out.getD p.a.toNat 0 ≤ x
  | [], b => by simp [beg]
  | p :: ps, b => by
    rw [beg, beg_le]
    simp only [List.mem_cons, forall_eq_or_imp]
    by_cases c : p.b = i
    · simp only [c, if_true, true_implies]
      constructor
      · rintro ⟨h1, h2⟩; exact ⟨Int.le_trans le_mx1 h1, Int.le_trans le_mx2 h1, h2⟩
      · rintro ⟨h1, h2, h3⟩; exact ⟨mx_le h1 h2, h3⟩
    · simp only [c, if_false, false_implies, true_and]
theorem beg_app {out : List Int} {i : Int} : ∀ {ps : List Pr} {p : Pr} {b : Int}, beg out i (ps ++ [p]) b = (if p.b = i then mx (beg out i ps b) (out.getD p.a.toNat 0) else beg out i ps b)
  | [], p, b => rfl
  | q :: ps, p, b => by rw [List.cons_append, beg, beg_app, beg]

/-- the hour at which the next hole is mended -/
def vAt (n : Net) (out free : List Int) (x : Int) : Int := beg out x n.ps (mx (free.getD (soo free free.length) 0) (n.hs.getD x.toNat default).f) + (n.hs.getD x.toNat default).h
def stp (n : Net) (st : List Int × List Int) (x : Int) : List Int × List Int := (st.1.set x.toNat (vAt n st.1 st.2 x), st.2.set (soo st.2 st.2.length) (vAt n st.1 st.2 x))
def st0 (n : Net) : List Int × List Int := (List.replicate n.hs.length 0, List.replicate n.m.toNat 0)
def tms2 (n : Net) (l : List Int) : List Int × List Int := l.foldl (stp n) (st0 n)
abbrev tms (n : Net) (l : List Int) : List Int := (tms2 n l).1
theorem tms2_snoc {n : Net} {l : List Int} {x : Int} : tms2 n (l ++ [x]) = stp n (tms2 n l) x := by simp [tms2, List.foldl_append]
theorem tms2_len {n : Net} {l : List Int} : (tms2 n l).1.length = n.hs.length ∧ (tms2 n l).2.length = n.m.toNat := by
  refine snocRec (fun l => (tms2 n l).1.length = n.hs.length ∧ (tms2 n l).2.length = n.m.toNat) l (by simp [tms2, st0]) fun l x ih => ?_
  rw [tms2_snoc]; simpa [stp] using ih
theorem vAt_ge {n : Net} {out free : List Int} {x : Int} : free.getD (soo free free.length) 0 + (n.hs.getD x.toNat default).h ≤ vAt n out free x ∧ (n.hs.getD x.toNat default).f + (n.hs.getD x.toNat default).h ≤ vAt n out free x ∧ ∀ p ∈ n.ps, p.b = x → out.getD p.a.toNat 0 + (n.hs.getD x.toNat default).h ≤ vAt n out free x := by
  obtain ⟨h1, h2⟩ := (beg_le (out := out) (i := x) (ps := n.ps) (b := mx (free.getD (soo free free.length) 0) (n.hs.getD x.toNat default).f)).1 (Int.le_refl _)
  have a := le_mx1 (x := free.getD (soo free free.length) 0) (y := (n.hs.getD x.toNat default).f)
  have b := le_mx2 (x := free.getD (soo free free.length) 0) (y := (n.hs.getD x.toNat default).f)
  unfold vAt
  refine ⟨by omega, by omega, fun p hp e => ?_⟩
  have := h2 p hp e
  omega

/-- the second net has part of the holes of the first one, by f, each no later and no longer, waiting for no more; and as many menders, or more -/
structure Easier (n n' : Net) (f : Int → Int) : Prop where
  m0 : 0 < n.m
  m : n.m ≤ n'.m
  r : ∀ j : Int, 0 ≤ j → j < n'.hs.length → 0 ≤ f j ∧ f j < n.hs.length
  i : ∀ j : Int, 0 ≤ j → j < n'.hs.length → ∀ j' : Int, 0 ≤ j' → j' < n'.hs.length → f j = f j' → j = j'
  t : ∀ j : Int, 0 ≤ j → j < n'.hs.length → (n'.hs.getD j.toNat default).f ≤ (n.hs.getD (f j).toNat default).f
  h : ∀ j : Int, 0 ≤ j → j < n'.hs.length → 0 ≤ (n'.hs.getD j.toNat default).h ∧ (n'.hs.getD j.toNat default).h ≤ (n.hs.getD (f j).toNat default).h
  h0 : ∀ j : Int, 0 ≤ j → j < n.hs.length → 0 ≤ (n.hs.getD j.toNat default).h
  w : ∀ j : Int, 0 ≤ j → j < n'.hs.length → ∀ p ∈ n'.ps, p.b = j → 0 ≤ p.a ∧ p.a < n'.hs.length ∧ ∃ q ∈ n.ps, q.b = f j ∧ q.a = f p.a
/-- the second list is the first one's part that the second net has -/
inductive Part (n n' : Net) (f : Int → Int) : List Int → List Int → Prop where
  | nil : Part n n' f [] []
  | both {l l' : List Int} {j : Int} : Part n n' f l l' → 0 ≤ j → j < n'.hs.length → Part n n' f (l ++ [f j]) (l' ++ [j])
  | skip {l l' : List Int} {x : Int} : Part n n' f l l' → 0 ≤ x → x < n.hs.length → (∀ j : Int, 0 ≤ j → j < n'.hs.length → f j ≠ x) → Part n n' f (l ++ [x]) l'
theorem cnt_rep {k : Nat} {t : Int} : cnt (List.replicate k 0) t = if 0 ≤ t then k else 0 := by
  rw [cnt, List.filter_replicate]
  by_cases h : 0 ≤ t <;> simp [h]
theorem easier {n n' : Net} {f : Int → Int} (E : Easier n n' f) {l l' : List Int} (P : Part n n' f l l') : Dom (tms2 n' l').2 (tms2 n l).2 ∧ ∀ j : Int, 0 ≤ j → j < n'.hs.length → (tms n' l').getD j.toNat 0 ≤ (tms n l).getD (f j).toNat 0 := by
  have m0 := E.m0; have m1 := E.m
  induction P with
  | nil =>
    refine ⟨fun t => ?_, fun j h0 h1 => ?_⟩
    · show cnt (List.replicate n.m.toNat 0) t ≤ cnt (List.replicate n'.m.toNat 0) t
      rw [cnt_rep, cnt_rep]; split <;> omega
    · have := E.r j h0 h1
      show (List.replicate n'.hs.length (0 : Int)).getD j.toNat 0 ≤ (List.replicate n.hs.length (0 : Int)).getD (f j).toNat 0
      simp only [List.getD_eq_getElem?_getD, List.getElem?_replicate]
      split <;> split <;> simp
  | @both l l' j P j0 j1 ih =>
    obtain ⟨ih1, ih2⟩ := ih
    have l1 := (tms2_len (n := n) (l := l)); have l2 := (tms2_len (n := n') (l := l'))
    have fr := E.r j j0 j1
    have le : vAt n' (tms2 n' l').1 (tms2 n' l').2 j ≤ vAt n (tms2 n l).1 (tms2 n l).2 (f j) := by
      obtain ⟨g1, g2, g3⟩ := vAt_ge (n := n) (out := (tms2 n l).1) (free := (tms2 n l).2) (x := f j)
      have hm := dom_min ih1 (by omega)
      have ht := E.t j j0 j1
      have hh := E.h j j0 j1
      have : beg (tms2 n' l').1 j n'.ps (mx ((tms2 n' l').2.getD (soo (tms2 n' l').2 (tms2 n' l').2.length) 0) (n'.hs.getD j.toNat default).f) ≤ vAt n (tms2 n l).1 (tms2 n l).2 (f j) - (n.hs.getD (f j).toNat default).h := by
        refine beg_le.2 ⟨mx_le (by omega) (by omega), fun p hp e => ?_⟩
        obtain ⟨p0, p1, q, hq, q1, q2⟩ := E.w j j0 j1 p hp e
        have a := ih2 p.a p0 p1
        have b := g3 q hq q1
        rw [q2] at b
        have a' : (tms2 n' l').1.getD p.a.toNat 0 ≤ (tms2 n l).1.getD (f p.a).toNat 0 := a
        omega
      show beg _ _ _ _ + _ ≤ _
      omega
    rw [tms2_snoc, tms2_snoc]
    refine ⟨dom_step ih1 (by omega) (by omega) le ?_, fun k k0 k1 => ?_⟩
    · have := (vAt_ge (n := n) (out := (tms2 n l).1) (free := (tms2 n l).2) (x := f j)).1
      have := E.h0 (f j) fr.1 fr.2
      omega
    · show (tms n' (l' ++ [j])).getD k.toNat 0 ≤ (tms n (l ++ [f j])).getD (f k).toNat 0
      unfold tms
      rw [tms2_snoc, tms2_snoc]
      show ((tms2 n' l').1.set j.toNat _).getD k.toNat 0 ≤ ((tms2 n l).1.set (f j).toNat _).getD (f k).toNat 0
      have fk := E.r k k0 k1
      simp only [List.getD_eq_getElem?_getD]
      by_cases c : j = k
      · subst c
        rw [List.getElem?_set_self (by omega), List.getElem?_set_self (by omega)]
        exact le
      · have c2 : f j ≠ f k := fun e => c (E.i j j0 j1 k k0 k1 e)
        rw [List.getElem?_set_ne (by omega), List.getElem?_set_ne (by omega)]
        have := ih2 k k0 k1
        simpa only [List.getD_eq_getElem?_getD] using this
  | @skip l l' x P x0 x1 hx ih =>
    obtain ⟨ih1, ih2⟩ := ih
    have l1 := (tms2_len (n := n) (l := l))
    have hB : 0 < (tms2 n l).2.length := by omega
    have ge := (vAt_ge (n := n) (out := (tms2 n l).1) (free := (tms2 n l).2) (x := x)).1
    have h0 := E.h0 x x0 x1
    refine ⟨fun t => ?_, fun k k0 k1 => ?_⟩
    · rw [tms2_snoc]
      have a := cnt_set (l := (tms2 n l).2) (v := vAt n (tms2 n l).1 (tms2 n l).2 x) (t := t) (soo_lt (l := (tms2 n l).2) hB)
      have b := ih1 t
      show cnt ((tms2 n l).2.set _ _) t ≤ _
      split at a <;> split at a <;> omega
    · unfold tms
      rw [tms2_snoc]
      show (tms2 n' l').1.getD k.toNat 0 ≤ ((tms2 n l).1.set x.toNat _).getD (f k).toNat 0
      have fk := E.r k k0 k1
      have c2 := hx k k0 k1
      simp only [List.getD_eq_getElem?_getD]
      rw [List.getElem?_set_ne (by omega)]
      have := ih2 k k0 k1
      simpa only [List.getD_eq_getElem?_getD] using this
end Go.Proofs.Ytekoplcnlhanbaa.S

/-
One mender, no ropes: who mends by the rule loses least.
-/
namespace Go.Proofs.Ytekoplcnlhanbaa.S
set_option linter.unusedVariables false
set_option linter.unusedSimpArgs false

theorem sm_cons {a : Int} {l : List Int} : sm (a :: l) = a + sm l := rfl
theorem sm_perm {l m : List Int} (h : List.Perm l m) : sm l = sm m := by
  induction h with
  | nil => rfl
  | cons a _ ih => rw [sm_cons, sm_cons, ih]
  | swap a b l => rw [sm_cons, sm_cons, sm_cons, sm_cons]; omega
  | trans _ _ a b => rw [a, b]
theorem sm_mono {f g : Int → Int} : ∀ {l : List Int}, (∀ x ∈ l, f x ≤ g x) → sm (l.map f) ≤ sm (l.map g)
  | [], _ => Int.le_refl _
  | a :: l, h => by
    rw [List.map_cons, List.map_cons, sm_cons, sm_cons]
    have h1 := h a (by simp)
    have h2 := sm_mono (f := f) (g := g) (l := l) fun x hx => h x (by simp [hx])
    omega
section
variable {w h : Int → Int}
end
end Go.Proofs.Ytekoplcnlhanbaa.S

/-
Orders are all holes, each once; losses; a net with less to do loses no more.
-/
namespace Go.Proofs.Ytekoplcnlhanbaa.S
set_option linter.unusedVariables false
set_option linter.unusedSimpArgs false

theorem may_not {ps : List Pr} {F : List Int} {i : Int} (h : may ps F i = true) : i ∉ F := by
  simp only [may, Bool.and_eq_true, Bool.not_eq_true', decide_eq_false_iff_not] at h
  exact h.1
theorem may_pair {ps : List Pr} {F : List Int} {i : Int} (h : may ps F i = true) {p : Pr} (hp : p ∈ ps) (e : p.b = i) : p.a ∈ F := by
  simp only [may, Bool.and_eq_true, List.all_eq_true, Bool.or_eq_true, Bool.not_eq_true', decide_eq_false_iff_not, decide_eq_true_eq] at h
  rcases h.2 p hp with h | h
  · exact absurd e h
  · exact h
theorem ord_nodup {ps : List Pr} {k : Nat} {l : List Int} : okE (may ps) k l → l.Nodup := by
  refine snocRec (fun l => okE (may ps) k l → l.Nodup) l (fun _ => List.nodup_nil) fun l x ih h => ?_
  obtain ⟨h1, _, _, h2⟩ := okE_snoc.1 h
  rw [List.nodup_append]
  exact ⟨ih h1, by simp, fun a ha b hb e => by simp only [List.mem_singleton] at hb; subst hb; subst e; exact may_not h2 ha⟩
theorem ord_in {q : List Int → Int → Bool} {k : Nat} {l : List Int} (h : okE q k l) {x : Int} (hx : x ∈ l) : 0 ≤ x ∧ x < k := by
  obtain ⟨i, hi, rfl⟩ := mem_getD (d := 0) hx
  exact ⟨(h i hi).1, (h i hi).2.1⟩
theorem mem_rng {k : Nat} {x : Int} : x ∈ ofN (List.range k) ↔ 0 ≤ x ∧ x < k := by
  simp only [ofN, List.mem_map, List.mem_range]
  constructor
  · rintro ⟨n, hn, rfl⟩; omega
  · rintro ⟨h0, h1⟩; exact ⟨x.toNat, by omega, by omega⟩
theorem rng_nodup {k : Nat} : (ofN (List.range k)).Nodup := by
  simp only [List.Nodup, ofN, List.pairwise_map]
  exact List.pairwise_lt_range.imp fun h => by omega
theorem rng_len {k : Nat} : (ofN (List.range k)).length = k := by simp [ofN]
theorem ord_perm {n : Net} {l : List Int} (h : isO n l) : List.Perm l (ofN (List.range n.hs.length)) := by
  have hn := ord_nodup h.2
  refine (List.perm_ext_iff_of_nodup hn rng_nodup).2 fun x => ⟨fun hx => mem_rng.2 (ord_in h.2 hx), fun hx => ?_⟩
  by_cases c : x ∈ l
  · exact c
  · have := nodup_le (l := x :: l) (m := ofN (List.range n.hs.length)) (List.nodup_cons.2 ⟨c, hn⟩) (fun y hy => by
      rcases List.mem_cons.1 hy with rfl | hy
      · exact hx
      · exact mem_rng.2 (ord_in h.2 hy))
    rw [rng_len, List.length_cons, h.1] at this
    omega
/-- part of numbers that are not below 0 -/
theorem sm_sub {a : Int → Int} : ∀ {l m : List Int}, l.Nodup → (∀ x ∈ l, x ∈ m) → (∀ x ∈ m, 0 ≤ a x) → sm (l.map a) ≤ sm (m.map a)
  | [], m, _, _, h => by
    show (0 : Int) ≤ _
    have := sm_mono (f := fun _ => 0) (g := a) (l := m) h
    have z : ∀ l : List Int, sm (l.map fun _ => (0 : Int)) = 0 := by
      intro l; induction l with
      | nil => rfl
      | cons b l ih => rw [List.map_cons, sm_cons, ih]; rfl
    rw [z] at this; exact this
  | x :: l, m, hn, hs, h => by
    obtain ⟨h1, h2⟩ := List.nodup_cons.1 hn
    have hx := hs x (by simp)
    have p := List.perm_cons_erase hx
    have ih := sm_sub (l := l) (m := m.erase x) h2 (fun y hy => (List.mem_erase_of_ne (fun e => h1 (by rw [← e]; exact hy))).2 (hs y (by simp [hy]))) fun y hy => h y (List.mem_of_mem_erase hy)
    rw [sm_perm (p.map a), List.map_cons, List.map_cons, sm_cons, sm_cons]
    omega
/-- what is lost by an order when r is the rate of each hole -/
def los (n : Net) (r : Int → Int) (l : List Int) : Int := sm ((ofN (List.range n.hs.length)).map fun x => r x * ((tms n l).getD x.toNat 0 - (n.hs.getD x.toNat default).f))
def hiR (n : Net) (x : Int) : Int := (n.hs.getD x.toNat default).hi
def loR (n : Net) (x : Int) : Int := (n.hs.getD x.toNat default).lo
/-- each hole of an order is mended its hours after it was torn, at the earliest -/
theorem tms_ge {n : Net} {l : List Int} : okE (may n.ps) n.hs.length l → ∀ x ∈ l, (n.hs.getD x.toNat default).f + (n.hs.getD x.toNat default).h ≤ (tms n l).getD x.toNat 0 := by
  refine snocRec (fun l => okE (may n.ps) n.hs.length l → ∀ x ∈ l, (n.hs.getD x.toNat default).f + (n.hs.getD x.toNat default).h ≤ (tms n l).getD x.toNat 0) l (fun _ x hx => by simp at hx) fun l y ih h x hx => ?_
  obtain ⟨h1, h2, h3, h4⟩ := okE_snoc.1 h
  have ll := (tms2_len (n := n) (l := l)).1
  unfold tms
  rw [tms2_snoc]
  show _ ≤ ((tms2 n l).1.set y.toNat _).getD x.toNat 0
  rw [List.getD_eq_getElem?_getD (l := List.set _ _ _)]
  by_cases c : x = y
  · subst c
    rw [List.getElem?_set_self (by omega)]
    exact vAt_ge.2.1
  · have hx' : x ∈ l := by
      rcases List.mem_append.1 hx with h | h
      · exact h
      · simp only [List.mem_singleton] at h; exact absurd h c
    have hb := ord_in h1 hx'
    rw [List.getElem?_set_ne (by omega), ← List.getD_eq_getElem?_getD]
    exact ih h1 x hx'
/-- a net with less to do loses no more -/
theorem los_le {n n' : Net} {f : Int → Int} (E : Easier n n' f) {l l' : List Int} (P : Part n n' f l l') (O : isO n l) (hr : ∀ x : Int, 0 ≤ x → x < n.hs.length → 0 ≤ (n.hs.getD x.toNat default).h ∧ 0 ≤ hiR n x)
    (hf : ∀ j : Int, 0 ≤ j → j < n'.hs.length → (n'.hs.getD j.toNat default).f = (n.hs.getD (f j).toNat default).f ∧ 0 ≤ hiR n' j ∧ hiR n' j ≤ hiR n (f j)) (O' : isO n' l') : los n' (hiR n') l' ≤ los n (hiR n) l := by
  have e := (easier E P).2
  have nn : ∀ x : Int, 0 ≤ x → x < n.hs.length → 0 ≤ (tms n l).getD x.toNat 0 - (n.hs.getD x.toNat default).f := fun x h0 h1 => by
    have := tms_ge O.2 x ((ord_perm O).mem_iff.2 (mem_rng.2 ⟨h0, h1⟩))
    have := (hr x h0 h1).1
    omega
  have nn' : ∀ j : Int, 0 ≤ j → j < n'.hs.length → 0 ≤ (tms n' l').getD j.toNat 0 - (n'.hs.getD j.toNat default).f := fun j h0 h1 => by
    have := tms_ge O'.2 j ((ord_perm O').mem_iff.2 (mem_rng.2 ⟨h0, h1⟩))
    have := (E.h j h0 h1).1
    omega
  have s1 : los n' (hiR n') l' ≤ sm ((ofN (List.range n'.hs.length)).map fun j => hiR n (f j) * ((tms n l).getD (f j).toNat 0 - (n.hs.getD (f j).toNat default).f)) := by
    refine sm_mono fun j hj => ?_
    obtain ⟨j0, j1⟩ := mem_rng.1 hj
    obtain ⟨a1, a2, a3⟩ := hf j j0 j1
    have a4 := e j j0 j1
    have a5 := nn' j j0 j1
    exact Int.mul_le_mul a3 (by omega) a5 (by omega)
  refine Int.le_trans s1 ?_
  have s2 := sm_sub (a := fun x => hiR n x * ((tms n l).getD x.toNat 0 - (n.hs.getD x.toNat default).f)) (l := (ofN (List.range n'.hs.length)).map f) (m := ofN (List.range n.hs.length)) (by
    rw [List.Nodup, List.pairwise_map]
    refine rng_nodup.imp_of_mem fun {x y} hx hy hne => ?_
    obtain ⟨x0, x1⟩ := mem_rng.1 hx
    obtain ⟨y0, y1⟩ := mem_rng.1 hy
    exact fun c => hne (E.i x x0 x1 y y0 y1 c)) (fun x hx => by
    obtain ⟨j, hj, rfl⟩ := List.mem_map.1 hx
    obtain ⟨j0, j1⟩ := mem_rng.1 hj
    exact mem_rng.2 (E.r j j0 j1)) fun x hx => by
    obtain ⟨x0, x1⟩ := mem_rng.1 hx
    exact Int.mul_nonneg (hr x x0 x1).2 (nn x x0 x1)
  rw [List.map_map] at s2
  exact s2
end Go.Proofs.Ytekoplcnlhanbaa.S

/-
More menders, fewer ropes, a hole less: orders of the one net and of the other.
-/
namespace Go.Proofs.Ytekoplcnlhanbaa.S
set_option linter.unusedVariables false
set_option linter.unusedSimpArgs false

theorem part_same {n n' : Net} (hl : n'.hs.length = n.hs.length) {q : List Int → Int → Bool} {l : List Int} : okE q n.hs.length l → Part n n' id l l := by
  refine snocRec (fun l => okE q n.hs.length l → Part n n' id l l) l (fun _ => .nil) fun l x ih h => ?_
  obtain ⟨h1, h2, h3, _⟩ := okE_snoc.1 h
  exact .both (ih h1) h2 (by rw [hl]; exact h3)
/-- fewer ropes -/
theorem may_sub {ps ps' : List Pr} (h : ∀ p ∈ ps', p ∈ ps) {F : List Int} {i : Int} (hm : may ps F i = true) : may ps' F i = true := by
  simp only [may, Bool.and_eq_true, List.all_eq_true] at hm ⊢
  exact ⟨hm.1, fun p hp => hm.2 p (h p hp)⟩
theorem easier_same {n n' : Net} (m0 : 0 < n.m) (hm : n.m ≤ n'.m) (hh : n'.hs.length = n.hs.length) (ht : ∀ j : Int, 0 ≤ j → j < n.hs.length → (n'.hs.getD j.toNat default).f ≤ (n.hs.getD j.toNat default).f ∧ 0 ≤ (n'.hs.getD j.toNat default).h ∧ (n'.hs.getD j.toNat default).h ≤ (n.hs.getD j.toNat default).h)
    (hp : ∀ p ∈ n'.ps, p ∈ n.ps ∧ 0 ≤ p.a ∧ p.a < n.hs.length) : Easier n n' id where
  m0 := m0
  m := hm
  r := fun j h0 h1 => ⟨h0, by rw [hh] at h1; exact h1⟩
  i := fun j _ _ j' _ _ e => e
  t := fun j h0 h1 => (ht j h0 (by rw [hh] at h1; exact h1)).1
  h := fun j h0 h1 => (ht j h0 (by rw [hh] at h1; exact h1)).2
  h0 := fun j h0 h1 => Int.le_trans (ht j h0 h1).2.1 (ht j h0 h1).2.2
  w := fun j h0 h1 p hp' e => ⟨(hp p hp').2.1, by rw [hh]; exact (hp p hp').2.2, p, (hp p hp').1, e, rfl⟩

/-! a hole less -/
def sh (r x : Int) : Int := if r < x then x - 1 else x
section
variable {n : Net} {r : Nat}
end
end Go.Proofs.Ytekoplcnlhanbaa.S

/-
How late holes are mended at most; regret.
-/
namespace Go.Proofs.Ytekoplcnlhanbaa.S
set_option linter.unusedVariables false
set_option linter.unusedSimpArgs false

/-- holes as a valid net has them -/
structure HsOk (hs : List Hl) : Prop where
  le : hs.length ≤ 6
  h : ∀ x ∈ hs, 0 ≤ x.f ∧ x.f ≤ 20 ∧ 0 ≤ x.lo ∧ x.lo ≤ x.hi ∧ x.hi ≤ 20 ∧ 1 ≤ x.h ∧ x.h ≤ 9
theorem HsOk.at {hs : List Hl} (H : HsOk hs) (x : Int) : 0 ≤ (hs.getD x.toNat default).f ∧ (hs.getD x.toNat default).f ≤ 20 ∧ 0 ≤ (hs.getD x.toNat default).lo ∧ (hs.getD x.toNat default).lo ≤ (hs.getD x.toNat default).hi ∧ (hs.getD x.toNat default).hi ≤ 20 ∧ 0 ≤ (hs.getD x.toNat default).h ∧ (hs.getD x.toNat default).h ≤ 9 := by
  by_cases c : x.toNat < hs.length
  · have := H.h _ (getD_mem c); omega
  · rw [List.getD_eq_getElem?_getD, List.getElem?_eq_none (by omega)]; decide
theorem getD_set_le {l : List Int} {i j : Nat} {v b : Int} (h : ∀ j, 0 ≤ l.getD j 0 ∧ l.getD j 0 ≤ b) (h0 : 0 ≤ v) (h1 : v ≤ b) : 0 ≤ (l.set i v).getD j 0 ∧ (l.set i v).getD j 0 ≤ b := by
  simp only [List.getD_eq_getElem?_getD, List.getElem?_set] at h ⊢
  by_cases c : i = j
  · subst c
    rw [if_pos rfl]
    split
    · exact ⟨h0, h1⟩
    · exact ⟨Int.le_refl _, by show (0 : Int) ≤ b; omega⟩
  · rw [if_neg c]; exact h j
/-- after so many holes no hour is later than this -/
theorem tms_le {n : Net} (H : HsOk n.hs) {l : List Int} : (∀ j, 0 ≤ (tms2 n l).1.getD j 0 ∧ (tms2 n l).1.getD j 0 ≤ 20 + 9 * l.length) ∧ ∀ j, 0 ≤ (tms2 n l).2.getD j 0 ∧ (tms2 n l).2.getD j 0 ≤ 20 + 9 * l.length := by
  refine snocRec (fun l => (∀ j, 0 ≤ (tms2 n l).1.getD j 0 ∧ (tms2 n l).1.getD j 0 ≤ 20 + 9 * l.length) ∧ ∀ j, 0 ≤ (tms2 n l).2.getD j 0 ∧ (tms2 n l).2.getD j 0 ≤ 20 + 9 * l.length) l ?_ fun l x ih => ?_
  · have z : ∀ (k j : Nat), 0 ≤ (List.replicate k (0 : Int)).getD j 0 ∧ (List.replicate k (0 : Int)).getD j 0 ≤ 20 + 9 * (([] : List Int).length : Nat) := fun k j => by
      simp only [List.getD_eq_getElem?_getD, List.getElem?_replicate]
      split <;> simp
    exact ⟨z _, z _⟩
  · obtain ⟨h1, h2⟩ := ih
    have a := H.at x
    have v0 : 0 ≤ vAt n (tms2 n l).1 (tms2 n l).2 x := by
      have := (vAt_ge (n := n) (out := (tms2 n l).1) (free := (tms2 n l).2) (x := x)).2.1
      omega
    have v1 : vAt n (tms2 n l).1 (tms2 n l).2 x ≤ 20 + 9 * (l.length + 1) := by
      have f := h2 (soo (tms2 n l).2 (tms2 n l).2.length)
      have b : beg (tms2 n l).1 x n.ps (mx ((tms2 n l).2.getD (soo (tms2 n l).2 (tms2 n l).2.length) 0) (n.hs.getD x.toNat default).f) ≤ 20 + 9 * l.length :=
        beg_le.2 ⟨mx_le (by omega) (by omega), fun p _ _ => (h1 _).2⟩
      show beg _ _ _ _ + _ ≤ _
      omega
    rw [tms2_snoc, List.length_append, List.length_singleton]
    exact ⟨fun j => getD_set_le (fun j => ⟨(h1 j).1, by have := (h1 j).2; omega⟩) v0 (by omega), fun j => getD_set_le (fun j => ⟨(h2 j).1, by have := (h2 j).2; omega⟩) v0 (by omega)⟩

end Go.Proofs.Ytekoplcnlhanbaa.S

/-
The rule: hole by hole, the one with the greatest rate by hour; with one mender and no ropes nothing is better.
-/
namespace Go.Proofs.Ytekoplcnlhanbaa.S
set_option linter.unusedVariables false
set_option linter.unusedSimpArgs false

/-- of the first holes that can come next, the first one with the greatest rate by hour -/
def hR (n : Net) (x : Int) : Int := (n.hs.getD x.toNat default).h
def pk (n : Net) (F : List Int) : Nat → Int
  | 0 => -1
  | i + 1 => if may n.ps F (i : Int) then (if pk n F i < 0 ∨ hiR n i * hR n (pk n F i) > hiR n (pk n F i) * hR n i then (i : Int) else pk n F i) else pk n F i
/-! one mender, all torn at the hour 0, no ropes -/
theorem map_snoc {g : Int → Int} {l : List Int} {x : Int} : sm ((l ++ [x]).map g) = sm (l.map g) + g x := by
  rw [List.map_append, sm_app]
  show _ + (g x + 0) = _
  rw [Int.add_zero]
end Go.Proofs.Ytekoplcnlhanbaa.S

/-
Lists in heaps, copies, appends: what the functions of lifts needed and those of mesh need, too.
-/
namespace Go.Proofs.Ytekoplcnlhanbaa.S
open Go Go.Am Go.Proofs.Ytekoplcnlhanbaa.T
set_option maxRecDepth 100000
set_option linter.unusedSimpArgs false
set_option linter.unusedVariables false

abbrev intL (n : Int) : List AV := [I n]
theorem intE (n : Int) : (intL n).length = 1 := rfl
theorem intSc (n : Int) : (intL n).all AV.scalar = true := rfl
def slV {α : Type} (esz : Nat) (enc : α → List AV) (l : List α) : AV := .cs esz l.length (l.flatMap enc)
theorem slV_is {α : Type} {esz : Nat} {enc : α → List AV} {l : List α} : IsSl esz enc l (slV esz enc l) := .inl rfl
theorem elem_in {l : List Int} {v : AV} (h : IsSl 1 intL l v) : ∀ i : Int, 0 ≤ i → i < l.length → elemAt 1 v (I i) = some (.cptr [I (l.getD i.toNat 0)]) := elem_sl intE h
/-- a list of numbers that is handed over: none at all if it is empty -/
def resL (l : List Int) : AV := if l = [] then .nils else slV 1 intL l
theorem resL_is (l : List Int) : IsSl 1 intL l (resL l) := by
  unfold resL; split
  · exact .inr ⟨rfl, by assumption⟩
  · exact slV_is
theorem gUn {X : Cx} {base : Nat} {k : List KF} {ts : List AV} {h : List AO} {mk : List Nat} {r : List AOper} {d : Option Nat} {w : Bool} {op : AOp} {sl : Option Nat} {m : List Nat} {x : Option (Nat × Bool)} : GG X base .undef w ⟨d, op, x, sl, m⟩ r k ts h mk = GO X base r k (putT ts d .undef) h mk := id rfl
theorem s17 (n lo hi : Int) (st : Bool) : Iso E 54 [I n, I lo, I hi] st = some (Bo (inR n lo hi)) := by
  refine Iso_of (es _ _ _ _) e54 ?_
  simp only [f54, inR]
  simp (disch := first | assumption | omega | (simp only [az]; done)) only [ru, eq_self, if_true, if_false, BEq.rfl, binI, AO.row?, splice, fillL, mmAll, loadV, storeV, zeros, Am.rowAt, Am.part, addOff, Nat.reduceAdd, Nat.reduceMul, Nat.reduceLeDiff, Nat.reduceSub, Nat.reduceLT, Int.reduceEq, Int.reduceLT, Int.reduceLE, Int.reduceGT, Int.reduceGE, Int.reduceAdd, Int.reduceSub, Int.reduceMul, Int.reduceNeg, Int.reduceToNat, reduceCtorEq, reduceIte]
  by_cases h1 : lo ≤ n
  · simp (disch := first | assumption | omega | (simp only [az]; done)) only [ru, eq_self, if_true, if_false, BEq.rfl, binI, AO.row?, splice, fillL, mmAll, loadV, storeV, zeros, Am.rowAt, Am.part, addOff, Nat.reduceAdd, Nat.reduceMul, Nat.reduceLeDiff, Nat.reduceSub, Nat.reduceLT, Int.reduceEq, Int.reduceLT, Int.reduceLE, Int.reduceGT, Int.reduceGE, Int.reduceAdd, Int.reduceSub, Int.reduceMul, Int.reduceNeg, Int.reduceToNat, reduceCtorEq, reduceIte, h1]
  · simp (disch := first | assumption | omega | (simp only [az]; done)) only [ru, eq_self, if_true, if_false, BEq.rfl, binI, AO.row?, splice, fillL, mmAll, loadV, storeV, zeros, Am.rowAt, Am.part, addOff, Nat.reduceAdd, Nat.reduceMul, Nat.reduceLeDiff, Nat.reduceSub, Nat.reduceLT, Int.reduceEq, Int.reduceLT, Int.reduceLE, Int.reduceGT, Int.reduceGE, Int.reduceAdd, Int.reduceSub, Int.reduceMul, Int.reduceNeg, Int.reduceToNat, reduceCtorEq, reduceIte, h1]
theorem all_not {α : Type} [Inhabited α] {l : List α} {p : α → Bool} {i : Nat} (hi : i < l.length) {x : α} (hx : l.getD i default = x) (hp : p x = false) : l.all p = false := by
  subst hx
  rw [List.all_eq_false]
  exact ⟨l[i], List.getElem_mem hi, by simpa [List.getD_eq_getElem?_getD, hi] using hp⟩
section
/-! the program's -/
end

section
theorem Ro_ex {E : Env} {f : Nat} {fn : AFn} {vs : List AV} {h : List AO} (P : AV → Prop) (hu : ∀ v, P v → v.under h.length = true) (hs : E.spec f vs h h.length = none) (hf : E.fn f = some fn)
    (hg : G ⟨E, h.length, none, f, Done h.length fn.results fun r h' => P r⟩ fn.body [] (vs ++ List.replicate (fn.ntmps - vs.length) .undef) h []) : ∃ v, Ro E f vs h = some v ∧ P v := by
  obtain ⟨r, h', h1, h2⟩ := R_of (fun r _ => P r) hs hf hg
  exact ⟨r, by simp only [Ro, h1, hu r h2, if_true], h2⟩
end

section
end

theorem getD_memI {l : List Int} {i : Nat} (h : i < l.length) : l.getD i 0 ∈ l := by
  rw [List.getD_eq_getElem?_getD, List.getElem?_eq_getElem h]; exact List.getElem_mem h
section
/-! what a place has -/
end

theorem mapM_view {st : Bool} {h : List AO} {n : Nat} : ∀ {c : List AV}, (∀ x ∈ c, view st h n x = some x) → c.mapM (view st h n) = some c
  | [], _ => rfl
  | a :: c, hc => by
    simp only [List.mapM_cons, hc a (by simp), mapM_view (c := c) (fun x hx => hc x (by simp [hx])), Option.bind_eq_bind, Option.bind_some, Option.pure_def]
theorem flat_view {α : Type} {enc : α → List AV} {st : Bool} {h : List AO} {n : Nat} (hi : ∀ a, ∀ x ∈ enc a, ∃ k i, x = .int k i) (l : List α) : (l.flatMap enc).mapM (view st h n) = some (l.flatMap enc) :=
  mapM_view fun x hx => by
    obtain ⟨a, _, hx⟩ := List.mem_flatMap.1 hx
    obtain ⟨k, i, rfl⟩ := hi a x hx
    exact view_int
theorem flat_take {α : Type} {enc : α → List AV} {l : List α} {k : Nat} (he : ∀ a, (enc a).length = k) : (l.flatMap enc).take (l.length * k) = l.flatMap enc := List.take_of_length_le (by rw [flat_len he]; omega)
theorem flat1 (l : List Int) : (l.flatMap fun n => [I n]).length = l.length := by
  have := flat_len (enc := fun n : Int => [I n]) (esz := 1) (fun _ => rfl) l
  omega
theorem intIv (n : Int) : ∀ x ∈ intL n, ∃ k i, x = .int k i := by simp
/-- a list of numbers that lies in the heap -/
def RdS (h : List AO) (v : AV) (l : List Int) : Prop := (l = [] ∧ v = .nils) ∨ (l ≠ [] ∧ ∃ o sh, v = .ms 1 o 0 l.length ∧ h[o]? = some (.cells (l.flatMap fun n => [I n]) sh))
/-- one heap came out of another: what was there is as it was -/
structure Fr (h h' : List AO) : Prop where
  l : h.length ≤ h'.length
  k : ∀ j, j < h.length → h'[j]? = h[j]?
theorem Fr.trans {a b c : List AO} (h : Fr a b) (h' : Fr b c) : Fr a c := ⟨Nat.le_trans h.l h'.l, fun j hj => (h'.k j (Nat.lt_of_lt_of_le hj h.l)).trans (h.k j hj)⟩
theorem Fr.app (h J : List AO) : Fr h (h ++ J) := ⟨by simp, fun j hj => List.getElem?_append_left hj⟩
theorem Fr.at {h h' : List AO} (F : Fr h h') {j : Nat} {x : AO} (hx : h[j]? = some x) : h'[j]? = some x := by rw [F.k j (List.getElem?_eq_some_iff.1 hx).1]; exact hx
theorem RdS.fr {h h' : List AO} {v : AV} {l : List Int} (H : RdS h v l) (F : Fr h h') : RdS h' v l := by
  rcases H with h1 | ⟨hne, o, sh, rfl, hc⟩
  · exact .inl h1
  · exact .inr ⟨hne, o, sh, rfl, F.at hc⟩
theorem RdS.len {h : List AO} {v : AV} {l : List Int} (H : RdS h v l) : lenV v = some (I l.length) ∧ v.cells = [v] ∧ v.scalar = true := by
  rcases H with ⟨rfl, rfl⟩ | ⟨hne, o, sh, rfl, hc⟩ <;> exact ⟨rfl, rfl, rfl⟩
theorem RdS.row {h : List AO} {v : AV} {l : List Int} (H : RdS h v l) : lenOf v = some l.length ∧ Am.rowOf h v = some (l.flatMap fun n => [I n]) := by
  rcases H with ⟨rfl, rfl⟩ | ⟨hne, o, sh, rfl, hc⟩
  · exact ⟨rfl, rfl⟩
  · refine ⟨rfl, ?_⟩
    have e : (l.flatMap fun n => [I n]).take (l.length * 1) = l.flatMap fun n => [I n] := List.take_of_length_le (by rw [flat1]; omega)
    rw [Nat.mul_one] at e
    simp only [rowOf_ms, Am.rowAt, hc, Option.bind_some, AO.row?, List.drop_zero, Nat.mul_one, e, flat1, if_true]
theorem RdS.view {h : List AO} {v : AV} {l : List Int} (H : RdS h v l) {st : Bool} {k : Nat} : Am.view st h (k + 1) v = some (resL l) := by
  have hr := H.row.2
  rcases H with ⟨rfl, rfl⟩ | ⟨hne, o, sh, rfl, hc⟩
  · rfl
  · rw [view_ms, hr]
    simp only [flat_view (enc := fun n : Int => [I n]) (fun a x hx => ⟨_, _, by simpa using hx⟩), Option.map_some, resL, hne, if_false, slV]
theorem flat_sc (l : List Int) : (l.flatMap fun n => [I n]).all AV.scalar = true := scal_sl (fun _ => rfl) l
section
variable {α : Type} {l m : List α} {j : Nat} {x : α}
theorem setT : (l ++ m).set (l.length + j) x = l ++ m.set j x := by rw [List.set_append_right _ _ (by omega), Nat.add_sub_cancel_left]
theorem setT0 : (l ++ m).set l.length x = l ++ m.set 0 x := setT (j := 0)
theorem getT : (l ++ m).getD (l.length + j) x = m.getD j x := by simp [List.getD_eq_getElem?_getD, List.getElem?_append_right]
theorem getT0 : (l ++ m).getD l.length x = m.getD 0 x := getT (j := 0)
theorem atT : (l ++ m)[l.length + j]? = m[j]? := by rw [List.getElem?_append_right (by omega), Nat.add_sub_cancel_left]
theorem atT0 : (l ++ m)[l.length]? = m[0]? := atT (j := 0)
theorem set_same (h : l[j]? = some x) : l.set j x = l := by
  apply List.ext_getElem?
  intro i
  rw [List.getElem?_set]
  split
  · rename_i e; subst e
    rw [if_pos (List.getElem?_eq_some_iff.1 h).1, h]
  · rfl
end

/-! a list of lists that is being made -/
def OutLL (b : Nat) (h : List AO) (v : AV) (L : List (List Int)) : Prop := (L = [] ∧ v = .nils) ∨ (L ≠ [] ∧ ∃ o vs, b ≤ o ∧ v = .ms 1 o 0 L.length ∧ h[o]? = some (.cells vs false) ∧ vs.length = L.length ∧ ∀ i, i < L.length → RdS h (vs.getD i .undef) (L.getD i []))
theorem OutLL.fr {b : Nat} {h h' : List AO} {v : AV} {L : List (List Int)} (H : OutLL b h v L) (F : Fr h h') : OutLL b h' v L := by
  rcases H with h1 | ⟨hne, o, vs, ho, rfl, hc, hl, hr⟩
  · exact .inl h1
  · exact .inr ⟨hne, o, vs, ho, rfl, F.at hc, hl, fun i hi => (hr i hi).fr F⟩
theorem OutLL.len {b : Nat} {h : List AO} {v : AV} {L : List (List Int)} (H : OutLL b h v L) : lenV v = some (I L.length) := by
  rcases H with ⟨rfl, rfl⟩ | ⟨hne, o, vs, ho, rfl, hc, hl, hr⟩ <;> rfl
/-! appends in a region of open order -/
noncomputable def appG (keep : Bool) (lim p esz eb : Nat) (h : List AO) (s x : AV) : Option (AV × List AO) := exOp (fun _ _ _ _ => none) lim (some p) (fun o => match o with | .t 0 => s | _ => x) h (.append keep esz eb (.t 0) (.t 1))
theorem appG_zero {keep : Bool} {lim p esz eb sl : Nat} {h : List AO} {s x : AV} (hs : lenOf s = some sl) (hx : lenOf x = some 0) (hr : Am.rowOf h x = some []) : appG keep lim p esz eb h s x = some (s, h) := by
  simp only [appG, exOp, hs, hx, hr, List.length_nil, Nat.zero_mul, if_true]
theorem appG_nil {keep : Bool} {lim p esz eb n : Nat} {h : List AO} {x : AV} {xs : List AV} (hn : n ≠ 0) (hx : lenOf x = some n) (hr : Am.rowOf h x = some xs) (hl : xs.length = n * esz) (hs : xs.all AV.scalar = true) (hb : n * eb ≤ 140737488355328) (heb : 1 ≤ eb) :
    appG keep lim p esz eb h .nils x = some (.ms esz p 0 n, h.set p (.cells xs false)) := by
  simp only [appG, exOp, lenOf_nils, hx, hr, hl, hn, hs, hb, heb, Nat.zero_add, if_true, if_false, and_self, newAt, Option.getD_some]
theorem appG_ms {keep : Bool} {lim p esz eb n o len : Nat} {h : List AO} {x : AV} {c xs : List AV} (hn : n ≠ 0) (ho : h[o]? = some (.cells c false)) (hc : len * esz = c.length) (hx : lenOf x = some n) (hr : Am.rowOf h x = some xs) (hl : xs.length = n * esz) (hs : xs.all AV.scalar = true)
    (hb : (len + n) * eb ≤ 140737488355328) (heb : 1 ≤ eb) (hlim : lim ≤ o) :
    appG keep lim p esz eb h (.ms esz o 0 len) x = some (.ms esz p 0 (len + n), (h.set o (if keep then .ro c else .tomb)).set p (.cells (c ++ xs) (keep && len != 0))) := by
  simp only [appG, exOp, lenOf_ms, hx, hr, hl, hn, hs, hb, heb, ho, hc, hlim, if_true, if_false, and_self, true_and, true_or, newObj', Option.getD_some, List.take_length, Bool.or_false]
theorem GO_mcall0 {X : Cx} {base : Nat} {k : List KF} {ts : List AV} {h : List AO} {mk : List Nat} {r : List AOper} {d : Option Nat} {f : Nat} {args : List Opd} {m : List Nat} :
    GO X base (⟨d, .call 0 f args, none, none, m⟩ :: r) k ts h mk = GX X base ((R X.E (.fn f) (args.map (Opd.ev ts)) (hide base m h) X.lim).map fun y => (y.1, unhide base h m y.2)) d r k ts mk := by
  rw [GO_slot]
  congr 1
  show exMask (R X.E) X.lim base none (Opd.ev ts) h (.call 0 f args) m = _
  rw [exMask_eq]; rfl
theorem GO_mapp {X : Cx} {base : Nat} {k : List KF} {ts : List AV} {h : List AO} {mk : List Nat} {r : List AOper} {d : Option Nat} {kp : Bool} {e eb s : Nat} {a x : Opd} {m : List Nat} :
    GO X base (⟨d, .append kp e eb a x, none, some s, m⟩ :: r) k ts h mk = GX X base ((appG kp X.lim (base + s) e eb (hide base m h) (a.ev ts) (x.ev ts)).map fun y => (y.1, unhide base h m y.2)) d r k ts mk := by
  rw [GO_slot]
  congr 1
  show exMask (R X.E) X.lim base (some (base + s)) (Opd.ev ts) h (.append kp e eb a x) m = _
  rw [exMask_eq]; rfl
theorem unhN {b : Nat} {h g : List AO} : unhide b h [] g = g := id rfl
theorem unhC {b s : Nat} {r : List Nat} {h g : List AO} : unhide b h (s :: r) g = (unhide b h r g).set (b + s) (h.getD (b + s) .tomb) := id rfl
/-- the first append: a copy of the list so far -/
theorem app_one {lim : Nat} {h : List AO} {fv : AV} {F : List Int} (hF : RdS h fv F) (hb : F.length ≤ 1000) (hlim : lim ≤ h.length) : ∃ q x0 x1, q < 2 ∧ appG true lim (h.length + 1) 1 8 (h ++ [.cells [] false, .tomb, .tomb, .tomb, .tomb]) (.ms 1 h.length 0 0) fv = some (.ms 1 (h.length + q) 0 F.length, h ++ [x0, x1, .tomb, .tomb, .tomb]) ∧
    [x0, x1][q]? = some (.cells (F.flatMap fun n => [I n]) false) := by
  by_cases hz : F = []
  · subst hz
    refine ⟨0, .cells [] false, .tomb, by omega, ?_, rfl⟩
    have hr := (hF.fr (Fr.app h [.cells [] false, .tomb, .tomb, .tomb, .tomb])).row
    rw [appG_zero (sl := 0) rfl hr.1 hr.2]
    rfl
  · have hr := (hF.fr (Fr.app h [.cells [] false, .tomb, .tomb, .tomb, .tomb])).row
    have hn : F.length ≠ 0 := fun e => hz (List.eq_nil_of_length_eq_zero e)
    refine ⟨1, .ro [], .cells (F.flatMap fun n => [I n]) false, by omega, ?_, rfl⟩
    rw [appG_ms (c := []) hn atA0 rfl hr.1 hr.2 (by rw [flat1]; omega) (flat_sc F) (by omega) (by omega) hlim, setT0, setT]
    simp
theorem app_two {lim : Nat} {h : List AO} {F : List Int} {q : Nat} {x0 x1 : AO} {y : Int} (hq : q < 2) (hx : [x0, x1][q]? = some (.cells (F.flatMap fun n => [I n]) false)) (hb : F.length ≤ 1000) (hlim : lim ≤ h.length) :
    ∃ y0 y1 sh, appG true lim (h.length + 3) 1 8 (h ++ [x0, x1, .cells [I y] false, .tomb, .tomb]) (.ms 1 (h.length + q) 0 F.length) (.ms 1 (h.length + 2) 0 1) = some (.ms 1 (h.length + 3) 0 (F.length + 1), h ++ [y0, y1, .cells [I y] false, .cells ((F ++ [y]).flatMap fun n => [I n]) sh, .tomb]) := by
  have hr : Am.rowOf (h ++ [x0, x1, .cells [I y] false, .tomb, .tomb]) (.ms 1 (h.length + 2) 0 1) = some [I y] := by
    simp only [rowOf_ms, Am.rowAt, atT]; rfl
  have ho : (h ++ [x0, x1, .cells [I y] false, .tomb, .tomb])[h.length + q]? = some (.cells (F.flatMap fun n => [I n]) false) := by
    rw [atT]
    match q, hq with
    | 0, _ => exact hx
    | 1, _ => exact hx
  have key := appG_ms (keep := true) (lim := lim) (p := h.length + 3) (esz := 1) (eb := 8) (n := 1) (len := F.length) (x := .ms 1 (h.length + 2) 0 1) (xs := [I y]) (by omega) ho (by rw [flat1]; omega) rfl hr rfl rfl (by omega) (by omega) (by omega)
  rw [key, setT, setT]
  match q, hq with
  | 0, _ => exact ⟨_, _, _, by simp only [set0, setS, List.flatMap_append]; rfl⟩
  | 1, _ => exact ⟨_, _, _, by simp only [set0, setS, List.flatMap_append]; rfl⟩
/-- the last append: the lists of one grip behind those so far -/
theorem app_ll {lim b p : Nat} {h : List AO} {v x : AV} {L M : List (List Int)} (hL : OutLL b h v L) (hM : OutLL b h x M) (hMn : M ≠ []) (hp : h[p]? = some .tomb) (hbp : b ≤ p) (hlim : lim ≤ b) (hlen : L.length + M.length ≤ 100000) :
    ∃ h', appG false lim p 1 24 h v x = some (.ms 1 p 0 (L.length + M.length), h') ∧ h.length = h'.length ∧ (∀ j, j < b → h'[j]? = h[j]?) ∧ OutLL b h' (.ms 1 p 0 (L.length + M.length)) (L ++ M) := by
  rcases hM with ⟨rfl, _⟩ | ⟨_, o2, vs2, ho2, rfl, hc2, hl2, hr2⟩
  · exact absurd rfl hMn
  have hn : M.length ≠ 0 := fun e => hMn (List.eq_nil_of_length_eq_zero e)
  have hrow : Am.rowOf h (.ms 1 o2 0 M.length) = some vs2 := by
    simp only [rowOf_ms, Am.rowAt, hc2, Option.bind_some, AO.row?, List.drop_zero, Nat.mul_one, ← hl2, List.take_length, if_true]
  have hsc : ∀ {vs : List AV} {K : List (List Int)}, vs.length = K.length → (∀ i, i < K.length → RdS h (vs.getD i .undef) (K.getD i [])) → vs.all AV.scalar = true := by
    intro vs K hl hr
    rw [List.all_eq_true]
    intro y hy
    obtain ⟨i, hi, rfl⟩ := List.mem_iff_getElem.1 hy
    have := (hr i (by omega)).len.2.2
    simpa [List.getD_eq_getElem?_getD, hi] using this
  have hpl := (List.getElem?_eq_some_iff.1 hp).1
  -- what a list of numbers is, is no list of lists
  have keep : ∀ {k : Nat} {y : AO} {u : AV} {l : List Int}, RdS h u l → (h[k]? = some .tomb ∨ ∃ vs : List AV, h[k]? = some (.cells vs false) ∧ ∃ z, vs.head? = some z ∧ ∀ i, z ≠ I i) → RdS (h.set k y) u l := by
    rintro k y u l (h1 | ⟨hne, o, sh, rfl, hc⟩) hk
    · exact .inl h1
    · refine .inr ⟨hne, o, sh, rfl, ?_⟩
      rw [List.getElem?_set_ne, hc]
      rintro rfl
      rcases hk with hk | ⟨vs, hk, z, hz, hzi⟩
      · rw [hk] at hc; cases hc
      · rw [hk] at hc
        simp only [Option.some.injEq, AO.cells.injEq] at hc
        obtain ⟨rfl, _⟩ := hc
        match l, hne with
        | i :: l, _ => simp at hz; exact hzi i hz.symm
  rcases hL with ⟨rfl, rfl⟩ | ⟨hne, o, vs, ho, rfl, hc, hl, hr⟩
  · refine ⟨h.set p (.cells vs2 false), ?_, by simp, fun j hj => by rw [List.getElem?_set_ne (by omega)], .inr ⟨by simpa using hMn, p, vs2, hbp, ?_, by simp [hpl], by simpa using hl2, fun i hi => ?_⟩⟩
    · rw [appG_nil hn rfl hrow (by omega) (hsc hl2 hr2) (by simp at hlen; omega) (by omega)]
      simp
    · simp
    · simp only [List.nil_append] at hi ⊢
      exact keep (hr2 i hi) (.inl hp)
  · have hnL : L.length ≠ 0 := fun e => hne (List.eq_nil_of_length_eq_zero e)
    have hop : o ≠ p := by rintro rfl; rw [hc] at hp; cases hp
    have hz : ∃ z, vs.head? = some z ∧ ∀ i, z ≠ I i := by
      match vs, hl with
      | [], hl => simp at hl; omega
      | z :: vs, hl =>
        refine ⟨z, rfl, fun i e => ?_⟩
        have := hr 0 (by omega)
        simp only [get0] at this
        subst e
        rcases this with ⟨_, h⟩ | ⟨_, _, _, h, _⟩ <;> cases h
    obtain ⟨z, hz1, hz2⟩ := hz
    have k2 : ∀ {u : AV} {l : List Int}, RdS h u l → RdS ((h.set o .tomb).set p (.cells (vs ++ vs2) false)) u l := by
      intro u l hu
      have h1 := keep (k := o) (y := .tomb) hu (.inr ⟨vs, hc, z, hz1, hz2⟩)
      rcases h1 with h1 | ⟨hne', o', sh, rfl, hc'⟩
      · exact .inl h1
      · refine .inr ⟨hne', o', sh, rfl, ?_⟩
        rw [List.getElem?_set_ne, hc']
        rintro rfl
        rw [List.getElem?_set_ne hop, hp] at hc'; cases hc'
    refine ⟨(h.set o .tomb).set p (.cells (vs ++ vs2) false), ?_, by simp, fun j hj => by rw [List.getElem?_set_ne (by omega), List.getElem?_set_ne (by omega)], .inr ⟨by simp [hne], p, vs ++ vs2, hbp, by simp, by simp [hpl], by simp [hl, hl2], fun i hi => ?_⟩⟩
    · rw [appG_ms (c := vs) hn hc (by omega) rfl hrow (by omega) (hsc hl2 hr2) (by omega) (by omega) (by omega)]
      rfl
    · simp only [List.getD_eq_getElem?_getD]
      by_cases h1 : i < L.length
      · rw [List.getElem?_append_left (by omega), List.getElem?_append_left h1, ← List.getD_eq_getElem?_getD, ← List.getD_eq_getElem?_getD]
        exact k2 (hr i h1)
      · rw [List.getElem?_append_right (by omega), List.getElem?_append_right (by omega), ← List.getD_eq_getElem?_getD, ← List.getD_eq_getElem?_getD, hl]
        exact k2 (hr2 (i - L.length) (by simp at hi; omega))
/-- the same, where the lists behind may be none -/
theorem app_ll0 {lim b p : Nat} {h : List AO} {v x : AV} {L M : List (List Int)} (hL : OutLL b h v L) (hM : OutLL b h x M) (hp : h[p]? = some .tomb) (hbp : b ≤ p) (hlim : lim ≤ b) (hlen : L.length + M.length ≤ 100000) :
    ∃ v' h', appG false lim p 1 24 h v x = some (v', h') ∧ h.length = h'.length ∧ (∀ j, j < b → h'[j]? = h[j]?) ∧ OutLL b h' v' (L ++ M) := by
  by_cases hM0 : M = []
  · subst hM0
    rcases hM with ⟨_, rfl⟩ | ⟨h, _⟩
    · refine ⟨v, h, ?_, rfl, fun _ _ => rfl, by simpa using hL⟩
      rcases hL with ⟨rfl, rfl⟩ | ⟨_, o, vs, _, rfl, _⟩
      · exact appG_zero rfl rfl rfl
      · exact appG_zero (sl := L.length) rfl rfl rfl
    · exact absurd rfl h
  · obtain ⟨h', e1, e2, e3, e4⟩ := app_ll (lim := lim) (p := p) hL hM hM0 hp hbp hlim hlen
    exact ⟨_, h', e1, e2, e3, e4⟩
theorem OutLL.deep {b b' : Nat} {h : List AO} {v : AV} {L : List (List Int)} (H : OutLL b h v L) (hb : b' ≤ b) : OutLL b' h v L := by
  rcases H with h1 | ⟨hne, o, vs, ho, rfl, hc, hl, hr⟩
  · exact .inl h1
  · exact .inr ⟨hne, o, vs, by omega, rfl, hc, hl, hr⟩
theorem at_ap {α : Type} {l m : List α} {k : Nat} (h : k < l.length) : (l ++ m)[k]? = l[k]? := List.getElem?_append_left h
theorem mapM_pt {α β : Type} {f : AV → Option β} {g : α → β} {d : AV} {e : α} : ∀ {vs : List AV} {L : List α}, vs.length = L.length → (∀ i, i < L.length → f (vs.getD i d) = some (g (L.getD i e))) → vs.mapM f = some (L.map g)
  | [], [], _, _ => rfl
  | v :: vs, a :: L, hl, h => by
    have h0 := h 0 (by simp)
    have ih := mapM_pt (f := f) (g := g) (d := d) (e := e) (vs := vs) (L := L) (by simpa using hl) (fun i hi => h (i + 1) (by simpa using hi))
    simp only [get0] at h0
    simp only [List.mapM_cons, h0, ih, Option.bind_eq_bind, Option.bind_some, Option.pure_def, List.map_cons]
  | [], _ :: _, hl, _ => by simp at hl
  | _ :: _, [], hl, _ => by simp at hl
def resE (l : List Int) : List AV := [resL l]
theorem resE_map : ∀ L : List (List Int), L.map resL = L.flatMap resE
  | [] => rfl
  | a :: l => by simp only [List.map_cons, List.flatMap_cons, resE_map l]; rfl
/-- a list of lists, as a value -/
def resLL (L : List (List Int)) : AV := if L = [] then .nils else slV 1 resE L
theorem resLL_is (L : List (List Int)) : IsSl 1 resE L (resLL L) := by
  unfold resLL; split
  · exact .inr ⟨rfl, by assumption⟩
  · exact slV_is
theorem OutLL.view {b k : Nat} {h : List AO} {v : AV} {L : List (List Int)} (H : OutLL b h v L) (st : Bool) : Am.view st h (k + 2) v = some (resLL L) := by
  rcases H with ⟨rfl, rfl⟩ | ⟨hne, o, vs, _, rfl, hc, hl, hrd⟩
  · rfl
  have e1 : vs.mapM (Am.view st h (k + 1)) = some (L.map resL) := mapM_pt (d := .undef) (e := []) hl fun i hi => (hrd i hi).view
  rw [resE_map] at e1
  rw [resLL, if_neg hne]
  simp only [view_ms, rowOf_ms, Am.rowAt, hc, Option.bind_some, AO.row?, List.drop_zero, Nat.mul_one, ← hl, List.take_length, if_true]
  rw [e1, hl]
  rfl
/-- a list that is being made, of whatever -/
def OutE {α : Type} (enc : α → List AV) (esz b : Nat) (h : List AO) (v : AV) (l : List α) : Prop := (l = [] ∧ v = .nils) ∨ (l ≠ [] ∧ ∃ o, b ≤ o ∧ v = .ms esz o 0 l.length ∧ h[o]? = some (.cells (l.flatMap enc) false))
theorem outE_app {α : Type} {enc : α → List AV} {esz eb : Nat} (he : ∀ a, (enc a).length = esz) (hs : ∀ a, (enc a).all AV.scalar = true) (h1 : 1 ≤ esz) (heb : 1 ≤ eb) (hb : eb ≤ 1000) {pre J : List AO} {v : AV} {l : List α} {lim : Nat} (H : OutE enc esz pre.length (pre ++ J) v l) (hlim : lim ≤ pre.length) (hl : l.length ≤ 1000000) (x : α) :
    ∃ v' J', appV lim (pre ++ J) esz eb v (.cs esz 1 (enc x)) = some (v', pre ++ J') ∧ OutE enc esz pre.length (pre ++ J') v' (l ++ [x]) := by
  have hx : (enc x).length = 1 * esz := by rw [he]; omega
  rcases H with ⟨rfl, rfl⟩ | ⟨hne, o, ho, rfl, hc⟩
  · refine ⟨_, J ++ [AO.cells (enc x) false], ?_, .inr ⟨by simp, (pre ++ J).length, by simp, rfl, ?_⟩⟩
    · rw [appV_nil (n := 1) (xs := enc x) rfl rfl hx (hs x) (by omega) heb, if_neg (by omega)]
      simp
    · simp only [← List.append_assoc, List.nil_append, List.flatMap_cons, List.flatMap_nil, List.append_nil]
      exact atE
  · have ho' : o < (pre ++ J).length := (List.getElem?_eq_some_iff.1 hc).1
    refine ⟨_, J.set (o - pre.length) .tomb ++ [AO.cells ((l ++ [x]).flatMap enc) false], ?_, .inr ⟨by simp, (pre ++ J).length, by simp, rfl, ?_⟩⟩
    · have hbb : (l.length + 1) * eb ≤ 140737488355328 := by
        have := Nat.mul_le_mul (show l.length + 1 ≤ 1000001 by omega) hb
        omega
      rw [appV_ms (n := 1) (xs := enc x) (c := l.flatMap enc) (sh := false) hc (by rw [flat_len he]) rfl rfl hx (hs x) hbb heb (by omega), if_neg (by omega)]
      rw [List.set_append_right _ _ ho]
      simp
    · have e : (pre ++ J).length = (pre ++ J.set (o - pre.length) .tomb).length := by simp
      rw [e, ← List.append_assoc]
      exact atE
theorem outE_view {α : Type} {enc : α → List AV} {esz b : Nat} {h : List AO} {v : AV} {l : List α} (he : ∀ a, (enc a).length = esz) (H : OutE enc esz b h v l) (hne : l ≠ []) {st : Bool} {k : Nat} (hvw : ∀ a, (enc a).mapM (view st h k) = some (enc a)) : view st h (k + 1) v = some (slV esz enc l) := by
  rcases H with ⟨e, _⟩ | ⟨_, o, ho, rfl, hc⟩
  · exact absurd e hne
  · have e := flat_take (l := l) he
    have e2 : (l.flatMap enc).mapM (view st h k) = some (l.flatMap enc) := by
      apply mapM_view
      intro x hx
      obtain ⟨a, _, hx⟩ := List.mem_flatMap.1 hx
      exact mapM_fix (hvw a) x hx
    simp only [view_ms, rowOf_ms, Am.rowAt, hc, Option.bind_some, AO.row?, List.drop_zero, e, flat_len he, if_true, e2]
    rfl
where
  mapM_fix {f : AV → Option AV} : ∀ {c : List AV}, c.mapM f = some c → ∀ x ∈ c, f x = some x
    | [], _, x, hx => by simp at hx
    | a :: c, h, x, hx => by
      simp only [List.mapM_cons, Option.bind_eq_bind, Option.bind_eq_some_iff, Option.pure_def, Option.some.injEq, List.cons.injEq] at h
      obtain ⟨y, h1, ys, h2, rfl, rfl⟩ := h
      rcases List.mem_cons.1 hx with rfl | hx
      · exact h1
      · exact mapM_fix h2 x hx


section
/-! Share, Load, Need -/
end

/-- a list that lies in the heap, in an object of its own -/
def RdC {α : Type} (enc : α → List AV) (esz : Nat) (h : List AO) (w : AV) (l : List α) : Prop := ∃ o, w = .ms esz o 0 l.length ∧ h[o]? = some (.cells (l.flatMap enc) false)
section
variable {α : Type} {enc : α → List AV} {esz eb : Nat} {l : List α}
theorem RdC.fr {h h' : List AO} {w : AV} (H : RdC enc esz h w l) (F : Fr h h') : RdC enc esz h' w l := by
  obtain ⟨o, e, hc⟩ := H; exact ⟨o, e, F.at hc⟩
theorem RdC.view {h : List AO} {w : AV} (H : RdC enc esz h w l) (he : ∀ a, (enc a).length = esz) (hi : ∀ a, ∀ x ∈ enc a, ∃ k i, x = .int k i) {st : Bool} {k : Nat} : Am.view st h (k + 1) w = some (slV esz enc l) := by
  obtain ⟨o, rfl, hc⟩ := H
  have e := flat_take (l := l) he
  simp only [view_ms, rowOf_ms, Am.rowAt, hc, Option.bind_some, AO.row?, List.drop_zero, e, flat_len he, if_true, flat_view hi]
  rfl
theorem RdC.sc {h : List AO} {w : AV} (H : RdC enc esz h w l) : w.cells = [w] ∧ w.scalar = true ∧ lenV w = some (I l.length) := by
  obtain ⟨o, rfl, hc⟩ := H; exact ⟨rfl, rfl, rfl⟩
theorem cpyV {v : AV} {h : List AO} {lim : Nat} (hv : IsSl esz enc l v) (he : ∀ a, (enc a).length = esz) (hs : ∀ a, (enc a).all AV.scalar = true) (hb : l.length * eb ≤ 140737488355328) (heb : 1 ≤ eb) (hlim : lim ≤ h.length) :
    ∃ w h', appV lim (h ++ [.cells [] false]) esz eb (.ms esz h.length 0 0) v = some (w, h') ∧ Fr h h' ∧ RdC enc esz h' w l := by
  rw [appV_new hv he hs hb heb _ _ _ atE hlim]
  by_cases hz : l.length = 0
  · rw [if_pos hz]
    refine ⟨_, _, rfl, Fr.app _ _, h.length, by rw [hz], ?_⟩
    rw [List.eq_nil_of_length_eq_zero hz]; exact atE
  · rw [if_neg hz]
    refine ⟨_, _, rfl, ⟨by simp, fun j hj => ?_⟩, (h ++ [AO.cells [] false]).length, rfl, ?_⟩
    · rw [List.getElem?_append_left (by simp; omega), List.getElem?_set_ne (by omega), List.getElem?_append_left hj]
    · rw [List.getElem?_append_right (by simp)]; simp
theorem cpyG {v : AV} {h J : List AO} {lim : Nat} (hv : IsSl esz enc l v) (he : ∀ a, (enc a).length = esz) (hs : ∀ a, (enc a).all AV.scalar = true) (hb : l.length * eb ≤ 140737488355328) (heb : 1 ≤ eb) (hlim : lim ≤ h.length) :
    ∃ w x0 x1, appG true lim (h.length + 1) esz eb (h ++ .cells [] false :: .tomb :: J) (.ms esz h.length 0 0) v = some (w, h ++ x0 :: x1 :: J) ∧ ∀ K, RdC enc esz (h ++ x0 :: x1 :: K) w l := by
  by_cases hz : l.length = 0
  · have e : l = [] := List.eq_nil_of_length_eq_zero hz
    subst e
    refine ⟨.ms esz h.length 0 0, .cells [] false, .tomb, ?_, fun K => ⟨h.length, rfl, by rw [atT0]; rfl⟩⟩
    have hr : Am.rowOf (h ++ .cells [] false :: .tomb :: J) v = some [] := rowOf_sl hv _
    rw [appG_zero (sl := 0) rfl (lenOf_sl hv) hr]
  · refine ⟨.ms esz (h.length + 1) 0 l.length, .ro [], .cells (l.flatMap enc) false, ?_, fun K => ⟨h.length + 1, rfl, by rw [atT]; rfl⟩⟩
    rw [appG_ms (c := []) hz atA0 (by simp) (lenOf_sl hv) (rowOf_sl hv _) (flat_len he l) (scal_sl hs l) (by simpa using hb) heb hlim, setT0, setT]
    simp
end
theorem slice_in {l : List Int} {v : AV} (h : IsSl 1 intL l v) {i : Nat} (hi : i < l.length) : ∃ u, sliceV 1 v none (some (I i)) = some u ∧ IsSl 1 intL (l.take i) u := by
  rcases h with rfl | ⟨rfl, rfl⟩
  · refine ⟨_, ?_, slV_is⟩
    have h1 : (0 : Int) ≤ i ∧ (i : Int) ≤ l.length := by omega
    simp only [sliceV, sliceB, h1, and_self, if_true, Int.toNat_natCast, Nat.zero_mul, List.drop_zero, Nat.sub_zero, Nat.mul_one, slV, List.length_take, Nat.min_eq_left (Nat.le_of_lt hi)]
    congr 2
    clear h1
    induction l generalizing i with
    | nil => simp
    | cons a l ih =>
      cases i with
      | zero => simp
      | succ i => simp only [List.flatMap_cons, List.cons_append, List.nil_append, List.take_succ_cons, ih (by simpa using hi)]
  · simp at hi
theorem s49 {l : List Int} {v : AV} (V : IsSl 1 intL l v) (hl : l.length ≤ 1000) (n : Int) (st : Bool) : Iso E 100 [v, I n] st = some (Bo (decide (n ∈ l))) := by
  refine Iso_of (es _ _ _ _) e100 ?_
  simp only [f100]
  simp (disch := first | assumption | omega | (simp only [az]; done)) only [ru, eq_self, if_true, if_false, BEq.rfl, binI, AO.row?, splice, fillL, mmAll, loadV, storeV, zeros, Am.rowAt, Am.part, addOff, Nat.reduceAdd, Nat.reduceMul, Nat.reduceLeDiff, Nat.reduceSub, Nat.reduceLT, Int.reduceEq, Int.reduceLT, Int.reduceLE, Int.reduceGT, Int.reduceGE, Int.reduceAdd, Int.reduceSub, Int.reduceMul, Int.reduceNeg, Int.reduceToNat, reduceCtorEq, reduceIte]
  refine G_loop_ind (fun m ts h mk => ∃ i : Nat, i ≤ l.length ∧ m = l.length - i ∧ n ∉ l.take i ∧ ts.length = 18 ∧ ts.getD 0 .undef = v ∧ ts.getD 1 .undef = I n ∧ ts.getD 5 .undef = I i ∧ h = [] ∧ mk = []) ?_ _ _ _ _ ⟨0, Nat.zero_le _, rfl, by simp, rfl, rfl, rfl, rfl, rfl, rfl⟩
  rintro m ts h mk ih ⟨i, hi, rfl, hn, hl', q0, q1, q5, rfl, rfl⟩
  rw [lit_all hl']
  simp only [lit0, litS, Nat.reduceAdd, q0, q1, q5]
  simp (disch := first | assumption | omega | (simp only [az]; done)) only [ru, eq_self, if_true, if_false, BEq.rfl, binI, AO.row?, splice, fillL, mmAll, loadV, storeV, zeros, Am.rowAt, Am.part, addOff, Nat.reduceAdd, Nat.reduceMul, Nat.reduceLeDiff, Nat.reduceSub, Nat.reduceLT, Int.reduceEq, Int.reduceLT, Int.reduceLE, Int.reduceGT, Int.reduceGE, Int.reduceAdd, Int.reduceSub, Int.reduceMul, Int.reduceNeg, Int.reduceToNat, reduceCtorEq, reduceIte, lenV_sl V, elem_in V, view_sl V, scalar_sl V, cells_sl V, pure_sl V, Int.toNat_natCast]
  by_cases hlt : (i : Int) < l.length
  case pos =>
    have hi' : i < l.length := by omega
    obtain ⟨x, hx⟩ : ∃ x, x = l.getD i 0 := ⟨_, rfl⟩
    have hm : x ∈ l := by rw [hx]; exact getD_memI hi'
    by_cases hc : x = n
    · have hd : n ∈ l := hc ▸ hm
      simp (disch := first | assumption | omega | (simp only [az]; done)) only [ru, eq_self, if_true, if_false, BEq.rfl, binI, AO.row?, splice, fillL, mmAll, loadV, storeV, zeros, Am.rowAt, Am.part, addOff, Nat.reduceAdd, Nat.reduceMul, Nat.reduceLeDiff, Nat.reduceSub, Nat.reduceLT, Int.reduceEq, Int.reduceLT, Int.reduceLE, Int.reduceGT, Int.reduceGE, Int.reduceAdd, Int.reduceSub, Int.reduceMul, Int.reduceNeg, Int.reduceToNat, reduceCtorEq, reduceIte, lenV_sl V, elem_in V, view_sl V, scalar_sl V, cells_sl V, pure_sl V, Int.toNat_natCast, hlt, ← hx, hc, hd, decide_true]
    · simp (disch := first | assumption | omega | (simp only [az]; done)) only [ru, eq_self, if_true, if_false, BEq.rfl, binI, AO.row?, splice, fillL, mmAll, loadV, storeV, zeros, Am.rowAt, Am.part, addOff, Nat.reduceAdd, Nat.reduceMul, Nat.reduceLeDiff, Nat.reduceSub, Nat.reduceLT, Int.reduceEq, Int.reduceLT, Int.reduceLE, Int.reduceGT, Int.reduceGE, Int.reduceAdd, Int.reduceSub, Int.reduceMul, Int.reduceNeg, Int.reduceToNat, reduceCtorEq, reduceIte, lenV_sl V, elem_in V, view_sl V, scalar_sl V, cells_sl V, pure_sl V, Int.toNat_natCast, hlt, ← hx, hc, decide_false]
      refine ih (l.length - (i + 1)) _ _ _ (by omega) ⟨i + 1, by omega, rfl, ?_, rfl, rfl, rfl, rfl, rfl, rfl⟩
      rw [List.take_succ_eq_append_getElem hi', List.mem_append, List.mem_singleton]
      rintro (h | h)
      · exact hn h
      · rw [List.getD_eq_getElem?_getD, List.getElem?_eq_getElem hi', Option.getD_some] at hx
        exact hc (hx.trans h.symm)
  obtain rfl : i = l.length := by omega
  rw [List.take_length] at hn
  simp (disch := first | assumption | omega | (simp only [az]; done)) only [ru, eq_self, if_true, if_false, BEq.rfl, binI, AO.row?, splice, fillL, mmAll, loadV, storeV, zeros, Am.rowAt, Am.part, addOff, Nat.reduceAdd, Nat.reduceMul, Nat.reduceLeDiff, Nat.reduceSub, Nat.reduceLT, Int.reduceEq, Int.reduceLT, Int.reduceLE, Int.reduceGT, Int.reduceGE, Int.reduceAdd, Int.reduceSub, Int.reduceMul, Int.reduceNeg, Int.reduceToNat, reduceCtorEq, reduceIte, hlt, hn, decide_false]
theorem s130 {l : List Int} {v : AV} (V : IsSl 1 intL l v) (hl : l.length ≤ 1000) (n : Int) : ∃ k : Int, (∀ st, Iso E 108 [v, I n] st = some (I k)) ∧ decide (k ≥ 0) = decide (n ∈ l) := by
  refine (fun x => ?_ : (∃ r h', R E (.fn 108) [v, I n] [] 0 = some (r, h') ∧ ∃ k : Int, r = I k ∧ decide (k ≥ 0) = decide (n ∈ l)) → _) (R_of _ (es _ _ _ _) e108 ?_)
  · obtain ⟨r, h', hr, k, rfl, hk⟩ := x
    exact ⟨k, fun st => by simp only [Iso, hr, view_int], hk⟩
  simp only [f108]
  simp (disch := first | assumption | omega | (simp only [az]; done)) only [ru, eq_self, if_true, if_false, BEq.rfl, binI, AO.row?, splice, fillL, mmAll, loadV, storeV, zeros, Am.rowAt, Am.part, addOff, Nat.reduceAdd, Nat.reduceMul, Nat.reduceLeDiff, Nat.reduceSub, Nat.reduceLT, Int.reduceEq, Int.reduceLT, Int.reduceLE, Int.reduceGT, Int.reduceGE, Int.reduceAdd, Int.reduceSub, Int.reduceMul, Int.reduceNeg, Int.reduceToNat, reduceCtorEq, reduceIte, lenV_sl V]
  refine G_loop_ind (fun m ts h mk => ∃ i : Nat, i ≤ l.length ∧ m = l.length - i ∧ n ∉ l.take i ∧ ts.length = 19 ∧ ts.getD 0 .undef = v ∧ ts.getD 1 .undef = I n ∧ ts.getD 7 .undef = I l.length ∧ ts.getD 8 .undef = I i ∧ h = [] ∧ mk = []) ?_ _ _ _ _ ⟨0, Nat.zero_le _, rfl, by simp, rfl, rfl, rfl, rfl, rfl, rfl, rfl⟩
  rintro m ts h mk ih ⟨i, hi, rfl, hn, hl', q0, q1, q7, q8, rfl, rfl⟩
  rw [lit_all hl']
  simp only [lit0, litS, Nat.reduceAdd, q0, q1, q7, q8]
  simp (disch := first | assumption | omega | (simp only [az]; done)) only [ru, eq_self, if_true, if_false, BEq.rfl, binI, AO.row?, splice, fillL, mmAll, loadV, storeV, zeros, Am.rowAt, Am.part, addOff, Nat.reduceAdd, Nat.reduceMul, Nat.reduceLeDiff, Nat.reduceSub, Nat.reduceLT, Int.reduceEq, Int.reduceLT, Int.reduceLE, Int.reduceGT, Int.reduceGE, Int.reduceAdd, Int.reduceSub, Int.reduceMul, Int.reduceNeg, Int.reduceToNat, reduceCtorEq, reduceIte]
  by_cases hlt : (i : Int) < l.length
  case pos =>
    have hi' : i < l.length := by omega
    obtain ⟨x, hx⟩ : ∃ x, x = l.getD i 0 := ⟨_, rfl⟩
    have hm : x ∈ l := by rw [hx]; exact getD_memI hi'
    by_cases hc : n = x
    · have hd : n ∈ l := hc ▸ hm
      simp (disch := first | assumption | omega | (simp only [az]; done)) only [ru, eq_self, if_true, if_false, BEq.rfl, binI, AO.row?, splice, fillL, mmAll, loadV, storeV, zeros, Am.rowAt, Am.part, addOff, Nat.reduceAdd, Nat.reduceMul, Nat.reduceLeDiff, Nat.reduceSub, Nat.reduceLT, Int.reduceEq, Int.reduceLT, Int.reduceLE, Int.reduceGT, Int.reduceGE, Int.reduceAdd, Int.reduceSub, Int.reduceMul, Int.reduceNeg, Int.reduceToNat, reduceCtorEq, reduceIte, lenV_sl V, elem_in V, view_sl V, scalar_sl V, cells_sl V, pure_sl V, Int.toNat_natCast, hlt, ← hx, ← hc, decide_true]
      exact ⟨i, rfl, by simp [hd]⟩
    · simp (disch := first | assumption | omega | (simp only [az]; done)) only [ru, eq_self, if_true, if_false, BEq.rfl, binI, AO.row?, splice, fillL, mmAll, loadV, storeV, zeros, Am.rowAt, Am.part, addOff, Nat.reduceAdd, Nat.reduceMul, Nat.reduceLeDiff, Nat.reduceSub, Nat.reduceLT, Int.reduceEq, Int.reduceLT, Int.reduceLE, Int.reduceGT, Int.reduceGE, Int.reduceAdd, Int.reduceSub, Int.reduceMul, Int.reduceNeg, Int.reduceToNat, reduceCtorEq, reduceIte, lenV_sl V, elem_in V, view_sl V, scalar_sl V, cells_sl V, pure_sl V, Int.toNat_natCast, hlt, ← hx, hc, decide_false]
      refine ih (l.length - (i + 1)) _ _ _ (by omega) ⟨i + 1, by omega, rfl, ?_, rfl, rfl, rfl, rfl, rfl, rfl, rfl⟩
      rw [List.take_succ_eq_append_getElem hi', List.mem_append, List.mem_singleton]
      rintro (h | h)
      · exact hn h
      · rw [List.getD_eq_getElem?_getD, List.getElem?_eq_getElem hi', Option.getD_some] at hx
        exact hc (h.trans hx.symm)
  obtain rfl : i = l.length := by omega
  rw [List.take_length] at hn
  simp (disch := first | assumption | omega | (simp only [az]; done)) only [ru, eq_self, if_true, if_false, BEq.rfl, binI, AO.row?, splice, fillL, mmAll, loadV, storeV, zeros, Am.rowAt, Am.part, addOff, Nat.reduceAdd, Nat.reduceMul, Nat.reduceLeDiff, Nat.reduceSub, Nat.reduceLT, Int.reduceEq, Int.reduceLT, Int.reduceLE, Int.reduceGT, Int.reduceGE, Int.reduceAdd, Int.reduceSub, Int.reduceMul, Int.reduceNeg, Int.reduceToNat, reduceCtorEq, reduceIte, hlt]
  exact ⟨-1, rfl, by simp [hn]⟩
theorem s122 {l : List Int} {v : AV} (V : IsSl 1 intL l v) (hl : l.length ≤ 1000) (n : Int) (st : Bool) : Iso E 92 [v, I n] st = some (Bo (decide (n ∈ l))) := by
  obtain ⟨k, hr', hk⟩ := s130 V hl n
  refine Iso_of (es _ _ _ _) e92 ?_
  simp only [f92]
  simp (disch := first | assumption | omega | (simp only [az]; done)) only [ru, eq_self, if_true, if_false, BEq.rfl, binI, AO.row?, splice, fillL, mmAll, loadV, storeV, zeros, Am.rowAt, Am.part, addOff, Nat.reduceAdd, Nat.reduceMul, Nat.reduceLeDiff, Nat.reduceSub, Nat.reduceLT, Int.reduceEq, Int.reduceLT, Int.reduceLE, Int.reduceGT, Int.reduceGE, Int.reduceAdd, Int.reduceSub, Int.reduceMul, Int.reduceNeg, Int.reduceToNat, reduceCtorEq, reduceIte, lenV_sl V, elem_in V, view_sl V, scalar_sl V, cells_sl V, pure_sl V, Int.toNat_natCast, hr']
  rw [hk]

section
/-! of a crew -/
end

theorem OutE.viewL {b : Nat} {h : List AO} {v : AV} {l : List Int} (H : OutE intL 1 b h v l) {st : Bool} {k : Nat} : Am.view st h (k + 1) v = some (resL l) := by
  by_cases hne : l = []
  · subst hne
    rcases H with ⟨_, rfl⟩ | ⟨h, _⟩
    · rfl
    · exact absurd rfl h
  · rw [resL, if_neg hne]
    exact outE_view intE H hne fun a => by
      show [I a].mapM _ = _
      rw [List.mapM_cons, view_int]; rfl
/-! the program's -/
/-- what lies behind a place is as it was -/
structure Fk (b : Nat) (h h' : List AO) : Prop where
  l : h.length ≤ h'.length
  k : ∀ j, b ≤ j → j < h.length → h'[j]? = h[j]?
theorem Fk.trans {n : Nat} {a b c : List AO} (h : Fk n a b) (h' : Fk n b c) : Fk n a c := ⟨Nat.le_trans h.l h'.l, fun j hn hj => (h'.k j hn (Nat.lt_of_lt_of_le hj h.l)).trans (h.k j hn hj)⟩
theorem Fk.of {b : Nat} {h h' : List AO} (F : Fr h h') : Fk b h h' := ⟨F.l, fun j _ hj => F.k j hj⟩
theorem Fk.at {b : Nat} {h h' : List AO} (F : Fk b h h') {j : Nat} (hb : b ≤ j) {x : AO} (hx : h[j]? = some x) : h'[j]? = some x := by rw [F.k j hb (List.getElem?_eq_some_iff.1 hx).1]; exact hx
def RdB (b : Nat) (h : List AO) (v : AV) (l : List Int) : Prop := (l = [] ∧ v = .nils) ∨ (l ≠ [] ∧ ∃ o sh, b ≤ o ∧ v = .ms 1 o 0 l.length ∧ h[o]? = some (.cells (l.flatMap fun n => [I n]) sh))
theorem RdB.s {b : Nat} {h : List AO} {v : AV} {l : List Int} (H : RdB b h v l) : RdS h v l := by
  rcases H with h1 | ⟨hne, o, sh, _, e, hc⟩
  · exact .inl h1
  · exact .inr ⟨hne, o, sh, e, hc⟩
theorem RdB.fk {b : Nat} {h h' : List AO} {v : AV} {l : List Int} (H : RdB b h v l) (F : Fk b h h') : RdB b h' v l := by
  rcases H with h1 | ⟨hne, o, sh, hb, e, hc⟩
  · exact .inl h1
  · exact .inr ⟨hne, o, sh, hb, e, F.at hb hc⟩
theorem flat_head {F : List Int} {i : Nat} (hi : i < F.length) : ((F.flatMap fun n => [I n]).drop i).head? = some (I (F.getD i 0)) := by
  induction F generalizing i with
  | nil => simp at hi
  | cons a F ih =>
    cases i with
    | zero => rfl
    | succ i => simpa using ih (i := i) (by simpa using hi)
/-! the cheapest crew -/

theorem fin3 {lim i j k : Nat} {P : AV → List AO → Prop} {ts : List AV} {h : List AO} : Done lim [.tmp i, .tmp j, .tmp k] P .ret ⟨ts, h, []⟩ = P (.tup [ts.getD i .undef, ts.getD j .undef, ts.getD k .undef]) h := by
  simp [Done, finish, takeMarks, getRes]
theorem take_snoc {α : Type} {l : List α} {i : Nat} {d : α} (h : i < l.length) : l.take (i + 1) = l.take i ++ [l.getD i d] := by
  rw [List.take_succ_eq_append_getElem h, List.getD_eq_getElem?_getD, List.getElem?_eq_getElem h]; rfl

section
end

/-! calls that lay what they make behind the caller's heap -/
noncomputable def C2 (E : Env) (f : Nat) (ws : List AV) (h : List AO) : Option (AV × List AO) :=
  if AV.pureV.go ws then (match R E (.fn f) ws [] 0 with
    | some (r, h') => some (r.shift h.length, h ++ h'.map (AO.shift h.length))
    | none => none)
  else (match ws.mapM (view false h 8) with
    | some vs => (match R E (.fn f) vs [] 0 with
      | some (r, h') => (view true h' 8 r).map fun r' => (r', h)
      | none => none)
    | none => none)
theorem exOp_call2 {E : Env} {lim : Nat} {pl : Option Nat} {ρ : Opd → AV} {h : List AO} {f : Nat} {args : List Opd} : exOp (R E) lim pl ρ h (.call 2 f args) = C2 E f (args.map ρ) h := by
  simp only [exOp, C2]
  rfl
theorem C2_of {f : Nat} {ws : List AV} {r : AV} {J h : List AO} (hp : AV.pureV.go ws = true) (hr : R E (.fn f) ws [] 0 = some (r, J)) : C2 E f ws h = some (r.shift h.length, h ++ J.map (AO.shift h.length)) := by
  simp only [C2, hp, hr, if_true]
/-! a copy of a sea -/
theorem cpyQ {α : Type} {enc : α → List AV} {esz eb : Nat} {l : List α} {v : AV} {h J : List AO} {lim : Nat} (hv : IsSl esz enc l v) (he : ∀ a, (enc a).length = esz) (hs : ∀ a, (enc a).all AV.scalar = true) (hb : l.length * eb ≤ 140737488355328) (heb : 1 ≤ eb) (hlim : lim ≤ h.length) :
    ∃ q x0 x1, q < 2 ∧ appG true lim (h.length + 1) esz eb (h ++ .cells [] false :: .tomb :: J) (.ms esz h.length 0 0) v = some (.ms esz (h.length + q) 0 l.length, h ++ x0 :: x1 :: J) ∧ [x0, x1][q]? = some (.cells (l.flatMap enc) false) := by
  by_cases hz : l.length = 0
  · have e : l = [] := List.eq_nil_of_length_eq_zero hz
    subst e
    refine ⟨0, .cells [] false, .tomb, by omega, ?_, rfl⟩
    have hr : Am.rowOf (h ++ .cells [] false :: .tomb :: J) v = some [] := rowOf_sl hv _
    rw [appG_zero (sl := 0) rfl (lenOf_sl hv) hr]; rfl
  · refine ⟨1, .ro [], .cells (l.flatMap enc) false, by omega, ?_, rfl⟩
    rw [appG_ms (c := []) hz atA0 (by simp) (lenOf_sl hv) (rowOf_sl hv _) (flat_len he l) (scal_sl hs l) (by simpa using hb) heb hlim, setT0, setT]
    simp


theorem cpyO {α : Type} {enc : α → List AV} {esz eb : Nat} {l : List α} {v : AV} {h : List AO} {lim : Nat} (hv : IsSl esz enc l v) (he : ∀ a, (enc a).length = esz) (hs : ∀ a, (enc a).all AV.scalar = true) (hb : l.length * eb ≤ 140737488355328) (heb : 1 ≤ eb) (hlim : lim ≤ h.length) :
    ∃ o h', appV lim (h ++ [.cells [] false]) esz eb (.ms esz h.length 0 0) v = some (.ms esz o 0 l.length, h') ∧ Fr h h' ∧ h.length ≤ o ∧ h'[o]? = some (.cells (l.flatMap enc) false) := by
  rw [appV_new hv he hs hb heb _ _ _ atE hlim]
  by_cases hz : l.length = 0
  · rw [if_pos hz]
    refine ⟨h.length, _, by rw [hz], Fr.app _ _, Nat.le_refl _, ?_⟩
    rw [List.eq_nil_of_length_eq_zero hz]; exact atE
  · rw [if_neg hz]
    refine ⟨(h ++ [AO.cells [] false]).length, _, rfl, ⟨by simp, fun j hj => ?_⟩, by simp, ?_⟩
    · rw [List.getElem?_append_left (by simp; omega), List.getElem?_set_ne (by omega), List.getElem?_append_left hj]
    · rw [List.getElem?_append_right (by simp)]; simp
theorem int_put {l : List Int} {i : Nat} (hi : i < l.length) (x : Int) : (l.flatMap intL).take i ++ [I x] ++ (l.flatMap intL).drop (i + 1) = (l.set i x).flatMap intL := by
  induction l generalizing i with
  | nil => simp at hi
  | cons a l ih =>
    cases i with
    | zero => rfl
    | succ i =>
      have := ih (i := i) (by simpa using hi)
      show I a :: ((l.flatMap intL).take i ++ [I x] ++ (l.flatMap intL).drop (i + 1)) = _
      rw [this]; rfl

end Go.Proofs.Ytekoplcnlhanbaa.S

/-
Nets as values, and the small functions of both sides.
-/
namespace Go.Proofs.Ytekoplcnlhanbaa.S
open Go Go.Am Go.Proofs.Ytekoplcnlhanbaa.T
set_option maxRecDepth 100000
set_option linter.unusedSimpArgs false
set_option linter.unusedVariables false

def Hl.e (x : Hl) : List AV := [I x.f, I x.lo, I x.hi, I x.h]
def Pr.e (x : Pr) : List AV := [I x.a, I x.b]
theorem Hl.el (x : Hl) : x.e.length = 4 := rfl
theorem Pr.el (x : Pr) : x.e.length = 2 := rfl
theorem Hl.sc (x : Hl) : x.e.all AV.scalar = true := rfl
theorem Pr.sc (x : Pr) : x.e.all AV.scalar = true := rfl
theorem elem_hl {l : List Hl} {v : AV} (h : IsSl 4 Hl.e l v) : ∀ i : Int, 0 ≤ i → i < l.length → elemAt 4 v (I i) = some (.cptr [I (l.getD i.toNat default).f, I (l.getD i.toNat default).lo, I (l.getD i.toNat default).hi, I (l.getD i.toNat default).h]) := elem_sl Hl.el h
theorem elem_pr {l : List Pr} {v : AV} (h : IsSl 2 Pr.e l v) : ∀ i : Int, 0 ≤ i → i < l.length → elemAt 2 v (I i) = some (.cptr [I (l.getD i.toNat default).a, I (l.getD i.toNat default).b]) := elem_sl Pr.el h
abbrev netV (n : Net) (g p : AV) : AV := .agg [I n.m, g, p]
structure NetIn (n : Net) (g p : AV) : Prop where
  g : IsSl 4 Hl.e n.hs g
  p : IsSl 2 Pr.e n.ps p
structure NetOk (n : Net) (g p : AV) : Prop extends NetIn n g p where
  sg : n.hs.length ≤ 41
  sp : n.ps.length ≤ 41

theorem s87 (n lo hi : Int) (st : Bool) : Iso E 87 [I n, I lo, I hi] st = some (Bo (inR n lo hi)) := by
  refine Iso_of (es _ _ _ _) e87 ?_
  simp only [f87, inR]
  simp (disch := first | assumption | omega | (simp only [az]; done)) only [ru, eq_self, if_true, if_false, BEq.rfl, binI, AO.row?, splice, fillL, mmAll, loadV, storeV, zeros, Am.rowAt, Am.part, addOff, Nat.reduceAdd, Nat.reduceMul, Nat.reduceLeDiff, Nat.reduceSub, Nat.reduceLT, Int.reduceEq, Int.reduceLT, Int.reduceLE, Int.reduceGT, Int.reduceGE, Int.reduceAdd, Int.reduceSub, Int.reduceMul, Int.reduceNeg, Int.reduceToNat, reduceCtorEq, reduceIte]
  by_cases h1 : lo ≤ n
  · simp (disch := first | assumption | omega | (simp only [az]; done)) only [ru, eq_self, if_true, if_false, BEq.rfl, binI, AO.row?, splice, fillL, mmAll, loadV, storeV, zeros, Am.rowAt, Am.part, addOff, Nat.reduceAdd, Nat.reduceMul, Nat.reduceLeDiff, Nat.reduceSub, Nat.reduceLT, Int.reduceEq, Int.reduceLT, Int.reduceLE, Int.reduceGT, Int.reduceGE, Int.reduceAdd, Int.reduceSub, Int.reduceMul, Int.reduceNeg, Int.reduceToNat, reduceCtorEq, reduceIte, h1]
  · simp (disch := first | assumption | omega | (simp only [az]; done)) only [ru, eq_self, if_true, if_false, BEq.rfl, binI, AO.row?, splice, fillL, mmAll, loadV, storeV, zeros, Am.rowAt, Am.part, addOff, Nat.reduceAdd, Nat.reduceMul, Nat.reduceLeDiff, Nat.reduceSub, Nat.reduceLT, Int.reduceEq, Int.reduceLT, Int.reduceLE, Int.reduceGT, Int.reduceGE, Int.reduceAdd, Int.reduceSub, Int.reduceMul, Int.reduceNeg, Int.reduceToNat, reduceCtorEq, reduceIte, h1]
theorem s60 (n lo hi : Int) (st : Bool) : Iso E 60 [I n, I lo, I hi] st = some (Bo (inR n lo hi)) := by
  refine Iso_of (es _ _ _ _) e60 ?_
  simp only [f60]
  simp (disch := first | assumption | omega | (simp only [az]; done)) only [ru, eq_self, if_true, if_false, BEq.rfl, binI, AO.row?, splice, fillL, mmAll, loadV, storeV, zeros, Am.rowAt, Am.part, addOff, Nat.reduceAdd, Nat.reduceMul, Nat.reduceLeDiff, Nat.reduceSub, Nat.reduceLT, Int.reduceEq, Int.reduceLT, Int.reduceLE, Int.reduceGT, Int.reduceGE, Int.reduceAdd, Int.reduceSub, Int.reduceMul, Int.reduceNeg, Int.reduceToNat, reduceCtorEq, reduceIte, s17]
section
variable {n : Net} {g p : AV}
theorem s74 (H : NetOk n g p) (i : Int) (st : Bool) : Iso E 74 [netV n g p, I i] st = some (Bo (inR i 0 (n.hs.length - 1))) := by
  have := H.sg
  refine Iso_of (es _ _ _ _) e74 ?_
  simp only [f74, netV]
  simp (disch := first | assumption | omega | (simp only [az]; done)) only [ru, eq_self, if_true, if_false, BEq.rfl, binI, AO.row?, splice, fillL, mmAll, loadV, storeV, zeros, Am.rowAt, Am.part, addOff, Nat.reduceAdd, Nat.reduceMul, Nat.reduceLeDiff, Nat.reduceSub, Nat.reduceLT, Int.reduceEq, Int.reduceLT, Int.reduceLE, Int.reduceGT, Int.reduceGE, Int.reduceAdd, Int.reduceSub, Int.reduceMul, Int.reduceNeg, Int.reduceToNat, reduceCtorEq, reduceIte, s87, lenV_sl H.g, view_sl H.g, scalar_sl H.g, cells_sl H.g, pure_sl H.g, lenV_sl H.p, view_sl H.p, scalar_sl H.p, cells_sl H.p, pure_sl H.p]
theorem s55 (H : NetOk n g p) (i : Int) (st : Bool) : Iso E 55 [netV n g p, I i] st = some (Bo (inR i 0 (n.hs.length - 1))) := by
  have := H.sg
  refine Iso_of (es _ _ _ _) e55 ?_
  simp only [f55, netV]
  simp (disch := first | assumption | omega | (simp only [az]; done)) only [ru, eq_self, if_true, if_false, BEq.rfl, binI, AO.row?, splice, fillL, mmAll, loadV, storeV, zeros, Am.rowAt, Am.part, addOff, Nat.reduceAdd, Nat.reduceMul, Nat.reduceLeDiff, Nat.reduceSub, Nat.reduceLT, Int.reduceEq, Int.reduceLT, Int.reduceLE, Int.reduceGT, Int.reduceGE, Int.reduceAdd, Int.reduceSub, Int.reduceMul, Int.reduceNeg, Int.reduceToNat, reduceCtorEq, reduceIte, s60, lenV_sl H.g, view_sl H.g, scalar_sl H.g, cells_sl H.g, pure_sl H.g, lenV_sl H.p, view_sl H.p, scalar_sl H.p, cells_sl H.p, pure_sl H.p]
def huge (n : Net) (l : List Int) : Bool := decide (40 < n.hs.length) || decide (40 < n.ps.length) || decide (40 < l.length)
theorem s14 (H : NetIn n g p) {l : List Int} {v : AV} (V : IsSl 1 intL l v) (st : Bool) : Iso E 14 [netV n g p, v] st = some (Bo (huge n l)) := by
  refine Iso_of (es _ _ _ _) e14 ?_
  simp only [f14, netV, huge]
  by_cases h1 : 40 < n.hs.length
  · have h1' : (n.hs.length : Int) > 40 := by omega
    simp (disch := first | assumption | omega | (simp only [az]; done)) only [ru, eq_self, if_true, if_false, BEq.rfl, binI, AO.row?, splice, fillL, mmAll, loadV, storeV, zeros, Am.rowAt, Am.part, addOff, Nat.reduceAdd, Nat.reduceMul, Nat.reduceLeDiff, Nat.reduceSub, Nat.reduceLT, Int.reduceEq, Int.reduceLT, Int.reduceLE, Int.reduceGT, Int.reduceGE, Int.reduceAdd, Int.reduceSub, Int.reduceMul, Int.reduceNeg, Int.reduceToNat, reduceCtorEq, reduceIte, lenV_sl H.g, view_sl H.g, scalar_sl H.g, cells_sl H.g, pure_sl H.g, lenV_sl H.p, view_sl H.p, scalar_sl H.p, cells_sl H.p, pure_sl H.p, lenV_sl V, view_sl V, scalar_sl V, cells_sl V, pure_sl V, h1', h1, gUn, decide_true, Bool.true_or]
  have h1' : ¬ (n.hs.length : Int) > 40 := by omega
  by_cases h2 : 40 < n.ps.length
  · have h2' : (n.ps.length : Int) > 40 := by omega
    simp (disch := first | assumption | omega | (simp only [az]; done)) only [ru, eq_self, if_true, if_false, BEq.rfl, binI, AO.row?, splice, fillL, mmAll, loadV, storeV, zeros, Am.rowAt, Am.part, addOff, Nat.reduceAdd, Nat.reduceMul, Nat.reduceLeDiff, Nat.reduceSub, Nat.reduceLT, Int.reduceEq, Int.reduceLT, Int.reduceLE, Int.reduceGT, Int.reduceGE, Int.reduceAdd, Int.reduceSub, Int.reduceMul, Int.reduceNeg, Int.reduceToNat, reduceCtorEq, reduceIte, lenV_sl H.g, view_sl H.g, scalar_sl H.g, cells_sl H.g, pure_sl H.g, lenV_sl H.p, view_sl H.p, scalar_sl H.p, cells_sl H.p, pure_sl H.p, lenV_sl V, view_sl V, scalar_sl V, cells_sl V, pure_sl V, h1', h1, h2', h2, gUn, decide_true, decide_false, Bool.true_or, Bool.false_or]
  have h2' : ¬ (n.ps.length : Int) > 40 := by omega
  by_cases h3 : 40 < l.length
  · have h3' : (l.length : Int) > 40 := by omega
    simp (disch := first | assumption | omega | (simp only [az]; done)) only [ru, eq_self, if_true, if_false, BEq.rfl, binI, AO.row?, splice, fillL, mmAll, loadV, storeV, zeros, Am.rowAt, Am.part, addOff, Nat.reduceAdd, Nat.reduceMul, Nat.reduceLeDiff, Nat.reduceSub, Nat.reduceLT, Int.reduceEq, Int.reduceLT, Int.reduceLE, Int.reduceGT, Int.reduceGE, Int.reduceAdd, Int.reduceSub, Int.reduceMul, Int.reduceNeg, Int.reduceToNat, reduceCtorEq, reduceIte, lenV_sl H.g, view_sl H.g, scalar_sl H.g, cells_sl H.g, pure_sl H.g, lenV_sl H.p, view_sl H.p, scalar_sl H.p, cells_sl H.p, pure_sl H.p, lenV_sl V, view_sl V, scalar_sl V, cells_sl V, pure_sl V, h1', h1, h2', h2, h3, h3', gUn, decide_true, decide_false, Bool.true_or, Bool.false_or]
  · have h3' : ¬ (l.length : Int) > 40 := by omega
    simp (disch := first | assumption | omega | (simp only [az]; done)) only [ru, eq_self, if_true, if_false, BEq.rfl, binI, AO.row?, splice, fillL, mmAll, loadV, storeV, zeros, Am.rowAt, Am.part, addOff, Nat.reduceAdd, Nat.reduceMul, Nat.reduceLeDiff, Nat.reduceSub, Nat.reduceLT, Int.reduceEq, Int.reduceLT, Int.reduceLE, Int.reduceGT, Int.reduceGE, Int.reduceAdd, Int.reduceSub, Int.reduceMul, Int.reduceNeg, Int.reduceToNat, reduceCtorEq, reduceIte, lenV_sl H.g, view_sl H.g, scalar_sl H.g, cells_sl H.g, pure_sl H.g, lenV_sl H.p, view_sl H.p, scalar_sl H.p, cells_sl H.p, pure_sl H.p, lenV_sl V, view_sl V, scalar_sl V, cells_sl V, pure_sl V, h1', h1, h2', h2, h3, h3', gUn, decide_true, decide_false, Bool.true_or, Bool.false_or]
theorem s79 (H : NetOk n g p) {F : List Int} {v : AV} (V : IsSl 1 intL F v) (hF : F.length ≤ 1000) (i : Int) (st : Bool) : Iso E 79 [netV n g p, v, I i] st = some (Bo (may n.ps F i)) := by
  have sp := H.sp
  have c1 := fun x st => s49 V hF x st
  refine Iso_of (es _ _ _ _) e79 ?_
  simp only [f79, netV]
  by_cases hin : i ∈ F
  · have e : may n.ps F i = false := by simp [may, hin]
    rw [e]
    simp (disch := first | assumption | omega | (simp only [az]; done)) only [ru, eq_self, if_true, if_false, BEq.rfl, binI, AO.row?, splice, fillL, mmAll, loadV, storeV, zeros, Am.rowAt, Am.part, addOff, Nat.reduceAdd, Nat.reduceMul, Nat.reduceLeDiff, Nat.reduceSub, Nat.reduceLT, Int.reduceEq, Int.reduceLT, Int.reduceLE, Int.reduceGT, Int.reduceGE, Int.reduceAdd, Int.reduceSub, Int.reduceMul, Int.reduceNeg, Int.reduceToNat, reduceCtorEq, reduceIte, lenV_sl H.g, view_sl H.g, scalar_sl H.g, cells_sl H.g, pure_sl H.g, lenV_sl H.p, view_sl H.p, scalar_sl H.p, cells_sl H.p, pure_sl H.p, lenV_sl V, view_sl V, scalar_sl V, cells_sl V, pure_sl V, c1, hin, decide_true]
  simp (disch := first | assumption | omega | (simp only [az]; done)) only [ru, eq_self, if_true, if_false, BEq.rfl, binI, AO.row?, splice, fillL, mmAll, loadV, storeV, zeros, Am.rowAt, Am.part, addOff, Nat.reduceAdd, Nat.reduceMul, Nat.reduceLeDiff, Nat.reduceSub, Nat.reduceLT, Int.reduceEq, Int.reduceLT, Int.reduceLE, Int.reduceGT, Int.reduceGE, Int.reduceAdd, Int.reduceSub, Int.reduceMul, Int.reduceNeg, Int.reduceToNat, reduceCtorEq, reduceIte, lenV_sl H.g, view_sl H.g, scalar_sl H.g, cells_sl H.g, pure_sl H.g, lenV_sl H.p, view_sl H.p, scalar_sl H.p, cells_sl H.p, pure_sl H.p, lenV_sl V, view_sl V, scalar_sl V, cells_sl V, pure_sl V, c1, hin, decide_false]
  refine G_loop_ind (fun m ts h mk => ∃ k : Nat, k ≤ n.ps.length ∧ m = n.ps.length - k ∧ (∀ q ∈ n.ps.take k, ¬ (q.b = i ∧ q.a ∉ F)) ∧ ts.length = 37 ∧ ts.getD 1 .undef = v ∧ ts.getD 2 .undef = I i ∧ ts.getD 3 .undef = .ptr 0 0 ∧ ts.getD 7 .undef = I k ∧ h = [.cells [I n.m, g, p] false] ∧ mk = []) ?_ _ _ _ _ ⟨0, Nat.zero_le _, rfl, fun q hq => by simp at hq, rfl, rfl, rfl, rfl, rfl, rfl, rfl⟩
  rintro m ts h mk ih ⟨k, hk, rfl, hall, hl', q1, q2, q3, q7, rfl, rfl⟩
  rw [lit_all hl']
  simp only [lit0, litS, Nat.reduceAdd, q1, q2, q3, q7]
  simp (disch := first | assumption | omega | (simp only [az]; done)) only [ru, eq_self, if_true, if_false, BEq.rfl, binI, AO.row?, splice, fillL, mmAll, loadV, storeV, zeros, Am.rowAt, Am.part, addOff, Nat.reduceAdd, Nat.reduceMul, Nat.reduceLeDiff, Nat.reduceSub, Nat.reduceLT, Int.reduceEq, Int.reduceLT, Int.reduceLE, Int.reduceGT, Int.reduceGE, Int.reduceAdd, Int.reduceSub, Int.reduceMul, Int.reduceNeg, Int.reduceToNat, reduceCtorEq, reduceIte, lenV_sl H.p, view_sl H.p, scalar_sl H.p, cells_sl H.p, pure_sl H.p]
  by_cases hlt : (k : Int) < n.ps.length
  case neg =>
    have e : may n.ps F i = true := by
      simp only [may, Bool.and_eq_true, Bool.not_eq_true', decide_eq_false_iff_not, List.all_eq_true, Bool.or_eq_true, decide_eq_true_eq]
      refine ⟨hin, fun q hq => ?_⟩
      have := hall q (by rw [List.take_of_length_le (by omega)]; exact hq)
      by_cases c : q.b = i
      · refine .inr ?_
        by_cases d : q.a ∈ F
        · exact d
        · exact absurd ⟨c, d⟩ this
      · exact .inl c
    simp (disch := first | assumption | omega | (simp only [az]; done)) only [ru, eq_self, if_true, if_false, BEq.rfl, binI, AO.row?, splice, fillL, mmAll, loadV, storeV, zeros, Am.rowAt, Am.part, addOff, Nat.reduceAdd, Nat.reduceMul, Nat.reduceLeDiff, Nat.reduceSub, Nat.reduceLT, Int.reduceEq, Int.reduceLT, Int.reduceLE, Int.reduceGT, Int.reduceGE, Int.reduceAdd, Int.reduceSub, Int.reduceMul, Int.reduceNeg, Int.reduceToNat, reduceCtorEq, reduceIte, hlt, e]
  have hk' : k < n.ps.length := by omega
  obtain ⟨x, hx⟩ : ∃ x, x = n.ps.getD k default := ⟨_, rfl⟩
  have xm : x ∈ n.ps := by rw [hx]; exact getD_mem hk'
  have hno : x.b = i → x.a ∉ F → may n.ps F i = false := fun c d => by
    cases hm : may n.ps F i
    · rfl
    · exact absurd (may_pair hm xm c) d
  have hstep : ¬ (x.b = i ∧ x.a ∉ F) → ∀ q ∈ n.ps.take (k + 1), ¬ (q.b = i ∧ q.a ∉ F) := fun c q hq => by
    rw [take_snoc (d := default) hk'] at hq
    rcases List.mem_append.1 hq with h | h
    · exact hall q h
    · simp only [List.mem_singleton] at h; rw [h, ← hx]; exact c
  have ep := elem_pr H.p
  by_cases c : x.b = i
  · by_cases d : x.a ∈ F
    · simp (disch := first | assumption | omega | (simp only [az]; done)) only [ru, eq_self, if_true, if_false, BEq.rfl, binI, AO.row?, splice, fillL, mmAll, loadV, storeV, zeros, Am.rowAt, Am.part, addOff, Nat.reduceAdd, Nat.reduceMul, Nat.reduceLeDiff, Nat.reduceSub, Nat.reduceLT, Int.reduceEq, Int.reduceLT, Int.reduceLE, Int.reduceGT, Int.reduceGE, Int.reduceAdd, Int.reduceSub, Int.reduceMul, Int.reduceNeg, Int.reduceToNat, reduceCtorEq, reduceIte, lenV_sl H.p, view_sl H.p, scalar_sl H.p, cells_sl H.p, pure_sl H.p, lenV_sl V, view_sl V, scalar_sl V, cells_sl V, pure_sl V, ep, hlt, ← hx, Int.toNat_natCast, c, c1, d, decide_true, decide_false, Bool.not_true]
      exact ih (n.ps.length - (k + 1)) _ _ _ (by omega) ⟨k + 1, by omega, rfl, hstep fun h => h.2 d, rfl, rfl, rfl, rfl, rfl, rfl, rfl⟩
    · simp (disch := first | assumption | omega | (simp only [az]; done)) only [ru, eq_self, if_true, if_false, BEq.rfl, binI, AO.row?, splice, fillL, mmAll, loadV, storeV, zeros, Am.rowAt, Am.part, addOff, Nat.reduceAdd, Nat.reduceMul, Nat.reduceLeDiff, Nat.reduceSub, Nat.reduceLT, Int.reduceEq, Int.reduceLT, Int.reduceLE, Int.reduceGT, Int.reduceGE, Int.reduceAdd, Int.reduceSub, Int.reduceMul, Int.reduceNeg, Int.reduceToNat, reduceCtorEq, reduceIte, lenV_sl H.p, view_sl H.p, scalar_sl H.p, cells_sl H.p, pure_sl H.p, lenV_sl V, view_sl V, scalar_sl V, cells_sl V, pure_sl V, ep, hlt, ← hx, Int.toNat_natCast, c, c1, d, hno c d, decide_true, decide_false, Bool.not_false]
  · simp (disch := first | assumption | omega | (simp only [az]; done)) only [ru, eq_self, if_true, if_false, BEq.rfl, binI, AO.row?, splice, fillL, mmAll, loadV, storeV, zeros, Am.rowAt, Am.part, addOff, Nat.reduceAdd, Nat.reduceMul, Nat.reduceLeDiff, Nat.reduceSub, Nat.reduceLT, Int.reduceEq, Int.reduceLT, Int.reduceLE, Int.reduceGT, Int.reduceGE, Int.reduceAdd, Int.reduceSub, Int.reduceMul, Int.reduceNeg, Int.reduceToNat, reduceCtorEq, reduceIte, lenV_sl H.p, view_sl H.p, scalar_sl H.p, cells_sl H.p, pure_sl H.p, lenV_sl V, view_sl V, scalar_sl V, cells_sl V, pure_sl V, ep, hlt, ← hx, Int.toNat_natCast, c, decide_true, decide_false, Bool.not_false, gUn]
    exact ih (n.ps.length - (k + 1)) _ _ _ (by omega) ⟨k + 1, by omega, rfl, hstep fun h => c h.1, rfl, rfl, rfl, rfl, rfl, rfl, rfl⟩
end
end Go.Proofs.Ytekoplcnlhanbaa.S

/-
All orders: as the specification lists them.
-/
namespace Go.Proofs.Ytekoplcnlhanbaa.S
open Go Go.Am Go.Proofs.Ytekoplcnlhanbaa.T
set_option maxRecDepth 100000
set_option linter.unusedSimpArgs false
set_option linter.unusedVariables false

/-- the lists with the first numbers next -/
def enP (q : List Int → Int → Bool) (k d : Nat) (F : List Int) (j : Nat) : List (List Int) := (List.range j).flatMap fun (i : Nat) => if q F i then enm q k d (F ++ [(i : Int)]) else []
theorem enP_succ {q : List Int → Int → Bool} {k d : Nat} {F : List Int} {j : Nat} : enP q k d F (j + 1) = enP q k d F j ++ (if q F j then enm q k d (F ++ [(j : Int)]) else []) := by
  unfold enP; rw [List.range_succ, List.flatMap_append]; simp
theorem pow_le6 {k d : Nat} (hk : k ≤ 6) (hd : d ≤ 5) : k ^ d ≤ 7776 := by
  have h1 := Nat.pow_le_pow_left hk d
  have h2 := Nat.pow_le_pow_right (n := 6) (by omega) hd
  have : 6 ^ 5 = 7776 := by decide
  omega
theorem enP_len {q : List Int → Int → Bool} {k d : Nat} {F : List Int} (hk : k ≤ 6) (hd : d ≤ 5) : ∀ {j : Nat}, (enP q k d F j).length ≤ j * 7776
  | 0 => by simp [enP]
  | j + 1 => by
    have := enP_len (q := q) (F := F) hk hd (j := j)
    have := enm_len (q := q) (k := k) (d := d) (F := F ++ [(j : Int)])
    have := pow_le6 hk hd
    rw [enP_succ, List.length_append]
    split
    · omega
    · simp; omega

set_option maxHeartbeats 1000000 in
theorem r61 {n : Net} {g p : AV} (H : NetOk n g p) (G : n.hs.length ≤ 6) : ∀ (d : Nat) (F : List Int) (fv : AV) (h : List AO) (lim : Nat), F.length + d = n.hs.length → RdS h fv F → lim ≤ h.length →
    ∃ v h', R E (.fn 61) [netV n g p, fv] h lim = some (v, h') ∧ Fr h h' ∧ OutLL h.length h' v (enm (may n.ps) n.hs.length d F) := by
  intro d
  induction d with
  | zero =>
    intro F fv h lim hd hF hlim
    have hl : (F.length : Int) = n.hs.length := by omega
    obtain ⟨f1, f2, f3⟩ := hF.len
    have key : ∃ r h', R E (.fn 61) [netV n g p, fv] h lim = some (r, h') ∧ (Fr h h' ∧ OutLL h.length h' r (enm (may n.ps) n.hs.length 0 F)) := by
      refine R_of _ (es _ _ _ _) e61 ?_
      simp only [f61, netV]
      simp (disch := first | assumption | omega | (simp only [az]; done)) only [ru, eq_self, if_true, if_false, BEq.rfl, binI, AO.row?, splice, fillL, mmAll, loadV, storeV, zeros, Am.rowAt, Am.part, addOff, Nat.reduceAdd, Nat.reduceMul, Nat.reduceLeDiff, Nat.reduceSub, Nat.reduceLT, Int.reduceEq, Int.reduceLT, Int.reduceLE, Int.reduceGT, Int.reduceGE, Int.reduceAdd, Int.reduceSub, Int.reduceMul, Int.reduceNeg, Int.reduceToNat, reduceCtorEq, reduceIte, lenV_sl H.g, view_sl H.g, scalar_sl H.g, cells_sl H.g, pure_sl H.g, lenV_sl H.p, view_sl H.p, scalar_sl H.p, cells_sl H.p, pure_sl H.p, f1, f2, f3, hl]
      refine ⟨by rw [List.append_assoc]; exact Fr.app _ _, .inr ⟨by simp [enm], (h ++ [AO.cells [I n.m, g, p] false]).length, [fv], by simp, rfl, by simp, rfl, fun i hi => ?_⟩⟩
      have hi0 : i = 0 := by simp [enm] at hi; omega
      subst hi0
      simp only [enm, get0]
      exact hF.fr (by rw [List.append_assoc]; exact Fr.app _ _)
    exact key
  | succ d ih =>
    intro F fv h lim hd hF hlim
    have hl : ¬ (F.length : Int) = n.hs.length := by omega
    obtain ⟨f1, f2, f3⟩ := hF.len
    have key : ∃ r h', R E (.fn 61) [netV n g p, fv] h lim = some (r, h') ∧ (Fr h h' ∧ OutLL h.length h' r (enm (may n.ps) n.hs.length (d + 1) F)) := by
      refine R_of _ (es _ _ _ _) e61 ?_
      simp only [f61, netV]
      simp (disch := first | assumption | omega | (simp only [az]; done)) only [ru, eq_self, if_true, if_false, BEq.rfl, binI, AO.row?, splice, fillL, mmAll, loadV, storeV, zeros, Am.rowAt, Am.part, addOff, Nat.reduceAdd, Nat.reduceMul, Nat.reduceLeDiff, Nat.reduceSub, Nat.reduceLT, Int.reduceEq, Int.reduceLT, Int.reduceLE, Int.reduceGT, Int.reduceGE, Int.reduceAdd, Int.reduceSub, Int.reduceMul, Int.reduceNeg, Int.reduceToNat, reduceCtorEq, reduceIte, lenV_sl H.g, view_sl H.g, scalar_sl H.g, cells_sl H.g, pure_sl H.g, lenV_sl H.p, view_sl H.p, scalar_sl H.p, cells_sl H.p, pure_sl H.p, f1, hl]
      refine G_loop_ind (fun m ts hk mk => ∃ (k : Nat) (o : AV), k ≤ n.hs.length ∧ m = n.hs.length - k ∧ Fr h hk ∧ hk[h.length]? = some (.cells [I n.m, g, p] false) ∧ OutLL (h.length + 1) hk o (enP (may n.ps) n.hs.length d F k) ∧
        ts.length = 37 ∧ ts.getD 1 .undef = fv ∧ ts.getD 2 .undef = .ptr h.length 0 ∧ ts.getD 5 .undef = o ∧ ts.getD 6 .undef = I k ∧ mk = []) ?_ _ _ _ _
        ⟨0, .nils, Nat.zero_le _, rfl, Fr.app _ _, by simp, .inl ⟨rfl, rfl⟩, rfl, rfl, rfl, rfl, rfl, rfl⟩
      rintro m ts hk mk ihk ⟨k, o, hkN, rfl, fr, c2, ho, hl', q1, q2, q5, q6, rfl⟩
      rw [lit_all hl']
      simp only [lit0, litS, Nat.reduceAdd, q1, q2, q5, q6]
      simp (disch := first | assumption | omega | (simp only [az]; done)) only [ru, eq_self, if_true, if_false, BEq.rfl, binI, AO.row?, splice, fillL, mmAll, loadV, storeV, zeros, Am.rowAt, Am.part, addOff, Nat.reduceAdd, Nat.reduceMul, Nat.reduceLeDiff, Nat.reduceSub, Nat.reduceLT, Int.reduceEq, Int.reduceLT, Int.reduceLE, Int.reduceGT, Int.reduceGE, Int.reduceAdd, Int.reduceSub, Int.reduceMul, Int.reduceNeg, Int.reduceToNat, reduceCtorEq, reduceIte, lenV_sl H.g, view_sl H.g, scalar_sl H.g, cells_sl H.g, pure_sl H.g, lenV_sl H.p, view_sl H.p, scalar_sl H.p, cells_sl H.p, pure_sl H.p, c2]
      by_cases hlt : (k : Int) < n.hs.length
      case pos =>
        have n2 := (List.getElem?_eq_some_iff.1 c2).1
        have hF' := hF.fr fr
        have g79 := fun st => s79 H (resL_is F) (by omega) (k : Int) st
        have RF := resL_is F
        have fw := fun st => hF'.view (st := st) (k := 7)
        have hlk : lim ≤ hk.length := by have := fr.l; omega
        have lk := fr.l
        simp only [netV] at g79
        cases hmem : may n.ps F (k : Int)
        · simp (disch := first | assumption | omega | (simp only [az]; done)) only [ru, eq_self, if_true, if_false, BEq.rfl, binI, AO.row?, splice, fillL, mmAll, loadV, storeV, zeros, Am.rowAt, Am.part, addOff, Nat.reduceAdd, Nat.reduceMul, Nat.reduceLeDiff, Nat.reduceSub, Nat.reduceLT, Int.reduceEq, Int.reduceLT, Int.reduceLE, Int.reduceGT, Int.reduceGE, Int.reduceAdd, Int.reduceSub, Int.reduceMul, Int.reduceNeg, Int.reduceToNat, reduceCtorEq, reduceIte, lenV_sl H.g, view_sl H.g, scalar_sl H.g, cells_sl H.g, pure_sl H.g, lenV_sl H.p, view_sl H.p, scalar_sl H.p, cells_sl H.p, pure_sl H.p, lenV_sl RF, view_sl RF, scalar_sl RF, cells_sl RF, pure_sl RF, c2, hlt, fw, g79, hmem, decide_true, Bool.not_true]
          exact ihk (n.hs.length - (k + 1)) _ _ _ (by omega) ⟨k + 1, o, by omega, rfl, fr, c2, by rw [enP_succ, if_neg (by rw [hmem]; simp), List.append_nil]; exact ho, rfl, rfl, rfl, rfl, rfl, rfl⟩
        obtain ⟨y, hy⟩ : ∃ y, y = (k : Int) := ⟨_, rfl⟩
        obtain ⟨q, x0, x1, hq, A1, hx'⟩ := app_one (lim := lim) hF' (by omega) hlk
        obtain ⟨y0, y1, sh, A2⟩ := app_two (lim := lim) (h := hk) (y := y) hq hx' (by omega) hlk
        obtain ⟨H5, hH5⟩ : ∃ H5, H5 = hk ++ [y0, y1, .cells [I y] false, .cells ((F ++ [y]).flatMap fun n => [I n]) sh, .tomb] := ⟨_, rfl⟩
        rw [← hH5] at A2
        have l5 : H5.length = hk.length + 5 := by rw [hH5]; simp
        have t5 : H5[hk.length + 4]? = some .tomb := by rw [hH5, atT]; rfl
        have fr5 : Fr hk H5 := by rw [hH5]; exact Fr.app _ _
        have rd : RdS H5 (.ms 1 (hk.length + 3) 0 (F.length + 1)) (F ++ [y]) := .inr ⟨by simp, hk.length + 3, sh, by simp, by rw [hH5, atT]; rfl⟩
        obtain ⟨v', h', hr, fr', ho'⟩ := ih (F ++ [y]) (.ms 1 (hk.length + 3) 0 (F.length + 1)) H5 lim (by simp; omega) rd (by omega)
        have t5' : h'[hk.length + 4]? = some .tomb := fr'.at t5
        have u1 : H5.set (hk.length + 4) .tomb = H5 := set_same t5
        have u2 : h'.set (hk.length + 4) (H5.getD (hk.length + 4) .tomb) = h' := by
          rw [List.getD_eq_getElem?_getD, t5]; exact set_same t5'
        have lp := enP_len (q := may n.ps) (F := F) (d := d) (k := n.hs.length) G (by omega) (j := k)
        have lc := Nat.le_trans (enm_len (q := may n.ps) (k := n.hs.length) (d := d) (F := F ++ [y])) (pow_le6 G (by omega))
        obtain ⟨v'', h'', A3, e1, e2, e3⟩ := app_ll0 (lim := lim) (p := hk.length + 4) (ho.fr (fr5.trans fr')) (ho'.deep (by omega)) t5' (by omega) (by omega) (by omega)
        have fr'' : Fr h h'' := ⟨by have := fr'.l; omega, fun j hj => by rw [e2 j (by omega)]; exact (fr.trans (fr5.trans fr')).k j hj⟩
        simp only [netV] at hr
        rw [← hy] at hlt hmem g79 ⊢
        simp (disch := first | assumption | omega | (simp only [az]; done)) only [ru, eq_self, if_true, if_false, BEq.rfl, binI, AO.row?, splice, fillL, mmAll, loadV, storeV, zeros, Am.rowAt, Am.part, addOff, Nat.reduceAdd, Nat.reduceMul, Nat.reduceLeDiff, Nat.reduceSub, Nat.reduceLT, Int.reduceEq, Int.reduceLT, Int.reduceLE, Int.reduceGT, Int.reduceGE, Int.reduceAdd, Int.reduceSub, Int.reduceMul, Int.reduceNeg, Int.reduceToNat, reduceCtorEq, reduceIte, lenV_sl H.g, view_sl H.g, scalar_sl H.g, cells_sl H.g, pure_sl H.g, lenV_sl H.p, view_sl H.p, scalar_sl H.p, cells_sl H.p, pure_sl H.p, lenV_sl RF, view_sl RF, scalar_sl RF, cells_sl RF, pure_sl RF, c2, hlt, fw, g79, hmem, decide_false, Bool.not_false, GO_mapp, GO_mcall0, unhN, unhC, setT, setT0, getT, getT0, atT, atT0, c2, at_ap, n2, A1, A2, hr, u1, u2, A3]
        refine ihk (n.hs.length - (k + 1)) _ _ _ (by omega) ⟨k + 1, _, by omega, rfl, fr'', ?_, ?_, rfl, rfl, rfl, rfl, ?_, rfl⟩
        · rw [e2 _ (by omega)]; exact (fr5.trans fr').at c2
        · rw [enP_succ, ← hy, if_pos hmem]; exact e3
        · show I _ = I _; congr 1; omega
      obtain rfl : k = n.hs.length := by omega
      simp (disch := first | assumption | omega | (simp only [az]; done)) only [ru, eq_self, if_true, if_false, BEq.rfl, binI, AO.row?, splice, fillL, mmAll, loadV, storeV, zeros, Am.rowAt, Am.part, addOff, Nat.reduceAdd, Nat.reduceMul, Nat.reduceLeDiff, Nat.reduceSub, Nat.reduceLT, Int.reduceEq, Int.reduceLT, Int.reduceLE, Int.reduceGT, Int.reduceGE, Int.reduceAdd, Int.reduceSub, Int.reduceMul, Int.reduceNeg, Int.reduceToNat, reduceCtorEq, reduceIte, hlt]
      have hex : enm (may n.ps) n.hs.length (d + 1) F = enP (may n.ps) n.hs.length d F n.hs.length := rfl
      rw [hex]
      exact ⟨fr, ho.deep (by omega)⟩
    exact key
theorem s61 {n : Net} {g p : AV} (H : NetOk n g p) (G : n.hs.length ≤ 6) (st : Bool) : Iso E 61 [netV n g p, .nils] st = some (resLL (ords n)) := by
  obtain ⟨v, h', hr, _, ho⟩ := r61 H G n.hs.length [] .nils [] 0 (by simp) (.inl ⟨rfl, rfl⟩) (Nat.zero_le _)
  simp only [Iso, hr]
  exact ho.view st
end Go.Proofs.Ytekoplcnlhanbaa.S

/-
Whether a list is an order.
-/
namespace Go.Proofs.Ytekoplcnlhanbaa.S
open Go Go.Am Go.Proofs.Ytekoplcnlhanbaa.T
set_option maxRecDepth 100000
set_option linter.unusedSimpArgs false
set_option linter.unusedVariables false

def ordI (n : Net) (l : List Int) (i : Nat) : Bool := inR (l.getD i 0) 0 (n.hs.length - 1) && may n.ps (l.take i) (l.getD i 0)
def ordB (n : Net) (l : List Int) : Bool := decide (l.length = n.hs.length) && (List.range l.length).all (ordI n l)
theorem ordB_iff {n : Net} {l : List Int} : ordB n l = true ↔ isO n l := by
  simp only [ordB, Bool.and_eq_true, decide_eq_true_eq, List.all_eq_true, List.mem_range, ordI, inR_iff, isO, okE]
  constructor
  · rintro ⟨h1, h2⟩
    exact ⟨h1, fun i hi => by have := h2 i hi; exact ⟨this.1.1, by omega, this.2⟩⟩
  · rintro ⟨h1, h2⟩
    exact ⟨h1, fun i hi => by have := h2 i hi; exact ⟨⟨this.1, by omega⟩, this.2.2⟩⟩
theorem s50 {n : Net} {g p : AV} (H : NetOk n g p) {l : List Int} {v : AV} (V : IsSl 1 intL l v) (hl : l.length ≤ 1000) (st : Bool) : Iso E 50 [netV n g p, v] st = some (Bo (ordB n l)) := by
  have sg := H.sg
  have c1 := fun x st => s55 H x st
  simp only [netV] at c1
  refine Iso_of (es _ _ _ _) e50 ?_
  simp only [f50, netV]
  by_cases he : l.length = n.hs.length
  case neg =>
    have he' : ¬ (l.length : Int) = n.hs.length := by omega
    have e : ordB n l = false := by simp [ordB, he]
    rw [e]
    simp (disch := first | assumption | omega | (simp only [az]; done)) only [ru, eq_self, if_true, if_false, BEq.rfl, binI, AO.row?, splice, fillL, mmAll, loadV, storeV, zeros, Am.rowAt, Am.part, addOff, Nat.reduceAdd, Nat.reduceMul, Nat.reduceLeDiff, Nat.reduceSub, Nat.reduceLT, Int.reduceEq, Int.reduceLT, Int.reduceLE, Int.reduceGT, Int.reduceGE, Int.reduceAdd, Int.reduceSub, Int.reduceMul, Int.reduceNeg, Int.reduceToNat, reduceCtorEq, reduceIte, lenV_sl H.g, view_sl H.g, scalar_sl H.g, cells_sl H.g, pure_sl H.g, lenV_sl H.p, view_sl H.p, scalar_sl H.p, cells_sl H.p, pure_sl H.p, lenV_sl V, view_sl V, scalar_sl V, cells_sl V, pure_sl V, he', decide_true, decide_false, Bool.not_false, gUn]
  have he' : (l.length : Int) = n.hs.length := by omega
  simp (disch := first | assumption | omega | (simp only [az]; done)) only [ru, eq_self, if_true, if_false, BEq.rfl, binI, AO.row?, splice, fillL, mmAll, loadV, storeV, zeros, Am.rowAt, Am.part, addOff, Nat.reduceAdd, Nat.reduceMul, Nat.reduceLeDiff, Nat.reduceSub, Nat.reduceLT, Int.reduceEq, Int.reduceLT, Int.reduceLE, Int.reduceGT, Int.reduceGE, Int.reduceAdd, Int.reduceSub, Int.reduceMul, Int.reduceNeg, Int.reduceToNat, reduceCtorEq, reduceIte, lenV_sl H.g, view_sl H.g, scalar_sl H.g, cells_sl H.g, pure_sl H.g, lenV_sl H.p, view_sl H.p, scalar_sl H.p, cells_sl H.p, pure_sl H.p, lenV_sl V, view_sl V, scalar_sl V, cells_sl V, pure_sl V, he', decide_true, Bool.not_true, bne_self_eq_false, gUn]
  refine G_loop_ind (fun m ts h mk => ∃ k : Nat, k ≤ l.length ∧ m = l.length - k ∧ (∀ i, i < k → ordI n l i = true) ∧ ts.length = 37 ∧ ts.getD 1 .undef = v ∧ ts.getD 2 .undef = .ptr 0 0 ∧ ts.getD 5 .undef = I k ∧ h = [.cells [I n.m, g, p] false] ∧ mk = []) ?_ _ _ _ _ ⟨0, Nat.zero_le _, rfl, fun i h => by omega, rfl, rfl, rfl, rfl, rfl, rfl⟩
  rintro m ts h mk ih ⟨k, hk, rfl, hall, hl', q1, q2, q5, rfl, rfl⟩
  rw [lit_all hl']
  simp only [lit0, litS, Nat.reduceAdd, q1, q2, q5]
  simp (disch := first | assumption | omega | (simp only [az]; done)) only [ru, eq_self, if_true, if_false, BEq.rfl, binI, AO.row?, splice, fillL, mmAll, loadV, storeV, zeros, Am.rowAt, Am.part, addOff, Nat.reduceAdd, Nat.reduceMul, Nat.reduceLeDiff, Nat.reduceSub, Nat.reduceLT, Int.reduceEq, Int.reduceLT, Int.reduceLE, Int.reduceGT, Int.reduceGE, Int.reduceAdd, Int.reduceSub, Int.reduceMul, Int.reduceNeg, Int.reduceToNat, reduceCtorEq, reduceIte, lenV_sl V, view_sl V, scalar_sl V, cells_sl V, pure_sl V]
  by_cases hlt : (k : Int) < l.length
  case neg =>
    have e : ordB n l = true := by
      simp only [ordB, he, decide_true, Bool.true_and, List.all_eq_true, List.mem_range]
      exact fun i hi => hall i (by omega)
    simp (disch := first | assumption | omega | (simp only [az]; done)) only [ru, eq_self, if_true, if_false, BEq.rfl, binI, AO.row?, splice, fillL, mmAll, loadV, storeV, zeros, Am.rowAt, Am.part, addOff, Nat.reduceAdd, Nat.reduceMul, Nat.reduceLeDiff, Nat.reduceSub, Nat.reduceLT, Int.reduceEq, Int.reduceLT, Int.reduceLE, Int.reduceGT, Int.reduceGE, Int.reduceAdd, Int.reduceSub, Int.reduceMul, Int.reduceNeg, Int.reduceToNat, reduceCtorEq, reduceIte, hlt, e]
  have hk' : k < l.length := by omega
  obtain ⟨u, hu, U⟩ := slice_in V hk'
  have c2 := fun x st => s79 H U (by rw [List.length_take]; omega) x st
  simp only [netV] at c2
  have no : ordI n l k = false → ordB n l = false := fun h => by
    cases hb : ordB n l
    · rfl
    · simp only [ordB, Bool.and_eq_true, List.all_eq_true, List.mem_range] at hb
      rw [hb.2 k hk'] at h; cases h
  have go : ordI n l k = true → ∀ i, i < k + 1 → ordI n l i = true := fun h i hi => by
    by_cases c : i = k
    · subst c; exact h
    · exact hall i (by omega)
  have ev := elem_in V
  cases h1 : inR (l.getD k 0) 0 (n.hs.length - 1)
  · have e := no (by simp only [ordI, h1, Bool.false_and])
    simp (disch := first | assumption | omega | (simp only [az]; done)) only [ru, eq_self, if_true, if_false, BEq.rfl, binI, AO.row?, splice, fillL, mmAll, loadV, storeV, zeros, Am.rowAt, Am.part, addOff, Nat.reduceAdd, Nat.reduceMul, Nat.reduceLeDiff, Nat.reduceSub, Nat.reduceLT, Int.reduceEq, Int.reduceLT, Int.reduceLE, Int.reduceGT, Int.reduceGE, Int.reduceAdd, Int.reduceSub, Int.reduceMul, Int.reduceNeg, Int.reduceToNat, reduceCtorEq, reduceIte, lenV_sl H.g, view_sl H.g, scalar_sl H.g, cells_sl H.g, pure_sl H.g, lenV_sl H.p, view_sl H.p, scalar_sl H.p, cells_sl H.p, pure_sl H.p, lenV_sl V, view_sl V, scalar_sl V, cells_sl V, pure_sl V, ev, Int.toNat_natCast, hlt, c1, h1, e, gUn, Bool.not_false]
  cases h2 : may n.ps (l.take k) (l.getD k 0)
  · have e := no (by simp only [ordI, h1, h2, Bool.and_false])
    simp (disch := first | assumption | omega | (simp only [az]; done)) only [ru, eq_self, if_true, if_false, BEq.rfl, binI, AO.row?, splice, fillL, mmAll, loadV, storeV, zeros, Am.rowAt, Am.part, addOff, Nat.reduceAdd, Nat.reduceMul, Nat.reduceLeDiff, Nat.reduceSub, Nat.reduceLT, Int.reduceEq, Int.reduceLT, Int.reduceLE, Int.reduceGT, Int.reduceGE, Int.reduceAdd, Int.reduceSub, Int.reduceMul, Int.reduceNeg, Int.reduceToNat, reduceCtorEq, reduceIte, lenV_sl H.g, view_sl H.g, scalar_sl H.g, cells_sl H.g, pure_sl H.g, lenV_sl H.p, view_sl H.p, scalar_sl H.p, cells_sl H.p, pure_sl H.p, lenV_sl V, view_sl V, scalar_sl V, cells_sl V, pure_sl V, ev, Int.toNat_natCast, hlt, c1, h1, hu, lenV_sl U, view_sl U, scalar_sl U, cells_sl U, pure_sl U, c2, h2, e, gUn, Bool.not_false, Bool.not_true]
  · simp (disch := first | assumption | omega | (simp only [az]; done)) only [ru, eq_self, if_true, if_false, BEq.rfl, binI, AO.row?, splice, fillL, mmAll, loadV, storeV, zeros, Am.rowAt, Am.part, addOff, Nat.reduceAdd, Nat.reduceMul, Nat.reduceLeDiff, Nat.reduceSub, Nat.reduceLT, Int.reduceEq, Int.reduceLT, Int.reduceLE, Int.reduceGT, Int.reduceGE, Int.reduceAdd, Int.reduceSub, Int.reduceMul, Int.reduceNeg, Int.reduceToNat, reduceCtorEq, reduceIte, lenV_sl H.g, view_sl H.g, scalar_sl H.g, cells_sl H.g, pure_sl H.g, lenV_sl H.p, view_sl H.p, scalar_sl H.p, cells_sl H.p, pure_sl H.p, lenV_sl V, view_sl V, scalar_sl V, cells_sl V, pure_sl V, ev, Int.toNat_natCast, hlt, c1, h1, hu, lenV_sl U, view_sl U, scalar_sl U, cells_sl U, pure_sl U, c2, h2, gUn, Bool.not_false, Bool.not_true]
    exact ih (l.length - (k + 1)) _ _ _ (by omega) ⟨k + 1, by omega, rfl, go (by simp only [ordI, h1, h2, Bool.and_self]), rfl, rfl, rfl, rfl, rfl, rfl⟩
end Go.Proofs.Ytekoplcnlhanbaa.S

/-
A net in new memory; whether a net is far too great.
-/
namespace Go.Proofs.Ytekoplcnlhanbaa.S
open Go Go.Am Go.Proofs.Ytekoplcnlhanbaa.T
set_option maxRecDepth 100000
set_option linter.unusedSimpArgs false
set_option linter.unusedVariables false

theorem Hl.iv (s : Hl) : ∀ x ∈ s.e, ∃ k i, x = .int k i := by simp [Hl.e]
theorem Pr.iv (s : Pr) : ∀ x ∈ s.e, ∃ k i, x = .int k i := by simp [Pr.e]
/-- a net that lies in new memory -/
structure CpN (n : Net) (h : List AO) (og op : Nat) (gv pv : AV) : Prop where
  ne : og ≠ op
  eg : gv = .ms 4 og 0 n.hs.length
  ep : pv = .ms 2 op 0 n.ps.length
  g : h[og]? = some (.cells (n.hs.flatMap Hl.e) false)
  p : h[op]? = some (.cells (n.ps.flatMap Pr.e) false)
abbrev cpN (n : Net) : AV := netV n (slV 4 Hl.e n.hs) (slV 2 Pr.e n.ps)
theorem CpN.view {n : Net} {h : List AO} {og op : Nat} {gv pv : AV} (H : CpN n h og op gv pv) (st : Bool) {k : Nat} : Am.view st h (k + 2) (netV n gv pv) = some (cpN n) := by
  have h1 : Am.view st h (k + 1) gv = some (slV 4 Hl.e n.hs) := RdC.view (enc := Hl.e) ⟨og, H.eg, H.g⟩ Hl.el Hl.iv
  have h2 : Am.view st h (k + 1) pv = some (slV 2 Pr.e n.ps) := RdC.view (enc := Pr.e) ⟨op, H.ep, H.p⟩ Pr.el Pr.iv
  show ([I n.m, gv, pv].mapM (Am.view st h (k + 1))).map AV.agg = _
  simp only [List.mapM_cons, List.mapM_nil, view_int, h1, h2]
  rfl
set_option maxHeartbeats 2000000 in
theorem r16 {n : Net} {g p : AV} (H : NetOk n g p) : ∃ gv pv J og op, R E (.fn 16) [netV n g p] [] 0 = some (netV n gv pv, J) ∧ CpN n J og op gv pv := by
  have sg := H.sg; have sp := H.sp
  obtain ⟨q, x0, x1, hq, A, hx⟩ := cpyQ (eb := 32) (lim := 0) (h := [.cells [I n.m, g, p] false, .cells [I 0, .nils, .nils] false]) (J := [.tomb, .tomb]) H.g Hl.el Hl.sc (by omega) (by omega) (Nat.zero_le _)
  obtain ⟨q', y0, y1, hq', A', hy⟩ := cpyQ (eb := 16) (lim := 0) (h := [.cells [I n.m, g, p] false, .cells [I 0, .nils, .nils] false, x0, x1]) (J := []) H.p Pr.el Pr.sc (by omega) (by omega) (Nat.zero_le _)
  simp only [List.length_cons, List.length_nil, Nat.zero_add, Nat.reduceAdd, apC, apN] at A A'
  refine (fun x => ?_ : (∃ r h', R E (.fn 16) [netV n g p] [] 0 = some (r, h') ∧ (r = netV n (.ms 4 (2 + q) 0 n.hs.length) (.ms 2 (4 + q') 0 n.ps.length) ∧ CpN n h' (2 + q) (4 + q') (.ms 4 (2 + q) 0 n.hs.length) (.ms 2 (4 + q') 0 n.ps.length))) → _) (R_of _ (es _ _ _ _) e16 ?_)
  · obtain ⟨r, h', hr, rfl, hc⟩ := x; exact ⟨_, _, h', _, _, hr, hc⟩
  simp only [f16, netV]
  simp (disch := first | assumption | omega | (simp only [az]; done)) only [ru, eq_self, if_true, if_false, BEq.rfl, binI, AO.row?, splice, fillL, mmAll, loadV, storeV, zeros, Am.rowAt, Am.part, addOff, Nat.reduceAdd, Nat.reduceMul, Nat.reduceLeDiff, Nat.reduceSub, Nat.reduceLT, Int.reduceEq, Int.reduceLT, Int.reduceLE, Int.reduceGT, Int.reduceGE, Int.reduceAdd, Int.reduceSub, Int.reduceMul, Int.reduceNeg, Int.reduceToNat, reduceCtorEq, reduceIte, lenV_sl H.g, view_sl H.g, scalar_sl H.g, cells_sl H.g, pure_sl H.g, lenV_sl H.p, view_sl H.p, scalar_sl H.p, cells_sl H.p, pure_sl H.p, GO_mapp, unhN, unhC, A, A', finC, getRes, Option.some.injEq, exists_eq_left']
  refine ⟨by omega, rfl, rfl, ?_, ?_⟩
  · match q, hq with
    | 0, _ => simpa using hx
    | 1, _ => simpa using hx
  · match q', hq' with
    | 0, _ => simpa using hy
    | 1, _ => simpa using hy
theorem s16 {n : Net} {g p : AV} (H : NetOk n g p) (st : Bool) : Iso E 16 [netV n g p] st = some (cpN n) := by
  obtain ⟨gv, pv, J, og, op, hr, hc⟩ := r16 H
  simp only [Iso, hr]
  exact hc.view st
def farB (n : Net) (k : Int) : Bool := huge n [] || (decide ((n.hs.length : Int) > k) && decide (n.hs.length ≤ 6))
theorem s28 {n : Net} {g p : AV} (H : NetIn n g p) (k : Int) (st : Bool) : Iso E 28 [netV n g p, I k] st = some (Bo (farB n k)) := by
  have c := fun st => s14 H (.inr ⟨rfl, rfl⟩ : IsSl 1 intL [] .nils) st
  simp only [netV] at c
  refine Iso_of (es _ _ _ _) e28 ?_
  simp only [f28, netV, farB]
  obtain ⟨b, hb⟩ : ∃ b, b = huge n [] := ⟨_, rfl⟩
  rw [← hb] at c ⊢
  cases b
  case true => simp (disch := first | assumption | omega | (simp only [az]; done)) only [ru, eq_self, if_true, if_false, BEq.rfl, binI, AO.row?, splice, fillL, mmAll, loadV, storeV, zeros, Am.rowAt, Am.part, addOff, Nat.reduceAdd, Nat.reduceMul, Nat.reduceLeDiff, Nat.reduceSub, Nat.reduceLT, Int.reduceEq, Int.reduceLT, Int.reduceLE, Int.reduceGT, Int.reduceGE, Int.reduceAdd, Int.reduceSub, Int.reduceMul, Int.reduceNeg, Int.reduceToNat, reduceCtorEq, reduceIte, lenV_sl H.g, view_sl H.g, scalar_sl H.g, cells_sl H.g, pure_sl H.g, lenV_sl H.p, view_sl H.p, scalar_sl H.p, cells_sl H.p, pure_sl H.p, c, gUn, Bool.true_or]
  by_cases h1 : (n.hs.length : Int) > k
  case neg => simp (disch := first | assumption | omega | (simp only [az]; done)) only [ru, eq_self, if_true, if_false, BEq.rfl, binI, AO.row?, splice, fillL, mmAll, loadV, storeV, zeros, Am.rowAt, Am.part, addOff, Nat.reduceAdd, Nat.reduceMul, Nat.reduceLeDiff, Nat.reduceSub, Nat.reduceLT, Int.reduceEq, Int.reduceLT, Int.reduceLE, Int.reduceGT, Int.reduceGE, Int.reduceAdd, Int.reduceSub, Int.reduceMul, Int.reduceNeg, Int.reduceToNat, reduceCtorEq, reduceIte, lenV_sl H.g, view_sl H.g, scalar_sl H.g, cells_sl H.g, pure_sl H.g, lenV_sl H.p, view_sl H.p, scalar_sl H.p, cells_sl H.p, pure_sl H.p, c, h1, gUn, decide_false, Bool.false_and, Bool.or_self]
  by_cases h2 : n.hs.length ≤ 6
  · have h2' : (n.hs.length : Int) ≤ 6 := by omega
    simp (disch := first | assumption | omega | (simp only [az]; done)) only [ru, eq_self, if_true, if_false, BEq.rfl, binI, AO.row?, splice, fillL, mmAll, loadV, storeV, zeros, Am.rowAt, Am.part, addOff, Nat.reduceAdd, Nat.reduceMul, Nat.reduceLeDiff, Nat.reduceSub, Nat.reduceLT, Int.reduceEq, Int.reduceLT, Int.reduceLE, Int.reduceGT, Int.reduceGE, Int.reduceAdd, Int.reduceSub, Int.reduceMul, Int.reduceNeg, Int.reduceToNat, reduceCtorEq, reduceIte, lenV_sl H.g, view_sl H.g, scalar_sl H.g, cells_sl H.g, pure_sl H.g, lenV_sl H.p, view_sl H.p, scalar_sl H.p, cells_sl H.p, pure_sl H.p, c, h1, h2, h2', gUn, decide_true, Bool.and_self, Bool.false_or]
  · have h2' : ¬ (n.hs.length : Int) ≤ 6 := by omega
    simp (disch := first | assumption | omega | (simp only [az]; done)) only [ru, eq_self, if_true, if_false, BEq.rfl, binI, AO.row?, splice, fillL, mmAll, loadV, storeV, zeros, Am.rowAt, Am.part, addOff, Nat.reduceAdd, Nat.reduceMul, Nat.reduceLeDiff, Nat.reduceSub, Nat.reduceLT, Int.reduceEq, Int.reduceLT, Int.reduceLE, Int.reduceGT, Int.reduceGE, Int.reduceAdd, Int.reduceSub, Int.reduceMul, Int.reduceNeg, Int.reduceToNat, reduceCtorEq, reduceIte, lenV_sl H.g, view_sl H.g, scalar_sl H.g, cells_sl H.g, pure_sl H.g, lenV_sl H.p, view_sl H.p, scalar_sl H.p, cells_sl H.p, pure_sl H.p, c, h1, h2, h2', gUn, decide_true, decide_false, Bool.and_false, Bool.or_self]
end Go.Proofs.Ytekoplcnlhanbaa.S

/-
When holes are mended: as the specification reckons it.
-/
namespace Go.Proofs.Ytekoplcnlhanbaa.S
open Go Go.Am Go.Proofs.Ytekoplcnlhanbaa.T
set_option maxRecDepth 100000
set_option linter.unusedSimpArgs false
set_option linter.unusedVariables false

theorem exOp_mk {lim : Nat} {ρ : Opd → AV} {h : List AO} {esz eb : Nat} {zero : List AV} {x y : Opd} :
    exOp (R E) lim none ρ h (.makeSlice false esz eb zero x y) = match ρ x, ρ y with
      | .int _ a, .int _ b => if 0 ≤ a ∧ a ≤ b ∧ eb * b ≤ 140737488355328 ∧ 1 ≤ eb then some (.ms esz h.length 0 a.toNat, h ++ [.cells (zeros a.toNat zero) false]) else none
      | _, _ => none := by
  simp only [exOp]; rfl
theorem zeros_int {k : Nat} : zeros k [I 0] = (List.replicate k (0 : Int)).flatMap intL := by
  unfold zeros
  induction k with
  | zero => rfl
  | succ k ih => rw [List.replicate_succ, List.replicate_succ, List.flatten_cons, List.flatMap_cons, ih]
theorem rep_int {k : Nat} : (List.replicate k [I 0]).flatten = (List.replicate k (0 : Int)).flatMap intL := zeros_int
theorem soo_in {l : List Int} {k m : Nat} (hk : k ≤ m) (hm : 0 < m) : soo l k < m := by
  by_cases c : k = 0
  · subst c; simpa [soo] using hm
  · have := soo_lt (l := l) (k := k) (by omega); omega

/-- what a list of hours needs -/
structure NetG (n : Net) : Prop where
  h : HsOk n.hs
  m1 : 1 ≤ n.m
  m2 : n.m ≤ 3
  p : ∀ q ∈ n.ps, 0 ≤ q.a ∧ q.a < n.hs.length
end Go.Proofs.Ytekoplcnlhanbaa.S

/-
Losses: as the specification reckons them.
-/
namespace Go.Proofs.Ytekoplcnlhanbaa.S
open Go Go.Am Go.Proofs.Ytekoplcnlhanbaa.T
set_option maxRecDepth 100000
set_option linter.unusedSimpArgs false
set_option linter.unusedVariables false

theorem ofN_succ {k : Nat} : ofN (List.range (k + 1)) = ofN (List.range k) ++ [(k : Int)] := by
  unfold ofN; rw [List.range_succ, List.map_append]; rfl
section
variable {n : Net} {g p : AV} {l : List Int} {v : AV}
/-- a term of a loss -/
def lterm (n : Net) (r : Int → Int) (l : List Int) (x : Int) : Int := r x * ((tms n l).getD x.toNat 0 - (n.hs.getD x.toNat default).f)
theorem los_eq {r : Int → Int} : los n r l = sm ((ofN (List.range n.hs.length)).map (lterm n r l)) := rfl
theorem term_bd {r d : Int} (h0 : 0 ≤ r) (h1 : r ≤ 20) (d0 : -20 ≤ d) (d1 : d ≤ 100) : -400 ≤ r * d ∧ r * d ≤ 2000 := by
  have a := Int.mul_le_mul_of_nonneg_left d1 h0
  have b := Int.mul_le_mul_of_nonneg_left d0 h0
  omega
end
end Go.Proofs.Ytekoplcnlhanbaa.S

/-
The truths in which the fewest and the most fish go; the worst loss; when all is done.
-/
namespace Go.Proofs.Ytekoplcnlhanbaa.S
open Go Go.Am Go.Proofs.Ytekoplcnlhanbaa.T
set_option maxRecDepth 100000
set_option linter.unusedSimpArgs false
set_option linter.unusedVariables false

section
variable {n : Net} {g p : AV} {l : List Int} {v : AV}
/-- the greatest loss by an order -/
abbrev worst (n : Net) (l : List Int) : Int := los n (hiR n) l
/-- the hour at which all is done -/
def dneU (n : Net) (l : List Int) : Nat → Int
  | 0 => 0
  | i + 1 => mx (dneU n l i) ((tms n l).getD i 0)
abbrev dne (n : Net) (l : List Int) : Int := dneU n l n.hs.length
end
end Go.Proofs.Ytekoplcnlhanbaa.S

/-
Whether a net is valid: as the specification checks it.
-/
namespace Go.Proofs.Ytekoplcnlhanbaa.S
open Go Go.Am Go.Proofs.Ytekoplcnlhanbaa.T
set_option maxRecDepth 100000
set_option linter.unusedSimpArgs false
set_option linter.unusedVariables false

def holOk (x : Hl) : Bool := inR x.f 0 20 && inR x.hi 0 20 && inR x.lo 0 x.hi && inR x.h 1 9
def parOk (n : Net) (q : Pr) : Bool := inR q.a 0 (n.hs.length - 1) && inR q.b 0 (n.hs.length - 1)
def Net.valid (n : Net) : Bool := inR n.m 1 3 && decide (n.hs.length ≤ 6) && decide (n.ps.length ≤ 8) && n.hs.all holOk && n.ps.all (parOk n) && decide ((ords n).length ≠ 0)
theorem valid_ok {n : Net} (h : n.valid = true) : NetG n ∧ n.ps.length ≤ 8 ∧ (∀ q ∈ n.ps, 0 ≤ q.b ∧ q.b < n.hs.length) ∧ ∃ l, isO n l := by
  simp only [Net.valid, Bool.and_eq_true, decide_eq_true_eq, List.all_eq_true, holOk, parOk, inR_iff] at h
  obtain ⟨⟨⟨⟨⟨h1, h2⟩, h3⟩, h4⟩, h5⟩, h6⟩ := h
  refine ⟨⟨⟨h2, fun x hx => by have := h4 x hx; omega⟩, h1.1, h1.2, fun q hq => by have := h5 q hq; omega⟩, h3, fun q hq => by have := h5 q hq; omega, ?_⟩
  obtain ⟨l, hl⟩ := List.exists_mem_of_length_pos (l := ords n) (by omega)
  exact ⟨l, mem_ords.1 hl⟩
def chk (v : Bool) : Int := if v then 0 else 40
set_option maxHeartbeats 4000000 in
theorem s19 {n : Net} {g p : AV} (H : NetOk n g p) (st : Bool) : Iso E 19 [netV n g p] st = some (I (chk n.valid)) := by
  have sg := H.sg; have sp := H.sp
  have eh := elem_hl H.g
  have ep := elem_pr H.p
  refine Iso_of (es _ _ _ _) e19 ?_
  simp only [f19, netV]
  cases h1 : inR n.m 1 3
  · have e : n.valid = false := by simp only [Net.valid, h1, Bool.false_and]
    simp (disch := first | assumption | omega | (simp only [az]; done)) only [ru, eq_self, if_true, if_false, BEq.rfl, binI, AO.row?, splice, fillL, mmAll, loadV, storeV, zeros, Am.rowAt, Am.part, addOff, Nat.reduceAdd, Nat.reduceMul, Nat.reduceLeDiff, Nat.reduceSub, Nat.reduceLT, Int.reduceEq, Int.reduceLT, Int.reduceLE, Int.reduceGT, Int.reduceGE, Int.reduceAdd, Int.reduceSub, Int.reduceMul, Int.reduceNeg, Int.reduceToNat, reduceCtorEq, reduceIte, lenV_sl H.g, view_sl H.g, scalar_sl H.g, cells_sl H.g, pure_sl H.g, lenV_sl H.p, view_sl H.p, scalar_sl H.p, cells_sl H.p, pure_sl H.p, s60, h1, e, chk, gUn, Bool.not_false]
  by_cases h2 : n.hs.length ≤ 6
  case neg =>
    have h2' : (n.hs.length : Int) > 6 := by omega
    have e : n.valid = false := by simp only [Net.valid, h2, decide_false, Bool.and_false, Bool.false_and]
    simp (disch := first | assumption | omega | (simp only [az]; done)) only [ru, eq_self, if_true, if_false, BEq.rfl, binI, AO.row?, splice, fillL, mmAll, loadV, storeV, zeros, Am.rowAt, Am.part, addOff, Nat.reduceAdd, Nat.reduceMul, Nat.reduceLeDiff, Nat.reduceSub, Nat.reduceLT, Int.reduceEq, Int.reduceLT, Int.reduceLE, Int.reduceGT, Int.reduceGE, Int.reduceAdd, Int.reduceSub, Int.reduceMul, Int.reduceNeg, Int.reduceToNat, reduceCtorEq, reduceIte, lenV_sl H.g, view_sl H.g, scalar_sl H.g, cells_sl H.g, pure_sl H.g, lenV_sl H.p, view_sl H.p, scalar_sl H.p, cells_sl H.p, pure_sl H.p, s60, h1, h2', e, chk, gUn, Bool.not_true, decide_true]
  have h2' : ¬ (n.hs.length : Int) > 6 := by omega
  by_cases h3 : n.ps.length ≤ 8
  case neg =>
    have h3' : (n.ps.length : Int) > 8 := by omega
    have e : n.valid = false := by simp only [Net.valid, h3, decide_false, Bool.and_false, Bool.false_and]
    simp (disch := first | assumption | omega | (simp only [az]; done)) only [ru, eq_self, if_true, if_false, BEq.rfl, binI, AO.row?, splice, fillL, mmAll, loadV, storeV, zeros, Am.rowAt, Am.part, addOff, Nat.reduceAdd, Nat.reduceMul, Nat.reduceLeDiff, Nat.reduceSub, Nat.reduceLT, Int.reduceEq, Int.reduceLT, Int.reduceLE, Int.reduceGT, Int.reduceGE, Int.reduceAdd, Int.reduceSub, Int.reduceMul, Int.reduceNeg, Int.reduceToNat, reduceCtorEq, reduceIte, lenV_sl H.g, view_sl H.g, scalar_sl H.g, cells_sl H.g, pure_sl H.g, lenV_sl H.p, view_sl H.p, scalar_sl H.p, cells_sl H.p, pure_sl H.p, s60, h1, h2', h3', e, chk, gUn, Bool.not_true, decide_true, decide_false]
  have h3' : ¬ (n.ps.length : Int) > 8 := by omega
  have no4 : ∀ i, i < n.hs.length → holOk (n.hs.getD i default) = false → n.valid = false := fun i hi h => by
    have := all_not (p := holOk) hi rfl h
    simp only [Net.valid, this, Bool.and_false, Bool.false_and]
  have no5 : ∀ i, i < n.ps.length → parOk n (n.ps.getD i default) = false → n.valid = false := fun i hi h => by
    have := all_not (p := parOk n) hi rfl h
    simp only [Net.valid, this, Bool.and_false, Bool.false_and]
  simp (disch := first | assumption | omega | (simp only [az]; done)) only [ru, eq_self, if_true, if_false, BEq.rfl, binI, AO.row?, splice, fillL, mmAll, loadV, storeV, zeros, Am.rowAt, Am.part, addOff, Nat.reduceAdd, Nat.reduceMul, Nat.reduceLeDiff, Nat.reduceSub, Nat.reduceLT, Int.reduceEq, Int.reduceLT, Int.reduceLE, Int.reduceGT, Int.reduceGE, Int.reduceAdd, Int.reduceSub, Int.reduceMul, Int.reduceNeg, Int.reduceToNat, reduceCtorEq, reduceIte, lenV_sl H.g, view_sl H.g, scalar_sl H.g, cells_sl H.g, pure_sl H.g, lenV_sl H.p, view_sl H.p, scalar_sl H.p, cells_sl H.p, pure_sl H.p, s60, h1, h2', h3', gUn, Bool.not_true, decide_false]
  refine G_loop_ind (fun m ts h mk => ∃ i : Nat, i ≤ n.hs.length ∧ m = n.hs.length - i ∧ (∀ x ∈ n.hs.take i, holOk x = true) ∧ ts.length = 92 ∧ ts.getD 1 .undef = .ptr 0 0 ∧ ts.getD 3 .undef = I i ∧ h[0]? = some (.cells [I n.m, g, p] false) ∧ mk = []) ?_ _ _ _ _ ⟨0, Nat.zero_le _, rfl, fun x hx => by simp at hx, rfl, rfl, rfl, rfl, rfl⟩
  rintro m ts h mk ih ⟨i, hi, rfl, hall, hl', q1, q3, k0, rfl⟩
  rw [lit_all hl']
  have n0 := (List.getElem?_eq_some_iff.1 k0).1
  simp only [lit0, litS, Nat.reduceAdd, q1, q3]
  simp (disch := first | assumption | omega | (simp only [az]; done)) only [ru, eq_self, if_true, if_false, BEq.rfl, binI, AO.row?, splice, fillL, mmAll, loadV, storeV, zeros, Am.rowAt, Am.part, addOff, Nat.reduceAdd, Nat.reduceMul, Nat.reduceLeDiff, Nat.reduceSub, Nat.reduceLT, Int.reduceEq, Int.reduceLT, Int.reduceLE, Int.reduceGT, Int.reduceGE, Int.reduceAdd, Int.reduceSub, Int.reduceMul, Int.reduceNeg, Int.reduceToNat, reduceCtorEq, reduceIte, lenV_sl H.g, view_sl H.g, scalar_sl H.g, cells_sl H.g, pure_sl H.g, lenV_sl H.p, view_sl H.p, scalar_sl H.p, cells_sl H.p, pure_sl H.p, k0]
  by_cases hlt : (i : Int) < n.hs.length
  case pos =>
    have hi' : i < n.hs.length := by omega
    have no := no4 i hi'
    obtain ⟨x, hx⟩ : ∃ x, x = n.hs.getD i default := ⟨_, rfl⟩
    rw [← hx] at no
    have go : holOk x = true → ∀ y ∈ n.hs.take (i + 1), holOk y = true := fun hk y hy => by
      rw [take_snoc (d := default) hi'] at hy
      rcases List.mem_append.1 hy with h | h
      · exact hall y h
      · simp only [List.mem_singleton] at h; rw [h, ← hx]; exact hk
    cases a1 : inR x.f 0 20
    · have e := no (by simp only [holOk, a1, Bool.false_and])
      simp (disch := first | assumption | omega | (simp only [az]; done)) only [ru, eq_self, if_true, if_false, BEq.rfl, binI, AO.row?, splice, fillL, mmAll, loadV, storeV, zeros, Am.rowAt, Am.part, addOff, Nat.reduceAdd, Nat.reduceMul, Nat.reduceLeDiff, Nat.reduceSub, Nat.reduceLT, Int.reduceEq, Int.reduceLT, Int.reduceLE, Int.reduceGT, Int.reduceGE, Int.reduceAdd, Int.reduceSub, Int.reduceMul, Int.reduceNeg, Int.reduceToNat, reduceCtorEq, reduceIte, lenV_sl H.g, view_sl H.g, scalar_sl H.g, cells_sl H.g, pure_sl H.g, lenV_sl H.p, view_sl H.p, scalar_sl H.p, cells_sl H.p, pure_sl H.p, k0, at_ap, n0, atE, setE, eh, Int.toNat_natCast, hlt, ← hx, s60, a1, e, chk, gUn, Bool.not_false]
    cases a2 : inR x.hi 0 20
    · have e := no (by simp only [holOk, a2, Bool.false_and, Bool.and_false])
      simp (disch := first | assumption | omega | (simp only [az]; done)) only [ru, eq_self, if_true, if_false, BEq.rfl, binI, AO.row?, splice, fillL, mmAll, loadV, storeV, zeros, Am.rowAt, Am.part, addOff, Nat.reduceAdd, Nat.reduceMul, Nat.reduceLeDiff, Nat.reduceSub, Nat.reduceLT, Int.reduceEq, Int.reduceLT, Int.reduceLE, Int.reduceGT, Int.reduceGE, Int.reduceAdd, Int.reduceSub, Int.reduceMul, Int.reduceNeg, Int.reduceToNat, reduceCtorEq, reduceIte, lenV_sl H.g, view_sl H.g, scalar_sl H.g, cells_sl H.g, pure_sl H.g, lenV_sl H.p, view_sl H.p, scalar_sl H.p, cells_sl H.p, pure_sl H.p, k0, at_ap, n0, atE, setE, eh, Int.toNat_natCast, hlt, ← hx, s60, a1, a2, e, chk, gUn, Bool.not_false, Bool.not_true]
    cases a3 : inR x.lo 0 x.hi
    · have e := no (by simp only [holOk, a3, Bool.false_and, Bool.and_false])
      simp (disch := first | assumption | omega | (simp only [az]; done)) only [ru, eq_self, if_true, if_false, BEq.rfl, binI, AO.row?, splice, fillL, mmAll, loadV, storeV, zeros, Am.rowAt, Am.part, addOff, Nat.reduceAdd, Nat.reduceMul, Nat.reduceLeDiff, Nat.reduceSub, Nat.reduceLT, Int.reduceEq, Int.reduceLT, Int.reduceLE, Int.reduceGT, Int.reduceGE, Int.reduceAdd, Int.reduceSub, Int.reduceMul, Int.reduceNeg, Int.reduceToNat, reduceCtorEq, reduceIte, lenV_sl H.g, view_sl H.g, scalar_sl H.g, cells_sl H.g, pure_sl H.g, lenV_sl H.p, view_sl H.p, scalar_sl H.p, cells_sl H.p, pure_sl H.p, k0, at_ap, n0, atE, setE, eh, Int.toNat_natCast, hlt, ← hx, s60, a1, a2, a3, e, chk, gUn, Bool.not_false, Bool.not_true]
    cases a4 : inR x.h 1 9
    · have e := no (by simp only [holOk, a4, Bool.false_and, Bool.and_false])
      simp (disch := first | assumption | omega | (simp only [az]; done)) only [ru, eq_self, if_true, if_false, BEq.rfl, binI, AO.row?, splice, fillL, mmAll, loadV, storeV, zeros, Am.rowAt, Am.part, addOff, Nat.reduceAdd, Nat.reduceMul, Nat.reduceLeDiff, Nat.reduceSub, Nat.reduceLT, Int.reduceEq, Int.reduceLT, Int.reduceLE, Int.reduceGT, Int.reduceGE, Int.reduceAdd, Int.reduceSub, Int.reduceMul, Int.reduceNeg, Int.reduceToNat, reduceCtorEq, reduceIte, lenV_sl H.g, view_sl H.g, scalar_sl H.g, cells_sl H.g, pure_sl H.g, lenV_sl H.p, view_sl H.p, scalar_sl H.p, cells_sl H.p, pure_sl H.p, k0, at_ap, n0, atE, setE, eh, Int.toNat_natCast, hlt, ← hx, s60, a1, a2, a3, a4, e, chk, gUn, Bool.not_false, Bool.not_true]
    simp (disch := first | assumption | omega | (simp only [az]; done)) only [ru, eq_self, if_true, if_false, BEq.rfl, binI, AO.row?, splice, fillL, mmAll, loadV, storeV, zeros, Am.rowAt, Am.part, addOff, Nat.reduceAdd, Nat.reduceMul, Nat.reduceLeDiff, Nat.reduceSub, Nat.reduceLT, Int.reduceEq, Int.reduceLT, Int.reduceLE, Int.reduceGT, Int.reduceGE, Int.reduceAdd, Int.reduceSub, Int.reduceMul, Int.reduceNeg, Int.reduceToNat, reduceCtorEq, reduceIte, lenV_sl H.g, view_sl H.g, scalar_sl H.g, cells_sl H.g, pure_sl H.g, lenV_sl H.p, view_sl H.p, scalar_sl H.p, cells_sl H.p, pure_sl H.p, k0, at_ap, n0, atE, setE, eh, Int.toNat_natCast, hlt, ← hx, s60, a1, a2, a3, a4, gUn, Bool.not_false, Bool.not_true]
    exact ih (n.hs.length - (i + 1)) _ _ _ (by omega) ⟨i + 1, by omega, rfl, go (by simp only [holOk, a1, a2, a3, a4, Bool.and_self]), rfl, rfl, rfl, by rw [at_ap n0]; exact k0, rfl⟩
  have h4 : n.hs.all holOk = true := by
    rw [List.all_eq_true]
    intro x hx
    exact hall x (by rw [List.take_of_length_le (by omega)]; exact hx)
  simp (disch := first | assumption | omega | (simp only [az]; done)) only [ru, eq_self, if_true, if_false, BEq.rfl, binI, AO.row?, splice, fillL, mmAll, loadV, storeV, zeros, Am.rowAt, Am.part, addOff, Nat.reduceAdd, Nat.reduceMul, Nat.reduceLeDiff, Nat.reduceSub, Nat.reduceLT, Int.reduceEq, Int.reduceLT, Int.reduceLE, Int.reduceGT, Int.reduceGE, Int.reduceAdd, Int.reduceSub, Int.reduceMul, Int.reduceNeg, Int.reduceToNat, reduceCtorEq, reduceIte, hlt]
  clear ih hl' q1 q3 hlt hall hi
  refine G_loop_ind (fun m ts hh mk => ∃ i : Nat, i ≤ n.ps.length ∧ m = n.ps.length - i ∧ (∀ x ∈ n.ps.take i, parOk n x = true) ∧ ts.length = 92 ∧ ts.getD 1 .undef = .ptr 0 0 ∧ ts.getD 5 .undef = I i ∧ hh = h ∧ mk = []) ?_ _ _ _ _ ⟨0, Nat.zero_le _, rfl, fun x hx => by simp at hx, rfl, rfl, rfl, rfl, rfl⟩
  rintro m ts hh mk ih ⟨i, hi, rfl, hall, hl', q1, q5, rfl, rfl⟩
  rw [lit_all hl']
  simp only [lit0, litS, Nat.reduceAdd, q1, q5]
  simp (disch := first | assumption | omega | (simp only [az]; done)) only [ru, eq_self, if_true, if_false, BEq.rfl, binI, AO.row?, splice, fillL, mmAll, loadV, storeV, zeros, Am.rowAt, Am.part, addOff, Nat.reduceAdd, Nat.reduceMul, Nat.reduceLeDiff, Nat.reduceSub, Nat.reduceLT, Int.reduceEq, Int.reduceLT, Int.reduceLE, Int.reduceGT, Int.reduceGE, Int.reduceAdd, Int.reduceSub, Int.reduceMul, Int.reduceNeg, Int.reduceToNat, reduceCtorEq, reduceIte, lenV_sl H.g, view_sl H.g, scalar_sl H.g, cells_sl H.g, pure_sl H.g, lenV_sl H.p, view_sl H.p, scalar_sl H.p, cells_sl H.p, pure_sl H.p, k0]
  have c55 := fun x st => s55 H x st
  simp only [netV] at c55
  by_cases hlt : (i : Int) < n.ps.length
  case pos =>
    have hi' : i < n.ps.length := by omega
    have no := no5 i hi'
    obtain ⟨x, hx⟩ : ∃ x, x = n.ps.getD i default := ⟨_, rfl⟩
    rw [← hx] at no
    have go : parOk n x = true → ∀ y ∈ n.ps.take (i + 1), parOk n y = true := fun hk y hy => by
      rw [take_snoc (d := default) hi'] at hy
      rcases List.mem_append.1 hy with h | h
      · exact hall y h
      · simp only [List.mem_singleton] at h; rw [h, ← hx]; exact hk
    cases a1 : inR x.a 0 (n.hs.length - 1)
    · have e := no (by simp only [parOk, a1, Bool.false_and])
      simp (disch := first | assumption | omega | (simp only [az]; done)) only [ru, eq_self, if_true, if_false, BEq.rfl, binI, AO.row?, splice, fillL, mmAll, loadV, storeV, zeros, Am.rowAt, Am.part, addOff, Nat.reduceAdd, Nat.reduceMul, Nat.reduceLeDiff, Nat.reduceSub, Nat.reduceLT, Int.reduceEq, Int.reduceLT, Int.reduceLE, Int.reduceGT, Int.reduceGE, Int.reduceAdd, Int.reduceSub, Int.reduceMul, Int.reduceNeg, Int.reduceToNat, reduceCtorEq, reduceIte, lenV_sl H.g, view_sl H.g, scalar_sl H.g, cells_sl H.g, pure_sl H.g, lenV_sl H.p, view_sl H.p, scalar_sl H.p, cells_sl H.p, pure_sl H.p, k0, ep, Int.toNat_natCast, hlt, ← hx, c55, a1, e, chk, gUn, Bool.not_false]
    cases a2 : inR x.b 0 (n.hs.length - 1)
    · have e := no (by simp only [parOk, a2, Bool.and_false])
      simp (disch := first | assumption | omega | (simp only [az]; done)) only [ru, eq_self, if_true, if_false, BEq.rfl, binI, AO.row?, splice, fillL, mmAll, loadV, storeV, zeros, Am.rowAt, Am.part, addOff, Nat.reduceAdd, Nat.reduceMul, Nat.reduceLeDiff, Nat.reduceSub, Nat.reduceLT, Int.reduceEq, Int.reduceLT, Int.reduceLE, Int.reduceGT, Int.reduceGE, Int.reduceAdd, Int.reduceSub, Int.reduceMul, Int.reduceNeg, Int.reduceToNat, reduceCtorEq, reduceIte, lenV_sl H.g, view_sl H.g, scalar_sl H.g, cells_sl H.g, pure_sl H.g, lenV_sl H.p, view_sl H.p, scalar_sl H.p, cells_sl H.p, pure_sl H.p, k0, ep, Int.toNat_natCast, hlt, ← hx, c55, a1, a2, e, chk, gUn, Bool.not_false, Bool.not_true]
    simp (disch := first | assumption | omega | (simp only [az]; done)) only [ru, eq_self, if_true, if_false, BEq.rfl, binI, AO.row?, splice, fillL, mmAll, loadV, storeV, zeros, Am.rowAt, Am.part, addOff, Nat.reduceAdd, Nat.reduceMul, Nat.reduceLeDiff, Nat.reduceSub, Nat.reduceLT, Int.reduceEq, Int.reduceLT, Int.reduceLE, Int.reduceGT, Int.reduceGE, Int.reduceAdd, Int.reduceSub, Int.reduceMul, Int.reduceNeg, Int.reduceToNat, reduceCtorEq, reduceIte, lenV_sl H.g, view_sl H.g, scalar_sl H.g, cells_sl H.g, pure_sl H.g, lenV_sl H.p, view_sl H.p, scalar_sl H.p, cells_sl H.p, pure_sl H.p, k0, ep, Int.toNat_natCast, hlt, ← hx, c55, a1, a2, gUn, Bool.not_false, Bool.not_true]
    exact ih (n.ps.length - (i + 1)) _ _ _ (by omega) ⟨i + 1, by omega, rfl, go (by simp only [parOk, a1, a2, Bool.and_self]), rfl, rfl, rfl, rfl, rfl⟩
  have h5 : n.ps.all (parOk n) = true := by
    rw [List.all_eq_true]
    intro x hx
    exact hall x (by rw [List.take_of_length_le (by omega)]; exact hx)
  have c61 := fun st => s61 H h2 st
  have OV := resLL_is (ords n)
  obtain ⟨ov, hov⟩ : ∃ ov, ov = resLL (ords n) := ⟨_, rfl⟩
  rw [← hov] at OV
  simp only [netV, ← hov] at c61
  by_cases h6 : (ords n).length = 0
  · have h6' : ((ords n).length : Int) = 0 := by omega
    have e : n.valid = false := by simp only [Net.valid, h6, ne_eq, not_true_eq_false, decide_false, Bool.and_false]
    simp (disch := first | assumption | omega | (simp only [az]; done)) only [ru, eq_self, if_true, if_false, BEq.rfl, binI, AO.row?, splice, fillL, mmAll, loadV, storeV, zeros, Am.rowAt, Am.part, addOff, Nat.reduceAdd, Nat.reduceMul, Nat.reduceLeDiff, Nat.reduceSub, Nat.reduceLT, Int.reduceEq, Int.reduceLT, Int.reduceLE, Int.reduceGT, Int.reduceGE, Int.reduceAdd, Int.reduceSub, Int.reduceMul, Int.reduceNeg, Int.reduceToNat, reduceCtorEq, reduceIte, lenV_sl H.g, view_sl H.g, scalar_sl H.g, cells_sl H.g, pure_sl H.g, lenV_sl H.p, view_sl H.p, scalar_sl H.p, cells_sl H.p, pure_sl H.p, k0, hlt, c61, lenV_sl OV, view_sl OV, scalar_sl OV, cells_sl OV, pure_sl OV, h6', e, chk, decide_true]
  · have h6' : ¬ ((ords n).length : Int) = 0 := by omega
    have e : n.valid = true := by simp only [Net.valid, h1, h2, h3, h4, h5, h6, ne_eq, not_false_eq_true, decide_true, Bool.and_self]
    simp (disch := first | assumption | omega | (simp only [az]; done)) only [ru, eq_self, if_true, if_false, BEq.rfl, binI, AO.row?, splice, fillL, mmAll, loadV, storeV, zeros, Am.rowAt, Am.part, addOff, Nat.reduceAdd, Nat.reduceMul, Nat.reduceLeDiff, Nat.reduceSub, Nat.reduceLT, Int.reduceEq, Int.reduceLT, Int.reduceLE, Int.reduceGT, Int.reduceGE, Int.reduceAdd, Int.reduceSub, Int.reduceMul, Int.reduceNeg, Int.reduceToNat, reduceCtorEq, reduceIte, lenV_sl H.g, view_sl H.g, scalar_sl H.g, cells_sl H.g, pure_sl H.g, lenV_sl H.p, view_sl H.p, scalar_sl H.p, cells_sl H.p, pure_sl H.p, k0, hlt, c61, lenV_sl OV, view_sl OV, scalar_sl OV, cells_sl OV, pure_sl OV, h6', e, chk, decide_false]
end Go.Proofs.Ytekoplcnlhanbaa.S

/-
Good, Times and Lost: as the specification has them.
-/
namespace Go.Proofs.Ytekoplcnlhanbaa.S
open Go Go.Am Go.Proofs.Ytekoplcnlhanbaa.T
set_option maxRecDepth 100000
set_option linter.unusedSimpArgs false
set_option linter.unusedVariables false

def gooR (n : Net) (l : List Int) : AV := if n.valid then .tup [Bo (ordB n l), I 0] else .tup [Bo false, I 40]
section
variable {n : Net} {g p : AV} {l : List Int} {v : AV}
end
end Go.Proofs.Ytekoplcnlhanbaa.S

/-
The least of some numbers, and the first list that has it; rounds that keep them.
-/
namespace Go.Proofs.Ytekoplcnlhanbaa.S
open Go Go.Am Go.Proofs.Ytekoplcnlhanbaa.T
set_option maxRecDepth 100000
set_option linter.unusedSimpArgs false
set_option linter.unusedVariables false

section
variable {α : Type} {f : α → Int}
/-- the least number of a list, with the first that has it -/
def sel (f : α → Int) (b : Option (Int × α)) (c : α) : Option (Int × α) :=
  match b with
  | none => some (f c, c)
  | some x => if f c < x.1 then some (f c, c) else some x
def lst (f : α → Int) (L : List α) : Option (Int × α) := L.foldl (sel f) none
theorem lst_snoc {L : List α} {c : α} : lst f (L ++ [c]) = sel f (lst f L) c := by simp [lst, List.foldl_append]
theorem lst_spec (L : List α) : (L = [] ∧ lst f L = none) ∨ ∃ x i, lst f L = some (f x, x) ∧ i < L.length ∧ L[i]? = some x ∧ (∀ c ∈ L, f x ≤ f c) ∧ ∀ j c, j < i → L[j]? = some c → f x < f c := by
  refine snocRec (fun L => (L = [] ∧ lst f L = none) ∨ ∃ x i, lst f L = some (f x, x) ∧ i < L.length ∧ L[i]? = some x ∧ (∀ c ∈ L, f x ≤ f c) ∧ ∀ j c, j < i → L[j]? = some c → f x < f c) L (.inl ⟨rfl, rfl⟩) fun L c ih => .inr ?_
  rcases ih with ⟨rfl, ih⟩ | ⟨x, i, h1, h2, h3, h4, h5⟩
  · refine ⟨c, 0, rfl, by simp, rfl, fun d hd => ?_, fun j d hj _ => absurd hj (Nat.not_lt_zero _)⟩
    simp only [List.nil_append, List.mem_singleton] at hd
    rw [hd]; exact Int.le_refl _
  · rw [lst_snoc, h1]
    by_cases hc : f c < f x
    · refine ⟨c, L.length, by simp only [sel, hc, if_true], by simp, by simp, fun d hd => ?_, fun j d hj hd => ?_⟩
      · rcases List.mem_append.1 hd with h | h
        · have := h4 d h; omega
        · simp only [List.mem_singleton] at h; rw [h]; exact Int.le_refl _
      · rw [List.getElem?_append_left hj] at hd
        have := h4 d (List.mem_of_getElem? hd); omega
    · refine ⟨x, i, by simp only [sel, hc, if_false], by simp; omega, by rw [List.getElem?_append_left h2]; exact h3, fun d hd => ?_, fun j d hj hd => ?_⟩
      · rcases List.mem_append.1 hd with h | h
        · exact h4 d h
        · simp only [List.mem_singleton] at h; rw [h]; omega
      · rw [List.getElem?_append_left (by omega)] at hd; exact h5 j d hj hd
theorem lst_some {L : List α} (h : L ≠ []) : ∃ x i, lst f L = some (f x, x) ∧ i < L.length ∧ L[i]? = some x ∧ (∀ c ∈ L, f x ≤ f c) ∧ ∀ j c, j < i → L[j]? = some c → f x < f c := by
  rcases lst_spec (f := f) L with ⟨e, _⟩ | h'
  · exact absurd e h
  · exact h'
def lstN (f : α → Int) (L : List α) : Int := match lst f L with | none => 0 | some x => x.1
def lstW [Inhabited α] (f : α → Int) (L : List α) : α := match lst f L with | none => default | some x => x.2
theorem lst_eq [Inhabited α] {L : List α} (h : L ≠ []) : lst f L = some (lstN f L, lstW f L) := by
  obtain ⟨x, _, e, _⟩ := lst_some (f := f) h
  simp only [lstN, lstW, e]
theorem lst_ok [Inhabited α] {L : List α} (h : L ≠ []) : lstW f L ∈ L ∧ f (lstW f L) = lstN f L ∧ ∀ c ∈ L, lstN f L ≤ f c := by
  obtain ⟨x, i, e, h1, h2, h3, _⟩ := lst_some (f := f) h
  have e1 : lstN f L = f x := by simp only [lstN, e]
  have e2 : lstW f L = x := by simp only [lstW, e]
  rw [e1, e2]
  exact ⟨List.mem_of_getElem? h2, rfl, h3⟩
theorem lstN_le {L : List α} {c : α} (h : c ∈ L) : lstN f L ≤ f c := by
  obtain ⟨x, i, e, h1, h2, h3, _⟩ := lst_some (f := f) (List.ne_nil_of_mem h)
  simp only [lstN, e]; exact h3 c h
theorem le_lstN {L : List α} (h : L ≠ []) {x : Int} (hx : ∀ c ∈ L, x ≤ f c) : x ≤ lstN f L := by
  obtain ⟨y, i, e, h1, h2, h3, _⟩ := lst_some (f := f) h
  simp only [lstN, e]; exact hx y (List.mem_of_getElem? h2)
end
end Go.Proofs.Ytekoplcnlhanbaa.S

/-
What the laws say of nets, as mathematics: bounds, and what changes if a net changes.
-/
namespace Go.Proofs.Ytekoplcnlhanbaa.S
open Go Go.Am Go.Proofs.Ytekoplcnlhanbaa.T
set_option maxRecDepth 100000
set_option linter.unusedSimpArgs false
set_option linter.unusedVariables false

theorem sm_bd {f : Int → Int} {b : Int} : ∀ {l : List Int}, (∀ x ∈ l, 0 ≤ f x ∧ f x ≤ b) → 0 ≤ sm (l.map f) ∧ sm (l.map f) ≤ b * l.length
  | [], _ => by simp [sm]
  | a :: l, h => by
    have h1 := h a (by simp)
    have h2 := sm_bd (l := l) fun x hx => h x (by simp [hx])
    rw [List.map_cons, sm_cons, List.length_cons, Int.natCast_add, Int.mul_add]
    simp only [Int.natCast_one, Int.mul_one]
    omega
section
variable {n n' : Net} {l l' : List Int}
theorem ord_pos (G : NetG n) (O : isO n l) {x : Int} (x0 : 0 ≤ x) (x1 : x < n.hs.length) : 0 ≤ (tms n l).getD x.toNat 0 - (n.hs.getD x.toNat default).f ∧ (tms n l).getD x.toNat 0 ≤ 74 := by
  have a := tms_ge O.2 x ((ord_perm O).mem_iff.2 (mem_rng.2 ⟨x0, x1⟩))
  have b := G.h.at x
  have c := (tms_le G.h (l := l)).1 x.toNat
  have d := O.1
  have e := G.h.le
  exact ⟨by omega, by show (tms2 n l).1.getD _ _ ≤ _; omega⟩
theorem worst_bd (G : NetG n) (O : isO n l) : 0 ≤ worst n l ∧ worst n l ≤ 12000 := by
  have h := sm_bd (f := lterm n (hiR n) l) (b := 2000) (l := ofN (List.range n.hs.length)) fun x hx => by
    obtain ⟨x0, x1⟩ := mem_rng.1 hx
    obtain ⟨a, b⟩ := ord_pos G O x0 x1
    have c := G.h.at x
    have d := (term_bd (r := hiR n x) (d := (tms n l).getD x.toNat 0 - (n.hs.getD x.toNat default).f) (by unfold hiR; omega) (by unfold hiR; omega) (by omega) (by omega)).2
    exact ⟨Int.mul_nonneg (by unfold hiR; omega) a, d⟩
  rw [rng_len] at h
  have := G.h.le
  show 0 ≤ sm _ ∧ sm _ ≤ _
  exact ⟨h.1, by have := h.2; exact Int.le_trans this (by omega)⟩
theorem dneU_le {x : Int} : ∀ {k : Nat}, dneU n l k ≤ x ↔ 0 ≤ x ∧ ∀ i, i < k → (tms n l).getD i 0 ≤ x
  | 0 => by simp [dneU]
  | k + 1 => by
    rw [dneU]
    constructor
    · intro h
      have h1 := Int.le_trans le_mx1 h
      have h2 := Int.le_trans le_mx2 h
      obtain ⟨a, b⟩ := dneU_le.1 h1
      refine ⟨a, fun i hi => ?_⟩
      by_cases c : i = k
      · subst c; exact h2
      · exact b i (by omega)
    · rintro ⟨a, b⟩
      exact mx_le (dneU_le.2 ⟨a, fun i hi => b i (by omega)⟩) (b k (by omega))
theorem dne_at : 0 ≤ dne n l ∧ ∀ i, i < n.hs.length → (tms n l).getD i 0 ≤ dne n l := dneU_le.1 (Int.le_refl _)
theorem dne_bd (G : NetG n) (hl : l.length ≤ 6) : 0 ≤ dne n l ∧ dne n l ≤ 74 := by
  refine ⟨dne_at.1, dneU_le.2 ⟨by omega, fun i _ => ?_⟩⟩
  have := (tms_le G.h (l := l)).1 i
  show (tms2 n l).1.getD _ _ ≤ _
  omega
/-- the least loss of a best order, the first best order, the hour by which all can be done -/
abbrev lea (n : Net) : Int := lstN (worst n) (ords n)
abbrev fir (n : Net) : List Int := lstW (worst n) (ords n)
abbrev don (n : Net) : Int := lstN (dne n) (ords n)
theorem ords_ne {l : List Int} (O : isO n l) : ords n ≠ [] := List.ne_nil_of_mem (mem_ords.2 O)
theorem lea_bd (G : NetG n) (O : isO n l) : 0 ≤ lea n ∧ lea n ≤ 12000 := by
  obtain ⟨h1, h2, _⟩ := lst_ok (f := worst n) (ords_ne O)
  have := worst_bd G (mem_ords.1 h1)
  unfold lea; omega
theorem don_bd (G : NetG n) (O : isO n l) : 0 ≤ don n ∧ don n ≤ 74 := by
  obtain ⟨h1, h2, _⟩ := lst_ok (f := dne n) (ords_ne O)
  have O' := mem_ords.1 h1
  have := dne_bd G (l := lstW (dne n) (ords n)) (by have := O'.1; have := G.h.le; omega)
  unfold don; omega
theorem lea_le (O : isO n l) : lea n ≤ worst n l := lstN_le (mem_ords.2 O)
theorem don_le (O : isO n l) : don n ≤ dne n l := lstN_le (mem_ords.2 O)
theorem hh1 (G : NetG n) : ∀ x : Int, 0 ≤ x → x < n.hs.length → 1 ≤ hR n x := fun x x0 x1 => by
  have := G.h.h (n.hs.getD x.toNat default) (getD_mem (by omega))
  unfold hR; omega
/-- with less to do no more is lost -/
theorem less_of {f : Int → Int} (E : Easier n n' f) (hr : ∀ x : Int, 0 ≤ x → x < n.hs.length → 0 ≤ (n.hs.getD x.toNat default).h ∧ 0 ≤ hiR n x)
    (hf : ∀ j : Int, 0 ≤ j → j < n'.hs.length → (n'.hs.getD j.toNat default).f = (n.hs.getD (f j).toNat default).f ∧ 0 ≤ hiR n' j ∧ hiR n' j ≤ hiR n (f j))
    (hP : ∀ l, isO n l → ∃ l', isO n' l' ∧ Part n n' f l l') (O : isO n l) : lea n' ≤ lea n ∧ don n' ≤ don n := by
  constructor
  · refine le_lstN (ords_ne O) fun c hc => ?_
    obtain ⟨c', O', P⟩ := hP c (mem_ords.1 hc)
    exact Int.le_trans (lea_le O') (los_le E P (mem_ords.1 hc) hr hf O')
  · refine le_lstN (ords_ne O) fun c hc => ?_
    obtain ⟨c', O', P⟩ := hP c (mem_ords.1 hc)
    refine Int.le_trans (don_le O') (dneU_le.2 ⟨dne_at.1, fun i hi => ?_⟩)
    have h1 := (easier E P).2 i (by omega) (by omega)
    have h2 := E.r i (by omega) (by omega)
    have h3 := (dne_at (n := n) (l := c)).2 (f i).toNat (by omega)
    rw [Int.toNat_natCast] at h1
    exact Int.le_trans h1 h3
theorem hr_of (G : NetG n) : ∀ x : Int, 0 ≤ x → x < n.hs.length → 0 ≤ (n.hs.getD x.toNat default).h ∧ 0 ≤ hiR n x := fun x _ _ => by
  have := G.h.at x
  unfold hiR; omega
/-- the same holes, no more ropes, no fewer menders -/
theorem less_same (G : NetG n) (hm : n.m ≤ n'.m) (hh : n'.hs = n.hs) (hp : ∀ p ∈ n'.ps, p ∈ n.ps) (O : isO n l) : lea n' ≤ lea n ∧ don n' ≤ don n := by
  have e : n'.hs.length = n.hs.length := by rw [hh]
  refine less_of (f := id) (easier_same (by have := G.m1; omega) hm e (fun j _ _ => ?_) fun p h => ?_) (hr_of G) (fun j j0 j1 => ?_) (fun l O => ⟨l, ⟨by rw [e]; exact O.1, ?_⟩, part_same e O.2⟩) O
  · rw [hh]
    have := G.h.at j
    exact ⟨Int.le_refl _, by omega, Int.le_refl _⟩
  · exact ⟨hp p h, G.p p (hp p h)⟩
  · have h1 := (hr_of G j j0 (by rw [← e]; exact j1)).2
    have : hiR n' j = hiR n j := by unfold hiR; rw [hh]
    rw [this, hh]
    exact ⟨rfl, h1, Int.le_refl _⟩
  · rw [e]; exact okE_mono (fun F i h => may_sub hp h) O.2
/-- other rates: the same orders, at the same hours -/
structure Rates (n n' : Net) : Prop where
  m : n'.m = n.m
  p : n'.ps = n.ps
  l : n'.hs.length = n.hs.length
  h : ∀ i, (n'.hs.getD i default).f = (n.hs.getD i default).f ∧ (n'.hs.getD i default).h = (n.hs.getD i default).h
  r : ∀ x : Int, 0 ≤ x → x < n.hs.length → loR n x ≤ loR n' x ∧ loR n' x ≤ hiR n' x ∧ hiR n' x ≤ hiR n x
theorem Rates.ords (T : Rates n n') : ords n' = ords n := by unfold S.ords; rw [T.p, T.l]
theorem ord_len (G : NetG n) (O : isO n l) : l.length ≤ 6 := by have := O.1; have := G.h.le; omega
end
end Go.Proofs.Ytekoplcnlhanbaa.S

