/-
The mathematics and the functions, one after another (S1).
-/
import Derived.Test.YteonklnjchefiaaAmX
import Derived.Test.YteonklnjchefiaaTab
import Derived.Test.YteonklnjchefiaaAmY

/-
Numbers, lists, the first of the best: what the stages share.
-/
namespace Go.Proofs.Yteonklnjchefiaa.S
set_option linter.unusedVariables false
set_option linter.unusedSimpArgs false

def mx (x y : Int) : Int := if y > x then y else x
def mn (x y : Int) : Int := if y < x then y else x
theorem le_mx1 {x y : Int} : x ≤ mx x y := by unfold mx; split <;> omega
theorem le_mx2 {x y : Int} : y ≤ mx x y := by unfold mx; split <;> omega
theorem mx_le {x y z : Int} (h1 : x ≤ z) (h2 : y ≤ z) : mx x y ≤ z := by unfold mx; split <;> omega
theorem mn_le1 {x y : Int} : mn x y ≤ x := by unfold mn; split <;> omega
theorem mn_le2 {x y : Int} : mn x y ≤ y := by unfold mn; split <;> omega
theorem mn_or {x y : Int} : mn x y = x ∨ mn x y = y := by unfold mn; split <;> simp
def inR (n lo hi : Int) : Bool := decide (lo ≤ n) && decide (n ≤ hi)
theorem inR_iff {n lo hi : Int} : inR n lo hi = true ↔ lo ≤ n ∧ n ≤ hi := by simp [inR]
theorem getD_mem {α : Type} [Inhabited α] {l : List α} {i : Nat} (h : i < l.length) : l.getD i default ∈ l := by
  rw [List.getD_eq_getElem?_getD, List.getElem?_eq_getElem h]; exact List.getElem_mem h
theorem mem_getD {α : Type} {d : α} {l : List α} {x : α} (h : x ∈ l) : ∃ i, i < l.length ∧ l.getD i d = x := by
  obtain ⟨i, hi, e⟩ := List.mem_iff_getElem.1 h
  exact ⟨i, hi, by rw [List.getD_eq_getElem?_getD, List.getElem?_eq_getElem hi]; exact e⟩
/-- one list ahead of another one -/
def ear : List Int → List Int → Bool
  | a :: l, b :: m => if a ≠ b then decide (a < b) else ear l m
  | _, _ => false
theorem ear_app : ∀ {F l m : List Int}, ear (F ++ l) (F ++ m) = ear l m
  | [], _, _ => rfl
  | a :: F, l, m => by simp [ear, ear_app (F := F)]
theorem ear_asym : ∀ {l m : List Int}, ear l m = true → ear m l = false
  | [], m, h => by simp [ear] at h
  | a :: l, [], h => by simp [ear] at h
  | a :: l, b :: m, h => by
    simp only [ear] at h ⊢
    by_cases e : a = b
    · subst e; simp only [ne_eq, not_true_eq_false, if_false] at h ⊢; exact ear_asym h
    · rw [if_pos e] at h; rw [if_pos (Ne.symm e)]; simp at h ⊢; omega
theorem ear_total : ∀ {l m : List Int}, l.length = m.length → ear l m = false → ear m l = false → l = m
  | [], [], _, _, _ => rfl
  | [], _ :: _, h, _, _ => by simp at h
  | _ :: _, [], h, _, _ => by simp at h
  | a :: l, b :: m, h, h1, h2 => by
    simp only [ear] at h1 h2
    by_cases e : a = b
    · subst e; simp only [ne_eq, not_true_eq_false, if_false] at h1 h2; rw [ear_total (by simpa using h) h1 h2]
    · rw [if_pos e] at h1; rw [if_pos (Ne.symm e)] at h2; simp at h1 h2; omega
def bstS (f : List Int → Bool) (cost : List Int → Int) (b : Option (List Int)) (c : List Int) : Option (List Int) :=
  if f c then (match b with | none => some c | some x => if cost c < cost x then some c else b) else b
def bst (f : List Int → Bool) (cost : List Int → Int) (l : List (List Int)) : Option (List Int) := l.foldl (bstS f cost) none
theorem bst_snoc {f : List Int → Bool} {cost : List Int → Int} {l : List (List Int)} {c : List Int} : bst f cost (l ++ [c]) = bstS f cost (bst f cost l) c := by
  simp [bst, List.foldl_append]
theorem snocRec {α : Type} (P : List α → Prop) (l : List α) (nil : P []) (snoc : ∀ l c, P l → P (l ++ [c])) : P l := by
  rw [← List.reverse_reverse l]
  induction l.reverse with
  | nil => exact nil
  | cons c l ih => rw [List.reverse_cons]; exact snoc _ _ ih
theorem bst_none {f : List Int → Bool} {cost : List Int → Int} {l : List (List Int)} : bst f cost l = none ↔ ∀ c ∈ l, f c = false := by
  refine snocRec (fun l => bst f cost l = none ↔ ∀ c ∈ l, f c = false) l (by simp [bst]) ?_
  intro l c ih
  rw [bst_snoc]
  constructor
  · intro h x hx
    unfold bstS at h
    split at h
    · split at h
      · cases h
      · split at h
        · cases h
        · rename_i e _; rw [e] at h; cases h
    · rename_i hf
      rcases List.mem_append.1 hx with hx | hx
      · exact ih.1 h x hx
      · rw [List.mem_singleton] at hx; subst hx; simpa using hf
  · intro h
    unfold bstS
    rw [if_neg (by rw [h c (by simp)]; simp)]
    exact ih.2 fun x hx => h x (by simp [hx])
end Go.Proofs.Yteonklnjchefiaa.S

/-
Tables of parts: partings, what they cost, and the least cost, made part by part from the last one on.
-/
namespace Go.Proofs.Yteonklnjchefiaa.S
set_option linter.unusedVariables false
set_option linter.unusedSimpArgs false

structure Spn where
  lo : Int
  hi : Int
  deriving Inhabited, DecidableEq
/-- a part: of which one, what it weighs, what is lost, pence -/
structure Pt where
  of : Int
  w : Spn
  s : Spn
  p : Int
  deriving Inhabited, DecidableEq

/-! costs: none: it can't be -/
def pl : Option Int → Option Int → Option Int
  | some a, some b => some (a + b)
  | _, _ => none
theorem pl_some {a b : Option Int} {v : Int} : pl a b = some v ↔ ∃ x y, a = some x ∧ b = some y ∧ v = x + y := by
  cases a <;> cases b <;> simp [pl]
  exact ⟨fun h => h.symm, fun h => h.symm⟩
theorem pl_none {a : Option Int} : pl a none = none := by cases a <;> rfl
theorem none_pl {a : Option Int} : pl none a = none := rfl
theorem pl_assoc {a b c : Option Int} : pl (pl a b) c = pl a (pl b c) := by
  cases a <;> cases b <;> cases c <;> simp [pl]; omega
theorem pl_comm {a b : Option Int} : pl a b = pl b a := by
  cases a <;> cases b <;> simp [pl]; omega
theorem pl_zero {a : Option Int} : pl a (some 0) = a := by cases a <;> simp [pl]
theorem zero_pl {a : Option Int} : pl (some 0) a = a := by cases a <;> simp [pl]
def mo : Option Int → Option Int → Option Int
  | some a, some b => some (mn a b)
  | some a, none => some a
  | none, b => b
def lst (f : Nat → Option Int) : Nat → Option Int
  | 0 => none
  | k + 1 => mo (lst f k) (f k)
/-- the least number of which something is so -/
def Lea (m : Option Int) (P : Int → Prop) : Prop := (∀ v, m = some v → P v) ∧ ∀ v, P v → ∃ x, m = some x ∧ x ≤ v
theorem Lea.uniq {m m' : Option Int} {P : Int → Prop} (h : Lea m P) (h' : Lea m' P) : m = m' := by
  cases m with
  | none =>
    cases m' with
    | none => rfl
    | some v => obtain ⟨x, hx, _⟩ := h.2 v (h'.1 v rfl); cases hx
  | some u =>
    obtain ⟨x, hx, h1⟩ := h'.2 u (h.1 u rfl)
    subst hx
    obtain ⟨y, hy, h2⟩ := h.2 x (h'.1 x rfl)
    cases hy
    congr 1; omega
theorem Lea.congr {m : Option Int} {P Q : Int → Prop} (h : Lea m P) (hq : ∀ v, P v ↔ Q v) : Lea m Q := ⟨fun v e => (hq v).1 (h.1 v e), fun v e => h.2 v ((hq v).2 e)⟩
theorem Lea.none_iff {m : Option Int} {P : Int → Prop} (h : Lea m P) : m = none ↔ ∀ v, ¬ P v := by
  constructor
  · rintro rfl v hv; obtain ⟨x, hx, _⟩ := h.2 v hv; cases hx
  · intro hn; cases m with
    | none => rfl
    | some v => exact absurd (h.1 v rfl) (hn v)
theorem lst_lea {f : Nat → Option Int} : ∀ k, Lea (lst f k) (fun v => ∃ i, i < k ∧ f i = some v)
  | 0 => ⟨(fun v h => by cases h), (fun v h => by obtain ⟨i, h, _⟩ := h; omega)⟩
  | k + 1 => by
    have ih := lst_lea (f := f) k
    constructor
    · intro v hv
      simp only [lst] at hv
      cases h1 : lst f k with
      | none => rw [h1] at hv; exact ⟨k, by omega, by simpa [mo] using hv⟩
      | some a =>
        cases h2 : f k with
        | none =>
          rw [h1, h2] at hv
          obtain ⟨i, hi, e⟩ := ih.1 a h1
          simp only [mo, Option.some.injEq] at hv
          exact ⟨i, by omega, by rw [e, hv]⟩
        | some b =>
          rw [h1, h2] at hv
          simp only [mo, Option.some.injEq] at hv
          obtain ⟨i, hi, e⟩ := ih.1 a h1
          rcases mn_or (x := a) (y := b) with c | c
          · exact ⟨i, by omega, by rw [e, ← hv, c]⟩
          · exact ⟨k, by omega, by rw [h2, ← hv, c]⟩
    · rintro v ⟨i, hi, e⟩
      simp only [lst]
      by_cases c : i = k
      · subst c
        rw [e]
        cases h1 : lst f i with
        | none => exact ⟨v, rfl, by omega⟩
        | some a => exact ⟨_, rfl, mn_le2⟩
      · obtain ⟨x, hx, hl⟩ := ih.2 v ⟨i, by omega, e⟩
        rw [hx]
        cases h2 : f k with
        | none => exact ⟨x, rfl, hl⟩
        | some b => exact ⟨_, rfl, Int.le_trans mn_le1 hl⟩
theorem lst_congr {f g : Nat → Option Int} : ∀ {k : Nat}, (∀ i, i < k → f i = g i) → lst f k = lst g k
  | 0, _ => rfl
  | k + 1, h => by simp only [lst]; rw [lst_congr fun i hi => h i (by omega), h k (by omega)]

/-- a sum of the first ones -/
def sP (f : Nat → Option Int) : Nat → Option Int
  | 0 => some 0
  | k + 1 => pl (sP f k) (f k)
theorem sP_congr {f g : Nat → Option Int} : ∀ {k : Nat}, (∀ i, i < k → f i = g i) → sP f k = sP g k
  | 0, _ => rfl
  | k + 1, h => by simp only [sP]; rw [sP_congr fun i hi => h i (by omega), h k (by omega)]
theorem sP_split {f : Nat → Option Int} {r : Nat} : ∀ {k : Nat}, r < k → sP f k = pl (f r) (sP (fun p => if p = r then some 0 else f p) k)
  | 0, h => by omega
  | k + 1, h => by
    simp only [sP]
    by_cases c : r = k
    · subst c
      rw [if_pos rfl, pl_zero, pl_comm]
      congr 1
      exact sP_congr fun i hi => by rw [if_neg (by omega)]
    · rw [sP_split (f := f) (r := r) (k := k) (by omega), if_neg (by omega), pl_assoc]

/-! partings -/
def canC (t : List Pt) (i : Int) : Bool := t.any fun x => decide (x.of = i)
def wst (t : List Pt) (p : Nat) : Spn := if canC t p then (t.getD p default).s else ⟨0, 30⟩
/-- the pieces of a part among the first ones, together -/
def pcs (t : List Pt) (u : Nat → Int) (p : Nat) : Nat → Int
  | 0 => 0
  | j + 1 => pcs t u p j + if (t.getD j default).of = p then u j else 0
def PartF (t : List Pt) (u : Nat → Int) : Prop := ∀ i, i < t.length → (0 ≤ u i ∧ u i ≤ 30) ∧ (wst t i).lo ≤ u i - pcs t u i t.length ∧ u i - pcs t u i t.length ≤ (wst t i).hi
/-- a table: each part is of none or an earlier one; what is lost is from 0 to 30 -/
structure TG (t : List Pt) : Prop where
  n : t.length ≤ 8
  of : ∀ i, i < t.length → -1 ≤ (t.getD i default).of ∧ (t.getD i default).of < i
  s : ∀ i, i < t.length → 0 ≤ (t.getD i default).s.lo ∧ (t.getD i default).s.lo ≤ (t.getD i default).s.hi ∧ (t.getD i default).s.hi ≤ 30
theorem wst_rng {t : List Pt} (T : TG t) {i : Nat} (hi : i < t.length) : 0 ≤ (wst t i).lo ∧ (wst t i).lo ≤ (wst t i).hi ∧ (wst t i).hi ≤ 30 := by
  unfold wst; split
  · exact T.s i hi
  · exact ⟨by decide, by decide, by decide⟩
theorem pcs_congr {t : List Pt} {u w : Nat → Int} {p : Nat} : ∀ {j : Nat}, (∀ k, k < j → u k = w k) → pcs t u p j = pcs t w p j
  | 0, _ => rfl
  | j + 1, h => by simp only [pcs]; rw [pcs_congr fun k hk => h k (by omega), h j (by omega)]
theorem pcs_mono {t : List Pt} {u : Nat → Int} {p : Nat} {n : Nat} (h0 : ∀ k, k < n → 0 ≤ u k) : ∀ {j k : Nat}, j ≤ k → k ≤ n → pcs t u p j ≤ pcs t u p k
  | j, 0, h, _ => by obtain rfl : j = 0 := by omega
                     exact Int.le_refl _
  | j, k + 1, h, hk => by
    by_cases c : j = k + 1
    · subst c; exact Int.le_refl _
    · have := pcs_mono (t := t) (u := u) (p := p) h0 (j := j) (k := k) (by omega) (by omega)
      have := h0 k (by omega)
      simp only [pcs]; split <;> omega
theorem pcs_zero {t : List Pt} (T : TG t) {u : Nat → Int} {p : Nat} : ∀ {j : Nat}, j ≤ p + 1 → j ≤ t.length → pcs t u p j = 0
  | 0, _, _ => rfl
  | j + 1, h, hj => by
    have := T.of j (by omega)
    simp only [pcs]; rw [pcs_zero T (by omega) (by omega), if_neg (by omega)]; omega

/-! the least cost, part by part: 'm' parts are done, from the last one on -/
def ins (t : List Pt) (c : Nat → Int → Option Int) : Nat → Nat → Int → Option Int
  | 0, p, y => if (wst t p).lo ≤ y ∧ y ≤ (wst t p).hi then some 0 else none
  | m + 1, p, y => if (t.getD (t.length - (m + 1)) default).of = p then
      lst (fun b => pl (ins t c m p (y - b)) (pl (ins t c m (t.length - (m + 1)) b) (c (t.length - (m + 1)) b))) (y.toNat + 1) else ins t c m p y
def smS (t : List Pt) (c : Nat → Int → Option Int) : Nat → Option Int
  | 0 => some 0
  | m + 1 => if (t.getD (t.length - (m + 1)) default).of = -1 then pl (smS t c m) (lst (fun b => pl (ins t c m (t.length - (m + 1)) b) (c (t.length - (m + 1)) b)) 31) else smS t c m
def Lst (t : List Pt) (c : Nat → Int → Option Int) : Option Int := smS t c t.length
def cB (t : List Pt) (c : Nat → Int → Option Int) (u : Nat → Int) : Nat → Option Int
  | 0 => some 0
  | m + 1 => pl (c (t.length - (m + 1)) (u (t.length - (m + 1)))) (cB t c u m)
def cF (c : Nat → Int → Option Int) (u : Nat → Int) (n : Nat) : Option Int := sP (fun i => c i (u i)) n
theorem cB_eq {t : List Pt} {c : Nat → Int → Option Int} {u : Nat → Int} : ∀ {m : Nat}, m ≤ t.length → pl (cF c u (t.length - m)) (cB t c u m) = cF c u t.length
  | 0, _ => by simp only [cB, pl_zero, Nat.sub_zero]
  | m + 1, h => by
    have e : t.length - m = t.length - (m + 1) + 1 := by omega
    rw [← cB_eq (m := m) (by omega), e, cB, ← pl_assoc]
    rfl
theorem ins_neg {t : List Pt} {c : Nat → Int → Option Int} (T : TG t) {p : Nat} (hp : p < t.length) {y : Int} (hy : y < 0) : ∀ m, ins t c m p y = none
  | 0 => by
    have := wst_rng T hp
    simp only [ins]; rw [if_neg (by omega)]
  | m + 1 => by
    have ih := ins_neg (c := c) T hp hy m
    simp only [ins]
    split
    · have e : y.toNat + 1 = 0 + 1 := by omega
      rw [e]
      simp only [lst, mo]
      rw [show y - ((0 : Nat) : Int) = y by omega, ih, none_pl]
    · exact ih

def tot (t : List Pt) (c : Nat → Int → Option Int) (m : Nat) (w : Nat → Int) : Option Int := pl (smS t c m) (sP (fun p => ins t c m p (w p - pcs t w p (t.length - m))) (t.length - m))
def upd (w : Nat → Int) (q : Nat) (b : Int) : Nat → Int := fun i => if i = q then b else w i
theorem upd_same {w : Nat → Int} {q : Nat} {b : Int} : upd w q b q = b := if_pos rfl
theorem upd_ne {w : Nat → Int} {q i : Nat} {b : Int} (h : i ≠ q) : upd w q b i = w i := if_neg h
theorem upd_pcs {t : List Pt} {w : Nat → Int} {q p : Nat} {b : Int} : pcs t (upd w q b) p (q + 1) = pcs t w p q + if (t.getD q default).of = p then b else 0 := by
  simp only [pcs, upd_same]
  rw [pcs_congr fun k hk => upd_ne (by omega)]

/-- one part more -/
theorem tot_step {t : List Pt} {c : Nat → Int → Option Int} (T : TG t) {m : Nat} (hm : m + 1 ≤ t.length) {w : Nat → Int} (hw : ∀ p, p < t.length - (m + 1) → 0 ≤ w p ∧ w p ≤ 30) :
    Lea (tot t c (m + 1) w) (fun v => ∃ b x y, 0 ≤ b ∧ b ≤ 30 ∧ tot t c m (upd w (t.length - (m + 1)) b) = some x ∧ c (t.length - (m + 1)) b = some y ∧ v = x + y) := by
  obtain ⟨q, hq⟩ : ∃ q, q = t.length - (m + 1) := ⟨_, rfl⟩
  have hq1 : t.length - m = q + 1 := by omega
  have hqt : q < t.length := by omega
  have ho := T.of q hqt
  have pz : ∀ b, pcs t (upd w q b) q (q + 1) = 0 := fun b => pcs_zero T (by omega) (by omega)
  unfold tot
  rw [← hq, hq1]
  rw [← hq] at hw
  by_cases c1 : (t.getD q default).of = -1
  · -- a whole fish
    have e1 : smS t c (m + 1) = pl (smS t c m) (lst (fun b => pl (ins t c m q b) (c q b)) 31) := by
      simp only [smS, ← hq, c1, if_true]
    have e2 : ∀ p y, ins t c (m + 1) p y = ins t c m p y := fun p y => by
      simp only [ins, ← hq, c1]; rw [if_neg (by omega)]
    have e3 : ∀ b, sP (fun p => ins t c m p (upd w q b p - pcs t (upd w q b) p (q + 1))) (q + 1) = pl (sP (fun p => ins t c m p (w p - pcs t w p q)) q) (ins t c m q b) := fun b => by
      simp only [sP, upd_same, pz, Int.sub_zero]
      congr 1
      refine sP_congr fun i hi => ?_
      rw [upd_ne (by omega), upd_pcs, c1, if_neg (by omega), Int.add_zero]
    simp only [e1, e2, e3]
    have L := lst_lea (f := fun b => pl (ins t c m q b) (c q b)) 31
    constructor
    · intro v hv
      obtain ⟨x, z, hx, hz, rfl⟩ := pl_some.1 hv
      obtain ⟨x1, x2, h1, h2, rfl⟩ := pl_some.1 hx
      obtain ⟨b, hb, h3⟩ := L.1 x2 h2
      obtain ⟨y1, y2, h4, h5, rfl⟩ := pl_some.1 h3
      exact ⟨b, x1 + (z + y1), y2, by omega, by omega, by rw [h1, hz, h4]; simp [pl], h5, by omega⟩
    · rintro v ⟨b, x, y, hb0, hb1, hx, hy, rfl⟩
      obtain ⟨x1, x2, h1, h2, rfl⟩ := pl_some.1 hx
      obtain ⟨z1, z2, h3, h4, rfl⟩ := pl_some.1 h2
      obtain ⟨l, hl, hle⟩ := L.2 (z2 + y) ⟨b.toNat, by omega, by
        have : ((b.toNat : Nat) : Int) = b := by omega
        simp only [this, h4, hy, pl]⟩
      exact ⟨x1 + l + z1, by rw [h1, hl, h3]; simp [pl], by omega⟩
  · -- a piece
    obtain ⟨r, hr⟩ : ∃ r : Nat, (t.getD q default).of = r := ⟨(t.getD q default).of.toNat, by omega⟩
    have hrq : r < q := by omega
    have hrt : r < t.length := by omega
    have e1 : smS t c (m + 1) = smS t c m := by
      simp only [smS, ← hq]; rw [if_neg c1]
    have e2 : ∀ p y, p ≠ r → ins t c (m + 1) p y = ins t c m p y := fun p y h => by
      simp only [ins, ← hq, hr]; rw [if_neg (by omega)]
    have e2' : ∀ y, ins t c (m + 1) r y = lst (fun b => pl (ins t c m r (y - b)) (pl (ins t c m q b) (c q b))) (y.toNat + 1) := fun y => by
      simp only [ins, ← hq, hr, if_true]
    obtain ⟨S, hS⟩ : ∃ S, S = sP (fun p => if p = r then some 0 else ins t c m p (w p - pcs t w p q)) q := ⟨_, rfl⟩
    obtain ⟨yr, hyr⟩ : ∃ yr, yr = w r - pcs t w r q := ⟨_, rfl⟩
    have e3 : sP (fun p => ins t c (m + 1) p (w p - pcs t w p q)) q = pl (ins t c (m + 1) r yr) S := by
      rw [sP_split hrq, hS, hyr]
      congr 1
      refine sP_congr fun i hi => ?_
      split
      · rfl
      · rw [e2 _ _ (by assumption)]
    have e4 : ∀ b, sP (fun p => ins t c m p (upd w q b p - pcs t (upd w q b) p (q + 1))) (q + 1) = pl (pl (ins t c m r (yr - b)) S) (ins t c m q b) := fun b => by
      simp only [sP, upd_same, pz, Int.sub_zero]
      congr 1
      rw [sP_split hrq, hS]
      congr 1
      · rw [upd_ne (by omega), upd_pcs, hr, if_pos rfl, hyr]
        congr 1; omega
      · refine sP_congr fun i hi => ?_
        split
        · rfl
        · rw [upd_ne (by omega), upd_pcs, hr, if_neg (by omega), Int.add_zero]
    have L := lst_lea (f := fun b => pl (ins t c m r (yr - b)) (pl (ins t c m q b) (c q b))) (yr.toNat + 1)
    have hp0 : 0 ≤ pcs t w r q := by
      have := pcs_mono (t := t) (u := w) (p := r) (n := q) (fun k hk => (hw k hk).1) (j := 0) (k := q) (by omega) (by omega)
      simpa [pcs] using this
    have hwr := hw r hrq
    simp only [e1, e3, e4, e2']
    constructor
    · intro v hv
      obtain ⟨x, z, hx, hz, rfl⟩ := pl_some.1 hv
      obtain ⟨l, s, hl, hs, rfl⟩ := pl_some.1 hz
      obtain ⟨b, hb, h3⟩ := L.1 l hl
      obtain ⟨y1, y2, h4, h5, rfl⟩ := pl_some.1 h3
      obtain ⟨y3, y4, h6, h7, rfl⟩ := pl_some.1 h5
      refine ⟨b, x + (y1 + s + y3), y4, by omega, ?_, by rw [hx, h4, hs, h6]; simp [pl], h7, by omega⟩
      by_cases cy : yr < 0
      · have := ins_neg (c := c) T hrt (y := yr - b) (by omega) m
        rw [this] at h4; cases h4
      · omega
    · rintro v ⟨b, x, y, hb0, hb1, hx, hy, rfl⟩
      obtain ⟨x1, x2, h1, h2, rfl⟩ := pl_some.1 hx
      obtain ⟨z1, z2, h3, h4, rfl⟩ := pl_some.1 h2
      obtain ⟨u1, u2, h5, h6, rfl⟩ := pl_some.1 h3
      have hyb : b ≤ yr := by
        by_cases cy : yr < b
        · have := ins_neg (c := c) T hrt (y := yr - b) (by omega) m
          rw [this] at h5; cases h5
        · omega
      obtain ⟨l, hl, hle⟩ := L.2 (u1 + (z2 + y)) ⟨b.toNat, by omega, by
        have : ((b.toNat : Nat) : Int) = b := by omega
        simp only [this, h5, h4, hy, pl]⟩
      exact ⟨x1 + (l + u2), by rw [h1, hl, h6]; simp [pl], by omega⟩

theorem tot_lea {t : List Pt} {c : Nat → Int → Option Int} (T : TG t) : ∀ {m : Nat}, m ≤ t.length → ∀ {w : Nat → Int}, (∀ p, p < t.length - m → 0 ≤ w p ∧ w p ≤ 30) →
    Lea (tot t c m w) (fun v => ∃ u, (∀ k, k < t.length - m → u k = w k) ∧ PartF t u ∧ cB t c u m = some v)
  | 0, _, w, hw => by
    simp only [tot, smS, zero_pl, cB, Nat.sub_zero] at hw ⊢
    have key : ∀ k, k ≤ t.length → (sP (fun p => ins t c 0 p (w p - pcs t w p t.length)) k = some 0 ∧ ∀ i, i < k → (wst t i).lo ≤ w i - pcs t w i t.length ∧ w i - pcs t w i t.length ≤ (wst t i).hi) ∨
        (sP (fun p => ins t c 0 p (w p - pcs t w p t.length)) k = none ∧ ∃ i, i < k ∧ ¬ ((wst t i).lo ≤ w i - pcs t w i t.length ∧ w i - pcs t w i t.length ≤ (wst t i).hi)) := by
      intro k
      induction k with
      | zero => exact fun _ => .inl ⟨rfl, fun i h => by omega⟩
      | succ k ih =>
        intro hk
        rcases ih (by omega) with ⟨h1, h2⟩ | ⟨h1, i, hi, h2⟩
        · by_cases cc : (wst t k).lo ≤ w k - pcs t w k t.length ∧ w k - pcs t w k t.length ≤ (wst t k).hi
          · refine .inl ⟨by rw [sP, h1]; simp only [ins]; rw [if_pos cc]; rfl, fun i hi => ?_⟩
            by_cases e : i = k
            · subst e; exact cc
            · exact h2 i (by omega)
          · exact .inr ⟨by rw [sP, h1]; simp only [ins]; rw [if_neg cc]; rfl, k, by omega, cc⟩
        · exact .inr ⟨by rw [sP, h1, none_pl], i, by omega, h2⟩
    rcases key t.length (Nat.le_refl _) with ⟨h1, h2⟩ | ⟨h1, i, hi, h2⟩
    · rw [h1]
      refine ⟨fun v hv => ⟨w, fun _ _ => rfl, fun i hi => ⟨hw i hi, h2 i hi⟩, hv⟩, fun v ⟨u, _, _, e⟩ => ⟨0, rfl, by cases e; omega⟩⟩
    · rw [h1]
      refine ⟨(fun v hv => by cases hv), fun v ⟨u, h3, h4, _⟩ => ?_⟩
      have h5 := (h4 i hi).2
      rw [pcs_congr h3, h3 i hi] at h5
      exact absurd h5 h2
  | m + 1, hm, w, hw => by
    have hqt : t.length - (m + 1) < t.length := by omega
    have hq1 : t.length - m = t.length - (m + 1) + 1 := by omega
    obtain ⟨q, hq⟩ : ∃ q, q = t.length - (m + 1) := ⟨_, rfl⟩
    have st := tot_step (c := c) T hm hw
    rw [← hq] at st hw hq1 hqt
    rw [hq.symm]
    have hu : ∀ b, 0 ≤ b → b ≤ 30 → ∀ p, p < t.length - m → 0 ≤ upd w q b p ∧ upd w q b p ≤ 30 := fun b h0 h1 p hp => by
      by_cases e : p = q
      · subst e; rw [upd_same]; exact ⟨h0, h1⟩
      · rw [upd_ne e]; exact hw p (by omega)
    constructor
    · intro v hv
      obtain ⟨b, x, y, hb0, hb1, hx, hy, rfl⟩ := st.1 v hv
      obtain ⟨u, h1, h2, h3⟩ := (tot_lea (c := c) T (m := m) (by omega) (hu b hb0 hb1)).1 x hx
      have uq : u q = b := by rw [h1 q (by omega), upd_same]
      refine ⟨u, fun k hk => by rw [h1 k (by omega), upd_ne (by omega)], h2, ?_⟩
      simp only [cB, ← hq, uq, hy, h3, pl, Option.some.injEq]; omega
    · rintro v ⟨u, h1, h2, h3⟩
      simp only [cB, ← hq] at h3
      obtain ⟨y, x0, h4, h5, rfl⟩ := pl_some.1 h3
      have hb := (h2 q hqt).1
      obtain ⟨x, h6, h7⟩ := (tot_lea (c := c) T (m := m) (by omega) (hu (u q) hb.1 hb.2)).2 x0 ⟨u, fun k hk => by
        by_cases e : k = q
        · subst e; rw [upd_same]
        · rw [upd_ne e]; exact h1 k (by omega), h2, h5⟩
      obtain ⟨z, h8, h9⟩ := st.2 (x + y) ⟨u q, x, y, hb.1, hb.2, h6, h4, rfl⟩
      exact ⟨z, h8, by omega⟩

/-- THE LEAST COST is that of a parting -/
theorem Lst_lea {t : List Pt} {c : Nat → Int → Option Int} (T : TG t) : Lea (Lst t c) (fun v => ∃ u, PartF t u ∧ cF c u t.length = some v) := by
  have h := tot_lea (c := c) T (m := t.length) (Nat.le_refl _) (w := fun _ => 0) (fun p hp => by omega)
  simp only [tot, Nat.sub_self, sP, pl_zero] at h
  refine h.congr fun v => ?_
  have e : ∀ u, cB t c u t.length = cF c u t.length := fun u => by
    rw [← cB_eq (c := c) (u := u) (Nat.le_refl t.length), Nat.sub_self]
    simp only [cF, sP, zero_pl]
  constructor
  · rintro ⟨u, _, h1, h2⟩; exact ⟨u, h1, by rw [← e]; exact h2⟩
  · rintro ⟨u, h1, h2⟩; exact ⟨u, fun k hk => by omega, h1, by rw [e]; exact h2⟩

/-! bounds, for what the program reckons -/
theorem ins_bd {t : List Pt} {c : Nat → Int → Option Int} {K : Int} (hK : 0 ≤ K) (hc : ∀ i b x, c i b = some x → -K ≤ x ∧ x ≤ K) : ∀ (m p : Nat) (y v : Int), ins t c m p y = some v → -((2 ^ m - 1) * K) ≤ v ∧ v ≤ (2 ^ m - 1) * K
  | 0, p, y, v, h => by
    simp only [ins] at h
    split at h
    · cases h; simp
    · cases h
  | m + 1, p, y, v, h => by
    have e : ((2 : Int) ^ (m + 1) - 1) * K = (2 ^ m - 1) * K + ((2 ^ m - 1) * K + K) := by
      rw [show (2 : Int) ^ (m + 1) - 1 = (2 ^ m - 1) + ((2 ^ m - 1) + 1) by rw [Int.pow_succ]; omega, Int.add_mul, Int.add_mul, Int.one_mul]
    have p0 : 0 ≤ ((2 : Int) ^ m - 1) * K := Int.mul_nonneg (by have := Int.pow_pos (n := 2) (m := m) (by decide); omega) hK
    rw [e]
    simp only [ins] at h
    split at h
    · obtain ⟨b, _, h1⟩ := (lst_lea _).1 v h
      obtain ⟨x, z, h2, h3, rfl⟩ := pl_some.1 h1
      obtain ⟨x', z', h4, h5, rfl⟩ := pl_some.1 h3
      have := ins_bd hK hc m _ _ _ h2
      have := ins_bd hK hc m _ _ _ h4
      have := hc _ _ _ h5
      omega
    · have := ins_bd hK hc m _ _ _ h
      omega
theorem smS_bd {t : List Pt} {c : Nat → Int → Option Int} {K : Int} (hK : 0 ≤ K) (hc : ∀ i b x, c i b = some x → -K ≤ x ∧ x ≤ K) : ∀ (m : Nat) (v : Int), smS t c m = some v → -((2 ^ m - 1) * K) ≤ v ∧ v ≤ (2 ^ m - 1) * K
  | 0, v, h => by simp only [smS, Option.some.injEq] at h; subst h; simp
  | m + 1, v, h => by
    have e : ((2 : Int) ^ (m + 1) - 1) * K = (2 ^ m - 1) * K + ((2 ^ m - 1) * K + K) := by
      rw [show (2 : Int) ^ (m + 1) - 1 = (2 ^ m - 1) + ((2 ^ m - 1) + 1) by rw [Int.pow_succ]; omega, Int.add_mul, Int.add_mul, Int.one_mul]
    have p0 : 0 ≤ ((2 : Int) ^ m - 1) * K := Int.mul_nonneg (by have := Int.pow_pos (n := 2) (m := m) (by decide); omega) hK
    rw [e]
    simp only [smS] at h
    split at h
    · obtain ⟨x, z, h2, h3, rfl⟩ := pl_some.1 h
      obtain ⟨b, _, h1⟩ := (lst_lea _).1 z h3
      obtain ⟨x', z', h4, h5, rfl⟩ := pl_some.1 h1
      have := smS_bd hK hc m _ h2
      have := ins_bd hK hc m _ _ _ h4
      have := hc _ _ _ h5
      omega
    · have := smS_bd hK hc m _ h
      omega
theorem pow2_le {m : Nat} (h : m ≤ 8) : (2 : Int) ^ m - 1 ≤ 255 ∧ 0 ≤ (2 : Int) ^ m - 1 := by
  match m, h with
  | 0, _ | 1, _ | 2, _ | 3, _ | 4, _ | 5, _ | 6, _ | 7, _ | 8, _ => decide
end Go.Proofs.Yteonklnjchefiaa.S

/-
The pieces of a part in either order; truths, changes, and what follows of the least cost.
-/
namespace Go.Proofs.Yteonklnjchefiaa.S
set_option linter.unusedVariables false
set_option linter.unusedSimpArgs false

section
variable {t : List Pt} {c : Nat → Int → Option Int}
/-- the least cost of a part and all below it, if it weighs so much -/
def bsc (t : List Pt) (c : Nat → Int → Option Int) (k : Nat) (b : Int) : Option Int := pl (ins t c (t.length - 1 - k) k b) (c k b)
def BagD (t : List Pt) (c : Nat → Int → Option Int) (p : Nat) : Nat → Int → Int → Prop
  | 0, y, v => (wst t p).lo ≤ y ∧ y ≤ (wst t p).hi ∧ v = 0
  | m + 1, y, v => if (t.getD (t.length - (m + 1)) default).of = p then ∃ b x z, 0 ≤ b ∧ b ≤ y ∧ BagD t c p m (y - b) x ∧ bsc t c (t.length - (m + 1)) b = some z ∧ v = x + z else BagD t c p m y v
def BagA (t : List Pt) (c : Nat → Int → Option Int) (i : Nat) : Nat → Int → Int → Prop
  | 0, y, v => y = 0 ∧ v = 0
  | j + 1, y, v => if (t.getD (i + 1 + j) default).of = i then ∃ b x z, 0 ≤ b ∧ b ≤ y ∧ BagA t c i j (y - b) x ∧ bsc t c (i + 1 + j) b = some z ∧ v = x + z else BagA t c i j y v
def pcE (t : List Pt) (c : Nat → Int → Option Int) (i : Nat) : Nat → Int → Option Int
  | 0, y => if y = 0 then some 0 else none
  | j + 1, y => if (t.getD (i + 1 + j) default).of = i then lst (fun x => pl (pcE t c i j x) (bsc t c (i + 1 + j) (y - x))) (y.toNat + 1) else pcE t c i j y

theorem ins_bag {p : Nat} : ∀ {m : Nat} {y : Int}, m ≤ t.length → 0 ≤ y → Lea (ins t c m p y) (BagD t c p m y)
  | 0, y, _, _ => by
    simp only [ins, BagD]
    constructor
    · intro v hv
      split at hv
      · rename_i h; cases hv; exact ⟨h.1, h.2, rfl⟩
      · cases hv
    · rintro v ⟨h1, h2, rfl⟩; exact ⟨0, if_pos ⟨h1, h2⟩, Int.le_refl _⟩
  | m + 1, y, hm, hy => by
    have e : t.length - 1 - (t.length - (m + 1)) = m := by omega
    simp only [ins, BagD, bsc, e]
    split
    · have L := lst_lea (f := fun b => pl (ins t c m p (y - b)) (pl (ins t c m (t.length - (m + 1)) b) (c (t.length - (m + 1)) b))) (y.toNat + 1)
      constructor
      · intro v hv
        obtain ⟨b, hb, h⟩ := L.1 v hv
        obtain ⟨x, z, h1, h2, rfl⟩ := pl_some.1 h
        exact ⟨b, x, z, by omega, by omega, (ins_bag (m := m) (by omega) (by omega)).1 x h1, h2, rfl⟩
      · rintro v ⟨b, x, z, h0, h1, h2, h3, rfl⟩
        obtain ⟨x', h4, h5⟩ := (ins_bag (m := m) (y := y - b) (by omega) (by omega)).2 x h2
        obtain ⟨r, h6, h7⟩ := L.2 (x' + z) ⟨b.toNat, by omega, by
          have : ((b.toNat : Nat) : Int) = b := by omega
          simp only [this, h4, h3]; rfl⟩
        exact ⟨r, h6, by omega⟩
    · exact ins_bag (by omega) hy
theorem pcE_bag {i : Nat} : ∀ {j : Nat} {y : Int}, 0 ≤ y → Lea (pcE t c i j y) (BagA t c i j y)
  | 0, y, _ => by
    simp only [pcE, BagA]
    constructor
    · intro v hv
      split at hv
      · cases hv; exact ⟨by assumption, rfl⟩
      · cases hv
    · rintro v ⟨h1, rfl⟩; exact ⟨0, if_pos h1, Int.le_refl _⟩
  | j + 1, y, hy => by
    simp only [pcE, BagA]
    split
    · have L := lst_lea (f := fun x => pl (pcE t c i j x) (bsc t c (i + 1 + j) (y - x))) (y.toNat + 1)
      constructor
      · intro v hv
        obtain ⟨b, hb, h⟩ := L.1 v hv
        obtain ⟨x, z, h1, h2, rfl⟩ := pl_some.1 h
        exact ⟨y - b, x, z, by omega, by omega, by
          rw [show y - (y - (b : Int)) = b by omega]; exact (pcE_bag (j := j) (by omega)).1 x h1, h2, rfl⟩
      · rintro v ⟨b, x, z, h0, h1, h2, h3, rfl⟩
        obtain ⟨x', h4, h5⟩ := (pcE_bag (j := j) (y := y - b) (by omega)).2 x h2
        obtain ⟨r, h6, h7⟩ := L.2 (x' + z) ⟨(y - b).toNat, by omega, by
          have : (((y - b).toNat : Nat) : Int) = y - b := by omega
          simp only [this, h4, show y - (y - b) = b by omega, h3]; rfl⟩
        exact ⟨r, h6, by omega⟩
    · exact pcE_bag hy
/-- one order comes to the other -/
theorem bag_mix {c : Nat → Int → Option Int} {i : Nat} (hi : i < t.length) {y v : Int} : ∀ {j m : Nat}, j + m = t.length - 1 - i →
    ((∃ y1 y2 v1 v2, 0 ≤ y1 ∧ 0 ≤ y2 ∧ y1 + y2 = y ∧ v1 + v2 = v ∧ BagA t c i j y1 v1 ∧ BagD t c i m y2 v2) ↔ (0 ≤ y ∧ BagD t c i (t.length - 1 - i) y v))
  | 0, m, h => by
    have : m = t.length - 1 - i := by omega
    subst this
    constructor
    · rintro ⟨y1, y2, v1, v2, h1, h2, rfl, rfl, ⟨rfl, rfl⟩, h3⟩
      rw [Int.zero_add, Int.zero_add]; exact ⟨h2, h3⟩
    · rintro ⟨h1, h2⟩
      exact ⟨0, y, 0, v, by omega, h1, by omega, by omega, ⟨rfl, rfl⟩, h2⟩
  | j + 1, m, h => by
    rw [← bag_mix hi (j := j) (m := m + 1) (by omega)]
    have e : t.length - (m + 1) = i + 1 + j := by omega
    simp only [BagA, BagD, e]
    split
    · constructor
      · rintro ⟨y1, y2, v1, v2, h1, h2, rfl, rfl, ⟨b, x, z, h3, h4, h5, h6, rfl⟩, h7⟩
        exact ⟨y1 - b, y2 + b, x, v2 + z, by omega, by omega, by omega, by omega, h5, b, v2, z, h3, by omega, by rw [Int.add_sub_cancel]; exact h7, h6, rfl⟩
      · rintro ⟨y1, y2, v1, v2, h1, h2, rfl, rfl, h3, b, x, z, h4, h5, h6, h7, rfl⟩
        exact ⟨y1 + b, y2 - b, v1 + z, x, by omega, by omega, by omega, by omega, ⟨b, v1, z, h4, by omega, by rw [Int.add_sub_cancel]; exact h3, h7, rfl⟩, h6⟩
    · exact Iff.rfl
theorem ins_pc {i : Nat} (T : TG t) (hi : i < t.length) {y : Int} (hy : 0 ≤ y) : ins t c (t.length - 1 - i) i y = lst (fun l => if (wst t i).lo ≤ l ∧ l ≤ (wst t i).hi then pcE t c i (t.length - 1 - i) (y - l) else none) (y.toNat + 1) := by
  refine (ins_bag (c := c) (p := i) (m := t.length - 1 - i) (by omega) hy).uniq ?_
  have w0 := wst_rng T hi
  have B := fun v => bag_mix (c := c) hi (y := y) (v := v) (j := t.length - 1 - i) (m := 0) (by omega)
  have L := lst_lea (f := fun l => if (wst t i).lo ≤ l ∧ l ≤ (wst t i).hi then pcE t c i (t.length - 1 - i) (y - l) else none) (y.toNat + 1)
  constructor
  · intro v hv
    obtain ⟨l, hl, h⟩ := L.1 v hv
    split at h
    · rename_i hc
      exact ((B v).1 ⟨y - l, l, v, 0, by omega, by omega, by omega, by omega, (pcE_bag (by omega)).1 v h, hc.1, hc.2, rfl⟩).2
    · cases h
  · intro v hv
    obtain ⟨y1, y2, v1, v2, h1, h2, rfl, rfl, h3, h4, h5, rfl⟩ := (B v).2 ⟨hy, hv⟩
    obtain ⟨x, h6, h7⟩ := (pcE_bag (c := c) h1).2 v1 h3
    obtain ⟨r, h8, h9⟩ := L.2 x ⟨y2.toNat, by omega, by
      have : ((y2.toNat : Nat) : Int) = y2 := by omega
      simp only [this]
      rw [if_pos ⟨h4, h5⟩, Int.add_sub_cancel]; exact h6⟩
    exact ⟨r, h8, by omega⟩
theorem ins_leaf {i : Nat} (hc : canC t i = false) {y : Int} : ∀ {m : Nat}, m ≤ t.length → ins t c m i y = if 0 ≤ y ∧ y ≤ 30 then some 0 else none
  | 0, _ => by simp only [ins, wst, hc, Bool.false_eq_true, if_false]
  | m + 1, hm => by
    have : ¬ (t.getD (t.length - (m + 1)) default).of = i := fun e => by
      rw [canC, List.any_eq_false] at hc
      exact hc _ (getD_mem (show t.length - (m + 1) < t.length by omega)) (decide_eq_true e)
    simp only [ins]; rw [if_neg this]; exact ins_leaf hc (by omega)
theorem pl_mo {a b d : Option Int} : pl a (mo b d) = mo (pl a b) (pl a d) := by
  cases a <;> cases b <;> cases d <;> simp [pl, mo]
  unfold mn; split <;> split <;> omega
theorem pl_lst {a : Option Int} {f : Nat → Option Int} : ∀ {k : Nat}, pl a (lst f k) = lst (fun i => pl a (f i)) k
  | 0 => by simp only [lst, pl_none]
  | k + 1 => by simp only [lst, pl_mo, pl_lst (k := k)]
/-- sums either way round -/
theorem lst_rev {f g : Int → Option Int} {y : Int} (hy : 0 ≤ y) : lst (fun b => pl (f (y - b)) (g b)) (y.toNat + 1) = lst (fun a => pl (f a) (g (y - a))) (y.toNat + 1) := by
  refine (lst_lea _).uniq ((lst_lea _).congr fun v => ?_)
  constructor
  · rintro ⟨a, ha, h⟩
    refine ⟨(y - a).toNat, by omega, ?_⟩
    have : (((y - a).toNat : Nat) : Int) = y - a := by omega
    simp only [this, show y - (y - (a : Int)) = a by omega]; exact h
  · rintro ⟨a, ha, h⟩
    refine ⟨(y - a).toNat, by omega, ?_⟩
    have : (((y - a).toNat : Nat) : Int) = y - a := by omega
    simp only [this, show y - (y - (a : Int)) = a by omega]; exact h
end

/-! truths -/
def lin (r u : Nat → Int) : Nat → Int
  | 0 => 0
  | k + 1 => lin r u k + r k * u k
def cT (t : List Pt) (r : Nat → Int) : Nat → Int → Option Int := fun i w => if (t.getD i default).w.lo ≤ w ∧ w ≤ (t.getD i default).w.hi then some (r i * w) else none
def TruF (t : List Pt) (u : Nat → Int) : Prop := PartF t u ∧ ∀ i, i < t.length → (t.getD i default).w.lo ≤ u i ∧ u i ≤ (t.getD i default).w.hi
def awy (s : Spn) (w : Int) : Int := mx (mx (s.lo - w) (w - s.hi)) 0
theorem awy_nn {s : Spn} {w : Int} : 0 ≤ awy s w := le_mx2
theorem awy_zero {s : Spn} {w : Int} : awy s w = 0 ↔ s.lo ≤ w ∧ w ≤ s.hi := by
  unfold awy mx; split <;> split <;> omega
def cA (t : List Pt) : Nat → Int → Option Int := fun i w => some (awy (t.getD i default).w w)
def chg (t : List Pt) (u : Nat → Int) : Nat → Int
  | 0 => 0
  | k + 1 => chg t u k + awy (t.getD k default).w (u k)
theorem cF_T {t : List Pt} {r u : Nat → Int} : ∀ {k : Nat}, (∀ v, cF (cT t r) u k = some v ↔ (∀ i, i < k → (t.getD i default).w.lo ≤ u i ∧ u i ≤ (t.getD i default).w.hi) ∧ v = lin r u k)
  | 0, v => by
    simp only [cF, sP, lin, Option.some.injEq]
    exact ⟨fun h => ⟨fun i hi => by omega, h.symm⟩, fun h => h.2.symm⟩
  | k + 1, v => by
    have ih := cF_T (t := t) (r := r) (u := u) (k := k)
    show pl (cF (cT t r) u k) (cT t r k (u k)) = some v ↔ _
    rw [pl_some]
    constructor
    · rintro ⟨x, y, h1, h2, rfl⟩
      obtain ⟨h3, rfl⟩ := (ih x).1 h1
      simp only [cT] at h2
      split at h2
      · rename_i hc
        cases h2
        refine ⟨fun i hi => ?_, rfl⟩
        by_cases e : i = k
        · subst e; exact hc
        · exact h3 i (by omega)
      · cases h2
    · rintro ⟨h1, rfl⟩
      exact ⟨lin r u k, r k * u k, (ih _).2 ⟨fun i hi => h1 i (by omega), rfl⟩, if_pos (h1 k (by omega)), rfl⟩
section
variable {t : List Pt}
theorem LstT {r : Nat → Int} (T : TG t) : Lea (Lst t (cT t r)) (fun v => ∃ u, TruF t u ∧ v = lin r u t.length) := by
  refine (Lst_lea T).congr fun v => ?_
  constructor
  · rintro ⟨u, h1, h2⟩; exact ⟨u, ⟨h1, (cF_T v).1 h2 |>.1⟩, ((cF_T v).1 h2).2⟩
  · rintro ⟨u, ⟨h1, h2⟩, h3⟩; exact ⟨u, h1, (cF_T v).2 ⟨h2, h3⟩⟩
def is1 (t : List Pt) : Bool := (Lst t (cT t fun _ => 0)).isSome
theorem is1_iff (T : TG t) : is1 t = true ↔ ∃ u, TruF t u := by
  unfold is1
  have L := LstT (r := fun _ => 0) T
  cases h : Lst t (cT t fun _ => 0) with
  | none =>
    simp only [Option.isSome_none, Bool.false_eq_true, false_iff]
    rintro ⟨u, hu⟩
    exact L.none_iff.1 h _ ⟨u, hu, rfl⟩
  | some v =>
    simp only [Option.isSome_some, true_iff]
    obtain ⟨u, hu, _⟩ := L.1 v h
    exact ⟨u, hu⟩
theorem LstT_isSome {r : Nat → Int} (T : TG t) : (Lst t (cT t r)).isSome = is1 t := by
  have L := LstT (r := r) T
  rw [Bool.eq_iff_iff, is1_iff T]
  cases h : Lst t (cT t r) with
  | none =>
    simp only [Option.isSome_none, Bool.false_eq_true, false_iff]
    rintro ⟨u, hu⟩; exact L.none_iff.1 h _ ⟨u, hu, rfl⟩
  | some v =>
    simp only [Option.isSome_some, true_iff]
    obtain ⟨u, hu, _⟩ := L.1 v h; exact ⟨u, hu⟩
theorem LstT_none {r : Nat → Int} (T : TG t) (h : is1 t = false) : Lst t (cT t r) = none := by
  have := LstT_isSome (r := r) T
  rw [h] at this
  cases h' : Lst t (cT t r) with
  | none => rfl
  | some v => rw [h'] at this; cases this
theorem LstT_some {r : Nat → Int} (T : TG t) (h : is1 t = true) : ∃ v, Lst t (cT t r) = some v := by
  have := LstT_isSome (r := r) T
  rw [h] at this
  exact Option.isSome_iff_exists.1 this
/-- the least and the greatest sum of weights, each times a number -/
def loV (t : List Pt) (r : Nat → Int) : Int := (Lst t (cT t r)).getD 0
def hiV (t : List Pt) (r : Nat → Int) : Int := 0 - (Lst t (cT t fun i => 0 - r i)).getD 0
theorem lin_neg {r u : Nat → Int} : ∀ {k : Nat}, lin (fun i => 0 - r i) u k = 0 - lin r u k
  | 0 => rfl
  | k + 1 => by simp only [lin, lin_neg (k := k)]; rw [Int.sub_mul]; omega
theorem loV_spec {r : Nat → Int} (T : TG t) (h : is1 t = true) : (∃ u, TruF t u ∧ lin r u t.length = loV t r) ∧ ∀ u, TruF t u → loV t r ≤ lin r u t.length := by
  obtain ⟨v, hv⟩ := LstT_some (r := r) T h
  have L := LstT (r := r) T
  simp only [loV, hv, Option.getD_some]
  obtain ⟨u, hu, e⟩ := L.1 v hv
  refine ⟨⟨u, hu, e.symm⟩, fun w hw => ?_⟩
  obtain ⟨x, hx, hl⟩ := L.2 _ ⟨w, hw, rfl⟩
  rw [hv] at hx; cases hx; exact hl
theorem hiV_spec {r : Nat → Int} (T : TG t) (h : is1 t = true) : (∃ u, TruF t u ∧ lin r u t.length = hiV t r) ∧ ∀ u, TruF t u → lin r u t.length ≤ hiV t r := by
  obtain ⟨⟨u, hu, e⟩, h2⟩ := loV_spec (r := fun i => 0 - r i) T h
  simp only [lin_neg] at e h2
  have e3 : hiV t r = 0 - loV t (fun i => 0 - r i) := rfl
  exact ⟨⟨u, hu, by omega⟩, fun w hw => by have := h2 w hw; omega⟩
end
end Go.Proofs.Yteonklnjchefiaa.S

/-
Lists in heaps, copies, appends: what the functions of lifts needed and those of mesh need, too.
-/
namespace Go.Proofs.Yteonklnjchefiaa.S
open Go Go.Am Go.Proofs.Yteonklnjchefiaa.T
set_option maxRecDepth 100000
set_option linter.unusedSimpArgs false
set_option linter.unusedVariables false

abbrev intL (n : Int) : List AV := [I n]
theorem intE (n : Int) : (intL n).length = 1 := rfl
theorem intSc (n : Int) : (intL n).all AV.scalar = true := rfl
def slV {α : Type} (esz : Nat) (enc : α → List AV) (l : List α) : AV := .cs esz l.length (l.flatMap enc)
theorem slV_is {α : Type} {esz : Nat} {enc : α → List AV} {l : List α} : IsSl esz enc l (slV esz enc l) := .inl rfl
theorem elem_in {l : List Int} {v : AV} (h : IsSl 1 intL l v) : ∀ i : Int, 0 ≤ i → i < l.length → elemAt 1 v (I i) = some (.cptr [I (l.getD i.toNat 0)]) := elem_sl intE h
/-- a list of numbers that is handed over: none at all if it is empty -/
def resL (l : List Int) : AV := if l = [] then .nils else slV 1 intL l
theorem resL_is (l : List Int) : IsSl 1 intL l (resL l) := by
  unfold resL; split
  · exact .inr ⟨rfl, by assumption⟩
  · exact slV_is
theorem gUn {X : Cx} {base : Nat} {k : List KF} {ts : List AV} {h : List AO} {mk : List Nat} {r : List AOper} {d : Option Nat} {w : Bool} {op : AOp} {sl : Option Nat} {m : List Nat} {x : Option (Nat × Bool)} : GG X base .undef w ⟨d, op, x, sl, m⟩ r k ts h mk = GO X base r k (putT ts d .undef) h mk := id rfl
theorem s30 (n lo hi : Int) (st : Bool) : Iso E 30 [I n, I lo, I hi] st = some (Bo (inR n lo hi)) := by
  refine Iso_of (es _ _ _ _) e30 ?_
  simp only [f30, inR]
  simp (disch := first | assumption | omega | (simp only [az]; done)) only [ru, eq_self, if_true, if_false, BEq.rfl, binI, AO.row?, splice, fillL, mmAll, loadV, storeV, zeros, Am.rowAt, Am.part, addOff, Nat.reduceAdd, Nat.reduceMul, Nat.reduceLeDiff, Nat.reduceSub, Nat.reduceLT, Int.reduceEq, Int.reduceLT, Int.reduceLE, Int.reduceGT, Int.reduceGE, Int.reduceAdd, Int.reduceSub, Int.reduceMul, Int.reduceNeg, Int.reduceToNat, reduceCtorEq, reduceIte]
  by_cases h1 : lo ≤ n
  · simp (disch := first | assumption | omega | (simp only [az]; done)) only [ru, eq_self, if_true, if_false, BEq.rfl, binI, AO.row?, splice, fillL, mmAll, loadV, storeV, zeros, Am.rowAt, Am.part, addOff, Nat.reduceAdd, Nat.reduceMul, Nat.reduceLeDiff, Nat.reduceSub, Nat.reduceLT, Int.reduceEq, Int.reduceLT, Int.reduceLE, Int.reduceGT, Int.reduceGE, Int.reduceAdd, Int.reduceSub, Int.reduceMul, Int.reduceNeg, Int.reduceToNat, reduceCtorEq, reduceIte, h1]
  · simp (disch := first | assumption | omega | (simp only [az]; done)) only [ru, eq_self, if_true, if_false, BEq.rfl, binI, AO.row?, splice, fillL, mmAll, loadV, storeV, zeros, Am.rowAt, Am.part, addOff, Nat.reduceAdd, Nat.reduceMul, Nat.reduceLeDiff, Nat.reduceSub, Nat.reduceLT, Int.reduceEq, Int.reduceLT, Int.reduceLE, Int.reduceGT, Int.reduceGE, Int.reduceAdd, Int.reduceSub, Int.reduceMul, Int.reduceNeg, Int.reduceToNat, reduceCtorEq, reduceIte, h1]
theorem range_all_succ {p : Nat → Bool} {i : Nat} (h : (List.range i).all p = true) (hp : p i = true) : (List.range (i + 1)).all p = true := by
  rw [List.range_succ, List.all_append, h]; simpa using hp
theorem range_not {p : Nat → Bool} {i N : Nat} (hi : i < N) (hp : p i = false) : (List.range N).all p = false := by
  rw [List.all_eq_false]; exact ⟨i, List.mem_range.2 hi, by simp [hp]⟩

section
/-! the program's -/
end

section
theorem Ro_ex {E : Env} {f : Nat} {fn : AFn} {vs : List AV} {h : List AO} (P : AV → Prop) (hu : ∀ v, P v → v.under h.length = true) (hs : E.spec f vs h h.length = none) (hf : E.fn f = some fn)
    (hg : G ⟨E, h.length, none, f, Done h.length fn.results fun r h' => P r⟩ fn.body [] (vs ++ List.replicate (fn.ntmps - vs.length) .undef) h []) : ∃ v, Ro E f vs h = some v ∧ P v := by
  obtain ⟨r, h', h1, h2⟩ := R_of (fun r _ => P r) hs hf hg
  exact ⟨r, by simp only [Ro, h1, hu r h2, if_true], h2⟩
end

section
end

theorem getD_memI {l : List Int} {i : Nat} (h : i < l.length) : l.getD i 0 ∈ l := by
  rw [List.getD_eq_getElem?_getD, List.getElem?_eq_getElem h]; exact List.getElem_mem h
section
/-! what a place has -/
end

theorem mapM_view {st : Bool} {h : List AO} {n : Nat} : ∀ {c : List AV}, (∀ x ∈ c, view st h n x = some x) → c.mapM (view st h n) = some c
  | [], _ => rfl
  | a :: c, hc => by
    simp only [List.mapM_cons, hc a (by simp), mapM_view (c := c) (fun x hx => hc x (by simp [hx])), Option.bind_eq_bind, Option.bind_some, Option.pure_def]
theorem flat_view {α : Type} {enc : α → List AV} {st : Bool} {h : List AO} {n : Nat} (hi : ∀ a, ∀ x ∈ enc a, ∃ k i, x = .int k i) (l : List α) : (l.flatMap enc).mapM (view st h n) = some (l.flatMap enc) :=
  mapM_view fun x hx => by
    obtain ⟨a, _, hx⟩ := List.mem_flatMap.1 hx
    obtain ⟨k, i, rfl⟩ := hi a x hx
    exact view_int
theorem flat_take {α : Type} {enc : α → List AV} {l : List α} {k : Nat} (he : ∀ a, (enc a).length = k) : (l.flatMap enc).take (l.length * k) = l.flatMap enc := List.take_of_length_le (by rw [flat_len he]; omega)
theorem flat1 (l : List Int) : (l.flatMap fun n => [I n]).length = l.length := by
  have := flat_len (enc := fun n : Int => [I n]) (esz := 1) (fun _ => rfl) l
  omega
theorem intIv (n : Int) : ∀ x ∈ intL n, ∃ k i, x = .int k i := by simp
/-- a list of numbers that lies in the heap -/
def RdS (h : List AO) (v : AV) (l : List Int) : Prop := (l = [] ∧ v = .nils) ∨ (l ≠ [] ∧ ∃ o sh, v = .ms 1 o 0 l.length ∧ h[o]? = some (.cells (l.flatMap fun n => [I n]) sh))
/-- one heap came out of another: what was there is as it was -/
structure Fr (h h' : List AO) : Prop where
  l : h.length ≤ h'.length
  k : ∀ j, j < h.length → h'[j]? = h[j]?
theorem Fr.refl (h : List AO) : Fr h h := ⟨Nat.le_refl _, fun _ _ => rfl⟩
theorem Fr.trans {a b c : List AO} (h : Fr a b) (h' : Fr b c) : Fr a c := ⟨Nat.le_trans h.l h'.l, fun j hj => (h'.k j (Nat.lt_of_lt_of_le hj h.l)).trans (h.k j hj)⟩
theorem Fr.app (h J : List AO) : Fr h (h ++ J) := ⟨by simp, fun j hj => List.getElem?_append_left hj⟩
theorem Fr.at {h h' : List AO} (F : Fr h h') {j : Nat} {x : AO} (hx : h[j]? = some x) : h'[j]? = some x := by rw [F.k j (List.getElem?_eq_some_iff.1 hx).1]; exact hx
theorem RdS.fr {h h' : List AO} {v : AV} {l : List Int} (H : RdS h v l) (F : Fr h h') : RdS h' v l := by
  rcases H with h1 | ⟨hne, o, sh, rfl, hc⟩
  · exact .inl h1
  · exact .inr ⟨hne, o, sh, rfl, F.at hc⟩
theorem RdS.len {h : List AO} {v : AV} {l : List Int} (H : RdS h v l) : lenV v = some (I l.length) ∧ v.cells = [v] ∧ v.scalar = true := by
  rcases H with ⟨rfl, rfl⟩ | ⟨hne, o, sh, rfl, hc⟩ <;> exact ⟨rfl, rfl, rfl⟩
theorem RdS.row {h : List AO} {v : AV} {l : List Int} (H : RdS h v l) : lenOf v = some l.length ∧ Am.rowOf h v = some (l.flatMap fun n => [I n]) := by
  rcases H with ⟨rfl, rfl⟩ | ⟨hne, o, sh, rfl, hc⟩
  · exact ⟨rfl, rfl⟩
  · refine ⟨rfl, ?_⟩
    have e : (l.flatMap fun n => [I n]).take (l.length * 1) = l.flatMap fun n => [I n] := List.take_of_length_le (by rw [flat1]; omega)
    rw [Nat.mul_one] at e
    simp only [rowOf_ms, Am.rowAt, hc, Option.bind_some, AO.row?, List.drop_zero, Nat.mul_one, e, flat1, if_true]
theorem RdS.view {h : List AO} {v : AV} {l : List Int} (H : RdS h v l) {st : Bool} {k : Nat} : Am.view st h (k + 1) v = some (resL l) := by
  have hr := H.row.2
  rcases H with ⟨rfl, rfl⟩ | ⟨hne, o, sh, rfl, hc⟩
  · rfl
  · rw [view_ms, hr]
    simp only [flat_view (enc := fun n : Int => [I n]) (fun a x hx => ⟨_, _, by simpa using hx⟩), Option.map_some, resL, hne, if_false, slV]
theorem flat_sc (l : List Int) : (l.flatMap fun n => [I n]).all AV.scalar = true := scal_sl (fun _ => rfl) l
section
variable {α : Type} {l m : List α} {j : Nat} {x : α}
theorem setT : (l ++ m).set (l.length + j) x = l ++ m.set j x := by rw [List.set_append_right _ _ (by omega), Nat.add_sub_cancel_left]
theorem setT0 : (l ++ m).set l.length x = l ++ m.set 0 x := setT (j := 0)
theorem getT : (l ++ m).getD (l.length + j) x = m.getD j x := by simp [List.getD_eq_getElem?_getD, List.getElem?_append_right]
theorem getT0 : (l ++ m).getD l.length x = m.getD 0 x := getT (j := 0)
theorem atT : (l ++ m)[l.length + j]? = m[j]? := by rw [List.getElem?_append_right (by omega), Nat.add_sub_cancel_left]
theorem atT0 : (l ++ m)[l.length]? = m[0]? := atT (j := 0)
end

/-! a list of lists that is being made -/
def OutLL (b : Nat) (h : List AO) (v : AV) (L : List (List Int)) : Prop := (L = [] ∧ v = .nils) ∨ (L ≠ [] ∧ ∃ o vs, b ≤ o ∧ v = .ms 1 o 0 L.length ∧ h[o]? = some (.cells vs false) ∧ vs.length = L.length ∧ ∀ i, i < L.length → RdS h (vs.getD i .undef) (L.getD i []))
theorem OutLL.fr {b : Nat} {h h' : List AO} {v : AV} {L : List (List Int)} (H : OutLL b h v L) (F : Fr h h') : OutLL b h' v L := by
  rcases H with h1 | ⟨hne, o, vs, ho, rfl, hc, hl, hr⟩
  · exact .inl h1
  · exact .inr ⟨hne, o, vs, ho, rfl, F.at hc, hl, fun i hi => (hr i hi).fr F⟩
theorem OutLL.len {b : Nat} {h : List AO} {v : AV} {L : List (List Int)} (H : OutLL b h v L) : lenV v = some (I L.length) := by
  rcases H with ⟨rfl, rfl⟩ | ⟨hne, o, vs, ho, rfl, hc, hl, hr⟩ <;> rfl
/-! appends in a region of open order -/
theorem OutLL.deep {b b' : Nat} {h : List AO} {v : AV} {L : List (List Int)} (H : OutLL b h v L) (hb : b' ≤ b) : OutLL b' h v L := by
  rcases H with h1 | ⟨hne, o, vs, ho, rfl, hc, hl, hr⟩
  · exact .inl h1
  · exact .inr ⟨hne, o, vs, by omega, rfl, hc, hl, hr⟩
theorem at_ap {α : Type} {l m : List α} {k : Nat} (h : k < l.length) : (l ++ m)[k]? = l[k]? := List.getElem?_append_left h
theorem mapM_pt {α β : Type} {f : AV → Option β} {g : α → β} {d : AV} {e : α} : ∀ {vs : List AV} {L : List α}, vs.length = L.length → (∀ i, i < L.length → f (vs.getD i d) = some (g (L.getD i e))) → vs.mapM f = some (L.map g)
  | [], [], _, _ => rfl
  | v :: vs, a :: L, hl, h => by
    have h0 := h 0 (by simp)
    have ih := mapM_pt (f := f) (g := g) (d := d) (e := e) (vs := vs) (L := L) (by simpa using hl) (fun i hi => h (i + 1) (by simpa using hi))
    simp only [get0] at h0
    simp only [List.mapM_cons, h0, ih, Option.bind_eq_bind, Option.bind_some, Option.pure_def, List.map_cons]
  | [], _ :: _, hl, _ => by simp at hl
  | _ :: _, [], hl, _ => by simp at hl
def resE (l : List Int) : List AV := [resL l]
theorem resE_len (l : List Int) : (resE l).length = 1 := rfl
theorem resE_map : ∀ L : List (List Int), L.map resL = L.flatMap resE
  | [] => rfl
  | a :: l => by simp only [List.map_cons, List.flatMap_cons, resE_map l]; rfl
/-- a list of lists, as a value -/
def resLL (L : List (List Int)) : AV := if L = [] then .nils else slV 1 resE L
theorem resLL_is (L : List (List Int)) : IsSl 1 resE L (resLL L) := by
  unfold resLL; split
  · exact .inr ⟨rfl, by assumption⟩
  · exact slV_is
theorem OutLL.view {b k : Nat} {h : List AO} {v : AV} {L : List (List Int)} (H : OutLL b h v L) (st : Bool) : Am.view st h (k + 2) v = some (resLL L) := by
  rcases H with ⟨rfl, rfl⟩ | ⟨hne, o, vs, _, rfl, hc, hl, hrd⟩
  · rfl
  have e1 : vs.mapM (Am.view st h (k + 1)) = some (L.map resL) := mapM_pt (d := .undef) (e := []) hl fun i hi => (hrd i hi).view
  rw [resE_map] at e1
  rw [resLL, if_neg hne]
  simp only [view_ms, rowOf_ms, Am.rowAt, hc, Option.bind_some, AO.row?, List.drop_zero, Nat.mul_one, ← hl, List.take_length, if_true]
  rw [e1, hl]
  rfl
/-- a list that is being made, of whatever -/
def OutE {α : Type} (enc : α → List AV) (esz b : Nat) (h : List AO) (v : AV) (l : List α) : Prop := (l = [] ∧ v = .nils) ∨ (l ≠ [] ∧ ∃ o, b ≤ o ∧ v = .ms esz o 0 l.length ∧ h[o]? = some (.cells (l.flatMap enc) false))
theorem outE_app {α : Type} {enc : α → List AV} {esz eb : Nat} (he : ∀ a, (enc a).length = esz) (hs : ∀ a, (enc a).all AV.scalar = true) (h1 : 1 ≤ esz) (heb : 1 ≤ eb) (hb : eb ≤ 1000) {pre J : List AO} {v : AV} {l : List α} {lim : Nat} (H : OutE enc esz pre.length (pre ++ J) v l) (hlim : lim ≤ pre.length) (hl : l.length ≤ 1000000) (x : α) :
    ∃ v' J', appV lim (pre ++ J) esz eb v (.cs esz 1 (enc x)) = some (v', pre ++ J') ∧ OutE enc esz pre.length (pre ++ J') v' (l ++ [x]) := by
  have hx : (enc x).length = 1 * esz := by rw [he]; omega
  rcases H with ⟨rfl, rfl⟩ | ⟨hne, o, ho, rfl, hc⟩
  · refine ⟨_, J ++ [AO.cells (enc x) false], ?_, .inr ⟨by simp, (pre ++ J).length, by simp, rfl, ?_⟩⟩
    · rw [appV_nil (n := 1) (xs := enc x) rfl rfl hx (hs x) (by omega) heb, if_neg (by omega)]
      simp
    · simp only [← List.append_assoc, List.nil_append, List.flatMap_cons, List.flatMap_nil, List.append_nil]
      exact atE
  · have ho' : o < (pre ++ J).length := (List.getElem?_eq_some_iff.1 hc).1
    refine ⟨_, J.set (o - pre.length) .tomb ++ [AO.cells ((l ++ [x]).flatMap enc) false], ?_, .inr ⟨by simp, (pre ++ J).length, by simp, rfl, ?_⟩⟩
    · have hbb : (l.length + 1) * eb ≤ 140737488355328 := by
        have := Nat.mul_le_mul (show l.length + 1 ≤ 1000001 by omega) hb
        omega
      rw [appV_ms (n := 1) (xs := enc x) (c := l.flatMap enc) (sh := false) hc (by rw [flat_len he]) rfl rfl hx (hs x) hbb heb (by omega), if_neg (by omega)]
      rw [List.set_append_right _ _ ho]
      simp
    · have e : (pre ++ J).length = (pre ++ J.set (o - pre.length) .tomb).length := by simp
      rw [e, ← List.append_assoc]
      exact atE
theorem outE_view {α : Type} {enc : α → List AV} {esz b : Nat} {h : List AO} {v : AV} {l : List α} (he : ∀ a, (enc a).length = esz) (H : OutE enc esz b h v l) (hne : l ≠ []) {st : Bool} {k : Nat} (hvw : ∀ a, (enc a).mapM (view st h k) = some (enc a)) : view st h (k + 1) v = some (slV esz enc l) := by
  rcases H with ⟨e, _⟩ | ⟨_, o, ho, rfl, hc⟩
  · exact absurd e hne
  · have e := flat_take (l := l) he
    have e2 : (l.flatMap enc).mapM (view st h k) = some (l.flatMap enc) := by
      apply mapM_view
      intro x hx
      obtain ⟨a, _, hx⟩ := List.mem_flatMap.1 hx
      exact mapM_fix (hvw a) x hx
    simp only [view_ms, rowOf_ms, Am.rowAt, hc, Option.bind_some, AO.row?, List.drop_zero, e, flat_len he, if_true, e2]
    rfl
where
  mapM_fix {f : AV → Option AV} : ∀ {c : List AV}, c.mapM f = some c → ∀ x ∈ c, f x = some x
    | [], _, x, hx => by simp at hx
    | a :: c, h, x, hx => by
      simp only [List.mapM_cons, Option.bind_eq_bind, Option.bind_eq_some_iff, Option.pure_def, Option.some.injEq, List.cons.injEq] at h
      obtain ⟨y, h1, ys, h2, rfl, rfl⟩ := h
      rcases List.mem_cons.1 hx with rfl | hx
      · exact h1
      · exact mapM_fix h2 x hx


theorem elem_ll {L : List (List Int)} {v : AV} (h : IsSl 1 resE L v) : ∀ i : Int, 0 ≤ i → i < L.length → elemAt 1 v (I i) = some (.cptr [resL (L.getD i.toNat [])]) := elem_sl resE_len h
theorem finC2 {lim i j s : Nat} {a : Bool} {P : AV → List AO → Prop} {ts : List AV} {h : List AO} : Done lim [.cell a s i, .tmp j] P .ret ⟨ts, h, []⟩ = ∃ v, getRes ts h (.cell a s i) = some v ∧ P (.tup [v, ts.getD j .undef]) h := by
  simp only [Done, finish, takeMarks, List.all_nil, if_true, List.mapM_cons, List.mapM_nil, Option.bind_eq_bind, Option.pure_def]
  cases getRes ts h (.cell a s i) <;> simp [getRes]
section
/-! Share, Load, Need -/
end

/-- a list that lies in the heap, in an object of its own -/
def RdC {α : Type} (enc : α → List AV) (esz : Nat) (h : List AO) (w : AV) (l : List α) : Prop := ∃ o, w = .ms esz o 0 l.length ∧ h[o]? = some (.cells (l.flatMap enc) false)
section
variable {α : Type} {enc : α → List AV} {esz eb : Nat} {l : List α}
theorem RdC.fr {h h' : List AO} {w : AV} (H : RdC enc esz h w l) (F : Fr h h') : RdC enc esz h' w l := by
  obtain ⟨o, e, hc⟩ := H; exact ⟨o, e, F.at hc⟩
theorem RdC.view {h : List AO} {w : AV} (H : RdC enc esz h w l) (he : ∀ a, (enc a).length = esz) (hi : ∀ a, ∀ x ∈ enc a, ∃ k i, x = .int k i) {st : Bool} {k : Nat} : Am.view st h (k + 1) w = some (slV esz enc l) := by
  obtain ⟨o, rfl, hc⟩ := H
  have e := flat_take (l := l) he
  simp only [view_ms, rowOf_ms, Am.rowAt, hc, Option.bind_some, AO.row?, List.drop_zero, e, flat_len he, if_true, flat_view hi]
  rfl
theorem RdC.sc {h : List AO} {w : AV} (H : RdC enc esz h w l) : w.cells = [w] ∧ w.scalar = true ∧ lenV w = some (I l.length) := by
  obtain ⟨o, rfl, hc⟩ := H; exact ⟨rfl, rfl, rfl⟩
end
theorem slice_in {l : List Int} {v : AV} (h : IsSl 1 intL l v) {i : Nat} (hi : i < l.length) : ∃ u, sliceV 1 v none (some (I i)) = some u ∧ IsSl 1 intL (l.take i) u := by
  rcases h with rfl | ⟨rfl, rfl⟩
  · refine ⟨_, ?_, slV_is⟩
    have h1 : (0 : Int) ≤ i ∧ (i : Int) ≤ l.length := by omega
    simp only [sliceV, sliceB, h1, and_self, if_true, Int.toNat_natCast, Nat.zero_mul, List.drop_zero, Nat.sub_zero, Nat.mul_one, slV, List.length_take, Nat.min_eq_left (Nat.le_of_lt hi)]
    congr 2
    clear h1
    induction l generalizing i with
    | nil => simp
    | cons a l ih =>
      cases i with
      | zero => simp
      | succ i => simp only [List.flatMap_cons, List.cons_append, List.nil_append, List.take_succ_cons, ih (by simpa using hi)]
  · simp at hi
theorem s87 {l : List Int} {v : AV} (V : IsSl 1 intL l v) (hl : l.length ≤ 1000) (n : Int) (st : Bool) : Iso E 87 [v, I n] st = some (Bo (decide (n ∈ l))) := by
  refine Iso_of (es _ _ _ _) e87 ?_
  simp only [f87]
  simp (disch := first | assumption | omega | (simp only [az]; done)) only [ru, eq_self, if_true, if_false, BEq.rfl, binI, AO.row?, splice, fillL, mmAll, loadV, storeV, zeros, Am.rowAt, Am.part, addOff, Nat.reduceAdd, Nat.reduceMul, Nat.reduceLeDiff, Nat.reduceSub, Nat.reduceLT, Int.reduceEq, Int.reduceLT, Int.reduceLE, Int.reduceGT, Int.reduceGE, Int.reduceAdd, Int.reduceSub, Int.reduceMul, Int.reduceNeg, Int.reduceToNat, reduceCtorEq, reduceIte]
  refine G_loop_ind (fun m ts h mk => ∃ i : Nat, i ≤ l.length ∧ m = l.length - i ∧ n ∉ l.take i ∧ ts.length = 18 ∧ ts.getD 0 .undef = v ∧ ts.getD 1 .undef = I n ∧ ts.getD 5 .undef = I i ∧ h = [] ∧ mk = []) ?_ _ _ _ _ ⟨0, Nat.zero_le _, rfl, by simp, rfl, rfl, rfl, rfl, rfl, rfl⟩
  rintro m ts h mk ih ⟨i, hi, rfl, hn, hl', q0, q1, q5, rfl, rfl⟩
  rw [lit_all hl']
  simp only [lit0, litS, Nat.reduceAdd, q0, q1, q5]
  simp (disch := first | assumption | omega | (simp only [az]; done)) only [ru, eq_self, if_true, if_false, BEq.rfl, binI, AO.row?, splice, fillL, mmAll, loadV, storeV, zeros, Am.rowAt, Am.part, addOff, Nat.reduceAdd, Nat.reduceMul, Nat.reduceLeDiff, Nat.reduceSub, Nat.reduceLT, Int.reduceEq, Int.reduceLT, Int.reduceLE, Int.reduceGT, Int.reduceGE, Int.reduceAdd, Int.reduceSub, Int.reduceMul, Int.reduceNeg, Int.reduceToNat, reduceCtorEq, reduceIte, lenV_sl V, elem_in V, view_sl V, scalar_sl V, cells_sl V, pure_sl V, Int.toNat_natCast]
  by_cases hlt : (i : Int) < l.length
  case pos =>
    have hi' : i < l.length := by omega
    obtain ⟨x, hx⟩ : ∃ x, x = l.getD i 0 := ⟨_, rfl⟩
    have hm : x ∈ l := by rw [hx]; exact getD_memI hi'
    by_cases hc : x = n
    · have hd : n ∈ l := hc ▸ hm
      simp (disch := first | assumption | omega | (simp only [az]; done)) only [ru, eq_self, if_true, if_false, BEq.rfl, binI, AO.row?, splice, fillL, mmAll, loadV, storeV, zeros, Am.rowAt, Am.part, addOff, Nat.reduceAdd, Nat.reduceMul, Nat.reduceLeDiff, Nat.reduceSub, Nat.reduceLT, Int.reduceEq, Int.reduceLT, Int.reduceLE, Int.reduceGT, Int.reduceGE, Int.reduceAdd, Int.reduceSub, Int.reduceMul, Int.reduceNeg, Int.reduceToNat, reduceCtorEq, reduceIte, lenV_sl V, elem_in V, view_sl V, scalar_sl V, cells_sl V, pure_sl V, Int.toNat_natCast, hlt, ← hx, hc, hd, decide_true]
    · simp (disch := first | assumption | omega | (simp only [az]; done)) only [ru, eq_self, if_true, if_false, BEq.rfl, binI, AO.row?, splice, fillL, mmAll, loadV, storeV, zeros, Am.rowAt, Am.part, addOff, Nat.reduceAdd, Nat.reduceMul, Nat.reduceLeDiff, Nat.reduceSub, Nat.reduceLT, Int.reduceEq, Int.reduceLT, Int.reduceLE, Int.reduceGT, Int.reduceGE, Int.reduceAdd, Int.reduceSub, Int.reduceMul, Int.reduceNeg, Int.reduceToNat, reduceCtorEq, reduceIte, lenV_sl V, elem_in V, view_sl V, scalar_sl V, cells_sl V, pure_sl V, Int.toNat_natCast, hlt, ← hx, hc, decide_false]
      refine ih (l.length - (i + 1)) _ _ _ (by omega) ⟨i + 1, by omega, rfl, ?_, rfl, rfl, rfl, rfl, rfl, rfl⟩
      rw [List.take_succ_eq_append_getElem hi', List.mem_append, List.mem_singleton]
      rintro (h | h)
      · exact hn h
      · rw [List.getD_eq_getElem?_getD, List.getElem?_eq_getElem hi', Option.getD_some] at hx
        exact hc (hx.trans h.symm)
  obtain rfl : i = l.length := by omega
  rw [List.take_length] at hn
  simp (disch := first | assumption | omega | (simp only [az]; done)) only [ru, eq_self, if_true, if_false, BEq.rfl, binI, AO.row?, splice, fillL, mmAll, loadV, storeV, zeros, Am.rowAt, Am.part, addOff, Nat.reduceAdd, Nat.reduceMul, Nat.reduceLeDiff, Nat.reduceSub, Nat.reduceLT, Int.reduceEq, Int.reduceLT, Int.reduceLE, Int.reduceGT, Int.reduceGE, Int.reduceAdd, Int.reduceSub, Int.reduceMul, Int.reduceNeg, Int.reduceToNat, reduceCtorEq, reduceIte, hlt, hn, decide_false]
theorem s134 {l : List Int} {v : AV} (V : IsSl 1 intL l v) (hl : l.length ≤ 1000) (n : Int) : ∃ k : Int, (∀ st, Iso E 134 [v, I n] st = some (I k)) ∧ decide (k ≥ 0) = decide (n ∈ l) := by
  refine (fun x => ?_ : (∃ r h', R E (.fn 134) [v, I n] [] 0 = some (r, h') ∧ ∃ k : Int, r = I k ∧ decide (k ≥ 0) = decide (n ∈ l)) → _) (R_of _ (es _ _ _ _) e134 ?_)
  · obtain ⟨r, h', hr, k, rfl, hk⟩ := x
    exact ⟨k, fun st => by simp only [Iso, hr, view_int], hk⟩
  simp only [f134]
  simp (disch := first | assumption | omega | (simp only [az]; done)) only [ru, eq_self, if_true, if_false, BEq.rfl, binI, AO.row?, splice, fillL, mmAll, loadV, storeV, zeros, Am.rowAt, Am.part, addOff, Nat.reduceAdd, Nat.reduceMul, Nat.reduceLeDiff, Nat.reduceSub, Nat.reduceLT, Int.reduceEq, Int.reduceLT, Int.reduceLE, Int.reduceGT, Int.reduceGE, Int.reduceAdd, Int.reduceSub, Int.reduceMul, Int.reduceNeg, Int.reduceToNat, reduceCtorEq, reduceIte, lenV_sl V]
  refine G_loop_ind (fun m ts h mk => ∃ i : Nat, i ≤ l.length ∧ m = l.length - i ∧ n ∉ l.take i ∧ ts.length = 19 ∧ ts.getD 0 .undef = v ∧ ts.getD 1 .undef = I n ∧ ts.getD 7 .undef = I l.length ∧ ts.getD 8 .undef = I i ∧ h = [] ∧ mk = []) ?_ _ _ _ _ ⟨0, Nat.zero_le _, rfl, by simp, rfl, rfl, rfl, rfl, rfl, rfl, rfl⟩
  rintro m ts h mk ih ⟨i, hi, rfl, hn, hl', q0, q1, q7, q8, rfl, rfl⟩
  rw [lit_all hl']
  simp only [lit0, litS, Nat.reduceAdd, q0, q1, q7, q8]
  simp (disch := first | assumption | omega | (simp only [az]; done)) only [ru, eq_self, if_true, if_false, BEq.rfl, binI, AO.row?, splice, fillL, mmAll, loadV, storeV, zeros, Am.rowAt, Am.part, addOff, Nat.reduceAdd, Nat.reduceMul, Nat.reduceLeDiff, Nat.reduceSub, Nat.reduceLT, Int.reduceEq, Int.reduceLT, Int.reduceLE, Int.reduceGT, Int.reduceGE, Int.reduceAdd, Int.reduceSub, Int.reduceMul, Int.reduceNeg, Int.reduceToNat, reduceCtorEq, reduceIte]
  by_cases hlt : (i : Int) < l.length
  case pos =>
    have hi' : i < l.length := by omega
    obtain ⟨x, hx⟩ : ∃ x, x = l.getD i 0 := ⟨_, rfl⟩
    have hm : x ∈ l := by rw [hx]; exact getD_memI hi'
    by_cases hc : n = x
    · have hd : n ∈ l := hc ▸ hm
      simp (disch := first | assumption | omega | (simp only [az]; done)) only [ru, eq_self, if_true, if_false, BEq.rfl, binI, AO.row?, splice, fillL, mmAll, loadV, storeV, zeros, Am.rowAt, Am.part, addOff, Nat.reduceAdd, Nat.reduceMul, Nat.reduceLeDiff, Nat.reduceSub, Nat.reduceLT, Int.reduceEq, Int.reduceLT, Int.reduceLE, Int.reduceGT, Int.reduceGE, Int.reduceAdd, Int.reduceSub, Int.reduceMul, Int.reduceNeg, Int.reduceToNat, reduceCtorEq, reduceIte, lenV_sl V, elem_in V, view_sl V, scalar_sl V, cells_sl V, pure_sl V, Int.toNat_natCast, hlt, ← hx, ← hc, decide_true]
      exact ⟨i, rfl, by simp [hd]⟩
    · simp (disch := first | assumption | omega | (simp only [az]; done)) only [ru, eq_self, if_true, if_false, BEq.rfl, binI, AO.row?, splice, fillL, mmAll, loadV, storeV, zeros, Am.rowAt, Am.part, addOff, Nat.reduceAdd, Nat.reduceMul, Nat.reduceLeDiff, Nat.reduceSub, Nat.reduceLT, Int.reduceEq, Int.reduceLT, Int.reduceLE, Int.reduceGT, Int.reduceGE, Int.reduceAdd, Int.reduceSub, Int.reduceMul, Int.reduceNeg, Int.reduceToNat, reduceCtorEq, reduceIte, lenV_sl V, elem_in V, view_sl V, scalar_sl V, cells_sl V, pure_sl V, Int.toNat_natCast, hlt, ← hx, hc, decide_false]
      refine ih (l.length - (i + 1)) _ _ _ (by omega) ⟨i + 1, by omega, rfl, ?_, rfl, rfl, rfl, rfl, rfl, rfl, rfl⟩
      rw [List.take_succ_eq_append_getElem hi', List.mem_append, List.mem_singleton]
      rintro (h | h)
      · exact hn h
      · rw [List.getD_eq_getElem?_getD, List.getElem?_eq_getElem hi', Option.getD_some] at hx
        exact hc (h.trans hx.symm)
  obtain rfl : i = l.length := by omega
  rw [List.take_length] at hn
  simp (disch := first | assumption | omega | (simp only [az]; done)) only [ru, eq_self, if_true, if_false, BEq.rfl, binI, AO.row?, splice, fillL, mmAll, loadV, storeV, zeros, Am.rowAt, Am.part, addOff, Nat.reduceAdd, Nat.reduceMul, Nat.reduceLeDiff, Nat.reduceSub, Nat.reduceLT, Int.reduceEq, Int.reduceLT, Int.reduceLE, Int.reduceGT, Int.reduceGE, Int.reduceAdd, Int.reduceSub, Int.reduceMul, Int.reduceNeg, Int.reduceToNat, reduceCtorEq, reduceIte, hlt]
  exact ⟨-1, rfl, by simp [hn]⟩
theorem s113 {l : List Int} {v : AV} (V : IsSl 1 intL l v) (hl : l.length ≤ 1000) (n : Int) (st : Bool) : Iso E 113 [v, I n] st = some (Bo (decide (n ∈ l))) := by
  obtain ⟨k, hr', hk⟩ := s134 V hl n
  refine Iso_of (es _ _ _ _) e113 ?_
  simp only [f113]
  simp (disch := first | assumption | omega | (simp only [az]; done)) only [ru, eq_self, if_true, if_false, BEq.rfl, binI, AO.row?, splice, fillL, mmAll, loadV, storeV, zeros, Am.rowAt, Am.part, addOff, Nat.reduceAdd, Nat.reduceMul, Nat.reduceLeDiff, Nat.reduceSub, Nat.reduceLT, Int.reduceEq, Int.reduceLT, Int.reduceLE, Int.reduceGT, Int.reduceGE, Int.reduceAdd, Int.reduceSub, Int.reduceMul, Int.reduceNeg, Int.reduceToNat, reduceCtorEq, reduceIte, lenV_sl V, elem_in V, view_sl V, scalar_sl V, cells_sl V, pure_sl V, Int.toNat_natCast, hr']
  rw [hk]

section
/-! of a crew -/
end

theorem OutE.viewL {b : Nat} {h : List AO} {v : AV} {l : List Int} (H : OutE intL 1 b h v l) {st : Bool} {k : Nat} : Am.view st h (k + 1) v = some (resL l) := by
  by_cases hne : l = []
  · subst hne
    rcases H with ⟨_, rfl⟩ | ⟨h, _⟩
    · rfl
    · exact absurd rfl h
  · rw [resL, if_neg hne]
    exact outE_view intE H hne fun a => by
      show [I a].mapM _ = _
      rw [List.mapM_cons, view_int]; rfl
theorem rmap_at {f : Nat → Int} {n i : Nat} (h : i < n) : ((List.range n).map f).getD i 0 = f i := by
  simp [List.getD_eq_getElem?_getD, h]
/-! the program's -/
/-- what lies behind a place is as it was -/
structure Fk (b : Nat) (h h' : List AO) : Prop where
  l : h.length ≤ h'.length
  k : ∀ j, b ≤ j → j < h.length → h'[j]? = h[j]?
theorem Fk.refl (b : Nat) (h : List AO) : Fk b h h := ⟨Nat.le_refl _, fun _ _ _ => rfl⟩
theorem Fk.trans {n : Nat} {a b c : List AO} (h : Fk n a b) (h' : Fk n b c) : Fk n a c := ⟨Nat.le_trans h.l h'.l, fun j hn hj => (h'.k j hn (Nat.lt_of_lt_of_le hj h.l)).trans (h.k j hn hj)⟩
theorem Fk.of {b : Nat} {h h' : List AO} (F : Fr h h') : Fk b h h' := ⟨F.l, fun j _ hj => F.k j hj⟩
theorem Fk.at {b : Nat} {h h' : List AO} (F : Fk b h h') {j : Nat} (hb : b ≤ j) {x : AO} (hx : h[j]? = some x) : h'[j]? = some x := by rw [F.k j hb (List.getElem?_eq_some_iff.1 hx).1]; exact hx
def RdB (b : Nat) (h : List AO) (v : AV) (l : List Int) : Prop := (l = [] ∧ v = .nils) ∨ (l ≠ [] ∧ ∃ o sh, b ≤ o ∧ v = .ms 1 o 0 l.length ∧ h[o]? = some (.cells (l.flatMap fun n => [I n]) sh))
theorem RdB.s {b : Nat} {h : List AO} {v : AV} {l : List Int} (H : RdB b h v l) : RdS h v l := by
  rcases H with h1 | ⟨hne, o, sh, _, e, hc⟩
  · exact .inl h1
  · exact .inr ⟨hne, o, sh, e, hc⟩
theorem RdB.fk {b : Nat} {h h' : List AO} {v : AV} {l : List Int} (H : RdB b h v l) (F : Fk b h h') : RdB b h' v l := by
  rcases H with h1 | ⟨hne, o, sh, hb, e, hc⟩
  · exact .inl h1
  · exact .inr ⟨hne, o, sh, hb, e, F.at hb hc⟩
theorem flat_head {F : List Int} {i : Nat} (hi : i < F.length) : ((F.flatMap fun n => [I n]).drop i).head? = some (I (F.getD i 0)) := by
  induction F generalizing i with
  | nil => simp at hi
  | cons a F ih =>
    cases i with
    | zero => rfl
    | succ i => simpa using ih (i := i) (by simpa using hi)
theorem RdB.elem {b : Nat} {h : List AO} {v : AV} {l : List Int} (H : RdB b h v l) {i : Nat} (hi : i < l.length) : ∃ o, v = .ms 1 o 0 l.length ∧ ∃ c sh, h[o]? = some (.cells c sh) ∧ (c.drop (i * 1)).head? = some (I (l.getD i 0)) := by
  rcases H with ⟨rfl, _⟩ | ⟨hne, o, sh, hb, rfl, hc⟩
  · simp at hi
  · exact ⟨o, rfl, _, sh, hc, by rw [Nat.mul_one]; exact flat_head hi⟩


/-! the cheapest crew -/

theorem take_snoc {α : Type} {l : List α} {i : Nat} {d : α} (h : i < l.length) : l.take (i + 1) = l.take i ++ [l.getD i d] := by
  rw [List.take_succ_eq_append_getElem h, List.getD_eq_getElem?_getD, List.getElem?_eq_getElem h]; rfl

section
end

/-- a copy of a list that lies in the heap -/
theorem cpyR {h : List AO} {fv : AV} {F : List Int} {lim : Nat} (hF : RdS h fv F) (hb : F.length ≤ 1000) (hlim : lim ≤ h.length) :
    ∃ w h', appV lim (h ++ [.cells [] false]) 1 8 (.ms 1 h.length 0 0) fv = some (w, h') ∧ Fr h h' ∧ h.length < h'.length ∧ ∃ o, h.length ≤ o ∧ w = .ms 1 o 0 F.length ∧ h'[o]? = some (.cells (F.flatMap intL) false) := by
  have hr := (hF.fr (Fr.app h [.cells [] false])).row
  rw [appV_ms (n := F.length) (c := []) atE (by simp) hr.1 hr.2 (by rw [flat1]; omega) (flat_sc F) (by omega) (by omega) hlim]
  by_cases hz : F.length = 0
  · rw [if_pos hz]
    refine ⟨_, _, rfl, Fr.app _ _, by simp, h.length, Nat.le_refl _, by rw [hz], ?_⟩
    rw [List.eq_nil_of_length_eq_zero hz]; exact atE
  · rw [if_neg hz]
    refine ⟨_, _, rfl, ⟨by simp, fun j hj => ?_⟩, by simp, (h ++ [AO.cells [] false]).length, by simp, by rw [Nat.zero_add], ?_⟩
    · rw [List.getElem?_append_left (by simp; omega), List.getElem?_set_ne (by omega), List.getElem?_append_left hj]
    · rw [List.getElem?_append_right (by simp)]; simp
/-- lists behind lists -/
theorem app_llV {lim b : Nat} {h : List AO} {v x : AV} {L M : List (List Int)} (hL : OutLL b h v L) (hM : OutLL b h x M) (hb : b ≤ h.length) (hlim : lim ≤ b) (hlen : L.length + M.length ≤ 100000) :
    ∃ v' h', appV lim h 1 24 v x = some (v', h') ∧ h.length ≤ h'.length ∧ (∀ j, j < b → h'[j]? = h[j]?) ∧ OutLL b h' v' (L ++ M) := by
  have hsc : ∀ {vs : List AV} {K : List (List Int)}, vs.length = K.length → (∀ i, i < K.length → RdS h (vs.getD i .undef) (K.getD i [])) → vs.all AV.scalar = true := by
    intro vs K hl hr
    rw [List.all_eq_true]
    intro y hy
    obtain ⟨i, hi, rfl⟩ := List.mem_iff_getElem.1 hy
    have := (hr i (by omega)).len.2.2
    simpa [List.getD_eq_getElem?_getD, hi] using this
  rcases hM with ⟨rfl, rfl⟩ | ⟨hMn, o2, vs2, ho2, rfl, hc2, hl2, hr2⟩
  · refine ⟨v, h, ?_, Nat.le_refl _, fun _ _ => rfl, by simpa using hL⟩
    rcases hL with ⟨rfl, rfl⟩ | ⟨_, o, vs, _, rfl, _⟩
    · rfl
    · simp only [appV, lenOf_ms, lenOf_nils, rowOf_nils, List.length_nil, Nat.zero_mul, if_true]
  have hn : M.length ≠ 0 := fun e => hMn (List.eq_nil_of_length_eq_zero e)
  have hrow : Am.rowOf h (.ms 1 o2 0 M.length) = some vs2 := by
    simp only [rowOf_ms, Am.rowAt, hc2, Option.bind_some, AO.row?, List.drop_zero, Nat.mul_one, ← hl2, List.take_length, if_true]
  rcases hL with ⟨rfl, rfl⟩ | ⟨hne, o, vs, ho, rfl, hc, hl, hr⟩
  · refine ⟨_, _, by rw [appV_nil (n := M.length) rfl hrow (by omega) (hsc hl2 hr2) (by simp at hlen; omega) (by omega), if_neg hn], by simp, fun j hj => List.getElem?_append_left (by omega), .inr ⟨by simpa using hMn, h.length, vs2, hb, by simp, atE, by simpa using hl2, fun i hi => ?_⟩⟩
    simp only [List.nil_append] at hi ⊢
    exact (hr2 i hi).fr (Fr.app _ _)
  · have hnL : L.length ≠ 0 := fun e => hne (List.eq_nil_of_length_eq_zero e)
    have hz : ∃ z, vs.head? = some z ∧ ∀ i, z ≠ I i := by
      match vs, hl with
      | [], hl => simp at hl; omega
      | z :: vs, hl =>
        refine ⟨z, rfl, fun i e => ?_⟩
        have := hr 0 (by omega)
        simp only [get0] at this
        subst e
        rcases this with ⟨_, h⟩ | ⟨_, _, _, h, _⟩ <;> cases h
    obtain ⟨z, hz1, hz2⟩ := hz
    have ol := (List.getElem?_eq_some_iff.1 hc).1
    have k2 : ∀ {u : AV} {l : List Int}, RdS h u l → RdS (h.set o .tomb ++ [.cells (vs ++ vs2) false]) u l := by
      intro u l hu
      rcases hu with h1 | ⟨hne', o', sh, rfl, hc'⟩
      · exact .inl h1
      · refine .inr ⟨hne', o', sh, rfl, ?_⟩
        have ol' := (List.getElem?_eq_some_iff.1 hc').1
        have hoo : o ≠ o' := by
          rintro rfl
          rw [hc] at hc'
          simp only [Option.some.injEq, AO.cells.injEq] at hc'
          obtain ⟨rfl, _⟩ := hc'
          match l, hne' with
          | i :: l, _ => simp at hz1; exact hz2 i hz1.symm
        rw [List.getElem?_append_left (by simpa using ol'), List.getElem?_set_ne hoo, hc']
    refine ⟨_, _, by rw [appV_ms (c := vs) (n := M.length) hc (by omega) rfl hrow (by omega) (hsc hl2 hr2) (by omega) (by omega) (by omega), if_neg hn], by simp, fun j hj => by rw [List.getElem?_append_left (by simp; omega), List.getElem?_set_ne (by omega)],
      .inr ⟨by simp [hne], h.length, vs ++ vs2, hb, by simp, by rw [List.getElem?_append_right (by simp)]; simp, by simp [hl, hl2], fun i hi => ?_⟩⟩
    simp only [List.getD_eq_getElem?_getD]
    by_cases h1 : i < L.length
    · rw [List.getElem?_append_left (by omega), List.getElem?_append_left h1, ← List.getD_eq_getElem?_getD, ← List.getD_eq_getElem?_getD]
      exact k2 (hr i h1)
    · rw [List.getElem?_append_right (by omega), List.getElem?_append_right (by omega), ← List.getD_eq_getElem?_getD, ← List.getD_eq_getElem?_getD, hl]
      exact k2 (hr2 (i - L.length) (by simp at hi; omega))
/-! calls that lay what they make behind the caller's heap -/
noncomputable def C2 (E : Env) (f : Nat) (ws : List AV) (h : List AO) : Option (AV × List AO) :=
  if AV.pureV.go ws then (match R E (.fn f) ws [] 0 with
    | some (r, h') => some (r.shift h.length, h ++ h'.map (AO.shift h.length))
    | none => none)
  else (match ws.mapM (view false h 8) with
    | some vs => (match R E (.fn f) vs [] 0 with
      | some (r, h') => (view true h' 8 r).map fun r' => (r', h)
      | none => none)
    | none => none)
theorem exOp_call2 {E : Env} {lim : Nat} {pl : Option Nat} {ρ : Opd → AV} {h : List AO} {f : Nat} {args : List Opd} : exOp (R E) lim pl ρ h (.call 2 f args) = C2 E f (args.map ρ) h := by
  simp only [exOp, C2]
  rfl
theorem C2_of {f : Nat} {ws : List AV} {r : AV} {J h : List AO} (hp : AV.pureV.go ws = true) (hr : R E (.fn f) ws [] 0 = some (r, J)) : C2 E f ws h = some (r.shift h.length, h ++ J.map (AO.shift h.length)) := by
  simp only [C2, hp, hr, if_true]
theorem ints_shift (l : List Int) (n : Nat) : (l.flatMap intL).map (AV.shift n) = l.flatMap intL := by
  induction l with
  | nil => rfl
  | cons a l ih => simp only [List.flatMap_cons, List.map_append, ih]; rfl
/-! a copy of a sea -/
theorem cpyO {α : Type} {enc : α → List AV} {esz eb : Nat} {l : List α} {v : AV} {h : List AO} {lim : Nat} (hv : IsSl esz enc l v) (he : ∀ a, (enc a).length = esz) (hs : ∀ a, (enc a).all AV.scalar = true) (hb : l.length * eb ≤ 140737488355328) (heb : 1 ≤ eb) (hlim : lim ≤ h.length) :
    ∃ o h', appV lim (h ++ [.cells [] false]) esz eb (.ms esz h.length 0 0) v = some (.ms esz o 0 l.length, h') ∧ Fr h h' ∧ h.length ≤ o ∧ h'[o]? = some (.cells (l.flatMap enc) false) := by
  rw [appV_new hv he hs hb heb _ _ _ atE hlim]
  by_cases hz : l.length = 0
  · rw [if_pos hz]
    refine ⟨h.length, _, by rw [hz], Fr.app _ _, Nat.le_refl _, ?_⟩
    rw [List.eq_nil_of_length_eq_zero hz]; exact atE
  · rw [if_neg hz]
    refine ⟨(h ++ [AO.cells [] false]).length, _, rfl, ⟨by simp, fun j hj => ?_⟩, by simp, ?_⟩
    · rw [List.getElem?_append_left (by simp; omega), List.getElem?_set_ne (by omega), List.getElem?_append_left hj]
    · rw [List.getElem?_append_right (by simp)]; simp
theorem int_put {l : List Int} {i : Nat} (hi : i < l.length) (x : Int) : (l.flatMap intL).take i ++ [I x] ++ (l.flatMap intL).drop (i + 1) = (l.set i x).flatMap intL := by
  induction l generalizing i with
  | nil => simp at hi
  | cons a l ih =>
    cases i with
    | zero => rfl
    | succ i =>
      have := ih (i := i) (by simpa using hi)
      show I a :: ((l.flatMap intL).take i ++ [I x] ++ (l.flatMap intL).drop (i + 1)) = _
      rw [this]; rfl

end Go.Proofs.Yteonklnjchefiaa.S

/-
Tables as values, and the small functions of both sides.
-/
namespace Go.Proofs.Yteonklnjchefiaa.S
open Go Go.Am Go.Proofs.Yteonklnjchefiaa.T
set_option maxRecDepth 100000
set_option linter.unusedSimpArgs false
set_option linter.unusedVariables false

def Pt.e (x : Pt) : List AV := [I x.of, I x.w.lo, I x.w.hi, I x.s.lo, I x.s.hi, I x.p]
theorem Pt.el (x : Pt) : x.e.length = 6 := rfl
theorem Pt.sc (x : Pt) : x.e.all AV.scalar = true := rfl
theorem Pt.iv (x : Pt) : ∀ y ∈ x.e, ∃ k i, y = .int k i := by simp [Pt.e]
theorem elem_pt {l : List Pt} {v : AV} (h : IsSl 6 Pt.e l v) : ∀ i : Int, 0 ≤ i → i < l.length → elemAt 6 v (I i) = some (.cptr [I (l.getD i.toNat default).of, I (l.getD i.toNat default).w.lo, I (l.getD i.toNat default).w.hi, I (l.getD i.toNat default).s.lo, I (l.getD i.toNat default).s.hi, I (l.getD i.toNat default).p]) := elem_sl Pt.el h
structure TbOk (t : List Pt) (v : AV) : Prop where
  i : IsSl 6 Pt.e t v
  n : t.length ≤ 41

def spanOk (s : Spn) : Bool := inR s.hi 0 30 && inR s.lo 0 s.hi
theorem spanOk_iff {s : Spn} : spanOk s = true ↔ 0 ≤ s.lo ∧ s.lo ≤ s.hi ∧ s.hi ≤ 30 := by
  simp only [spanOk, Bool.and_eq_true, inR_iff]; omega
def pOk (i : Nat) (x : Pt) : Bool := inR x.of (-1) ((i : Int) - 1) && spanOk x.w && spanOk x.s && inR x.p 0 99
def tval (t : List Pt) : Bool := decide (t.length ≤ 8) && (List.range t.length).all fun i => pOk i (t.getD i default)
/-- what the program may work on: pence may be 100, too -/
structure TW (t : List Pt) : Prop extends TG t where
  w : ∀ i, i < t.length → 0 ≤ (t.getD i default).w.lo ∧ (t.getD i default).w.lo ≤ (t.getD i default).w.hi ∧ (t.getD i default).w.hi ≤ 30
  p : ∀ i, i < t.length → 0 ≤ (t.getD i default).p ∧ (t.getD i default).p ≤ 100
theorem tval_iff {t : List Pt} : tval t = true ↔ TW t ∧ ∀ i, i < t.length → (t.getD i default).p ≤ 99 := by
  simp only [tval, Bool.and_eq_true, decide_eq_true_eq, List.all_eq_true, List.mem_range, pOk, spanOk_iff, inR_iff]
  constructor
  · rintro ⟨h1, h2⟩
    exact ⟨⟨⟨h1, fun i hi => by have := h2 i hi; omega, fun i hi => (h2 i hi).1.2⟩, fun i hi => (h2 i hi).1.1.2, fun i hi => by have := h2 i hi; omega⟩, fun i hi => by have := h2 i hi; omega⟩
  · rintro ⟨T, h2⟩
    refine ⟨T.n, fun i hi => ?_⟩
    have := T.of i hi; have := T.s i hi; have := T.w i hi; have := T.p i hi; have := h2 i hi
    omega
theorem tval_W {t : List Pt} (h : tval t = true) : TW t := (tval_iff.1 h).1

theorem s76 (n lo hi : Int) (st : Bool) : Iso E 76 [I n, I lo, I hi] st = some (Bo (inR n lo hi)) := by
  refine Iso_of (es _ _ _ _) e76 ?_
  simp only [f76]
  simp (disch := first | assumption | omega | (simp only [az]; done)) only [ru, eq_self, if_true, if_false, BEq.rfl, binI, AO.row?, splice, fillL, mmAll, loadV, storeV, zeros, Am.rowAt, Am.part, addOff, Nat.reduceAdd, Nat.reduceMul, Nat.reduceLeDiff, Nat.reduceSub, Nat.reduceLT, Int.reduceEq, Int.reduceLT, Int.reduceLE, Int.reduceGT, Int.reduceGE, Int.reduceAdd, Int.reduceSub, Int.reduceMul, Int.reduceNeg, Int.reduceToNat, reduceCtorEq, reduceIte, s30]
theorem s106 (n lo hi : Int) (st : Bool) : Iso E 106 [.agg [I lo, I hi], I n] st = some (Bo (inR n lo hi)) := by
  refine Iso_of (es _ _ _ _) e106 ?_
  simp only [f106, inR]
  simp (disch := first | assumption | omega | (simp only [az]; done)) only [ru, eq_self, if_true, if_false, BEq.rfl, binI, AO.row?, splice, fillL, mmAll, loadV, storeV, zeros, Am.rowAt, Am.part, addOff, Nat.reduceAdd, Nat.reduceMul, Nat.reduceLeDiff, Nat.reduceSub, Nat.reduceLT, Int.reduceEq, Int.reduceLT, Int.reduceLE, Int.reduceGT, Int.reduceGE, Int.reduceAdd, Int.reduceSub, Int.reduceMul, Int.reduceNeg, Int.reduceToNat, reduceCtorEq, reduceIte]
  by_cases h1 : lo ≤ n
  · simp (disch := first | assumption | omega | (simp only [az]; done)) only [ru, eq_self, if_true, if_false, BEq.rfl, binI, AO.row?, splice, fillL, mmAll, loadV, storeV, zeros, Am.rowAt, Am.part, addOff, Nat.reduceAdd, Nat.reduceMul, Nat.reduceLeDiff, Nat.reduceSub, Nat.reduceLT, Int.reduceEq, Int.reduceLT, Int.reduceLE, Int.reduceGT, Int.reduceGE, Int.reduceAdd, Int.reduceSub, Int.reduceMul, Int.reduceNeg, Int.reduceToNat, reduceCtorEq, reduceIte, h1]
  · simp (disch := first | assumption | omega | (simp only [az]; done)) only [ru, eq_self, if_true, if_false, BEq.rfl, binI, AO.row?, splice, fillL, mmAll, loadV, storeV, zeros, Am.rowAt, Am.part, addOff, Nat.reduceAdd, Nat.reduceMul, Nat.reduceLeDiff, Nat.reduceSub, Nat.reduceLT, Int.reduceEq, Int.reduceLT, Int.reduceLE, Int.reduceGT, Int.reduceGE, Int.reduceAdd, Int.reduceSub, Int.reduceMul, Int.reduceNeg, Int.reduceToNat, reduceCtorEq, reduceIte, h1]
theorem s90 (lo hi : Int) (st : Bool) : Iso E 90 [.agg [I lo, I hi]] st = some (Bo (spanOk ⟨lo, hi⟩)) := by
  refine Iso_of (es _ _ _ _) e90 ?_
  simp only [f90, spanOk]
  cases h1 : inR hi 0 30 <;> simp (disch := first | assumption | omega | (simp only [az]; done)) only [ru, eq_self, if_true, if_false, BEq.rfl, binI, AO.row?, splice, fillL, mmAll, loadV, storeV, zeros, Am.rowAt, Am.part, addOff, Nat.reduceAdd, Nat.reduceMul, Nat.reduceLeDiff, Nat.reduceSub, Nat.reduceLT, Int.reduceEq, Int.reduceLT, Int.reduceLE, Int.reduceGT, Int.reduceGE, Int.reduceAdd, Int.reduceSub, Int.reduceMul, Int.reduceNeg, Int.reduceToNat, reduceCtorEq, reduceIte, s76, h1, gUn]
theorem s122 (lo hi : Int) (st : Bool) : Iso E 122 [.agg [I lo, I hi]] st = some (Bo (spanOk ⟨lo, hi⟩)) := by
  have e : spanOk ⟨lo, hi⟩ = (decide (0 ≤ lo) && decide (lo ≤ hi) && decide (hi ≤ 30)) := by
    rw [Bool.eq_iff_iff, spanOk_iff]; simp only [Bool.and_eq_true, decide_eq_true_eq]; omega
  rw [e]
  refine Iso_of (es _ _ _ _) e122 ?_
  simp only [f122]
  simp (disch := first | assumption | omega | (simp only [az]; done)) only [ru, eq_self, if_true, if_false, BEq.rfl, binI, AO.row?, splice, fillL, mmAll, loadV, storeV, zeros, Am.rowAt, Am.part, addOff, Nat.reduceAdd, Nat.reduceMul, Nat.reduceLeDiff, Nat.reduceSub, Nat.reduceLT, Int.reduceEq, Int.reduceLT, Int.reduceLE, Int.reduceGT, Int.reduceGE, Int.reduceAdd, Int.reduceSub, Int.reduceMul, Int.reduceNeg, Int.reduceToNat, reduceCtorEq, reduceIte]
  by_cases h1 : 0 ≤ lo <;> by_cases h2 : lo ≤ hi <;> simp (disch := first | assumption | omega | (simp only [az]; done)) only [ru, eq_self, if_true, if_false, BEq.rfl, binI, AO.row?, splice, fillL, mmAll, loadV, storeV, zeros, Am.rowAt, Am.part, addOff, Nat.reduceAdd, Nat.reduceMul, Nat.reduceLeDiff, Nat.reduceSub, Nat.reduceLT, Int.reduceEq, Int.reduceLT, Int.reduceLE, Int.reduceGT, Int.reduceGE, Int.reduceAdd, Int.reduceSub, Int.reduceMul, Int.reduceNeg, Int.reduceToNat, reduceCtorEq, reduceIte, h1, h2]
theorem s78 (n : Int) (st : Bool) : Iso E 78 [I n] st = some (Bo (decide (n < 549755813888))) := by
  refine Iso_of (es _ _ _ _) e78 ?_
  simp only [f78]
  simp (disch := first | assumption | omega | (simp only [az]; done)) only [ru, eq_self, if_true, if_false, BEq.rfl, binI, AO.row?, splice, fillL, mmAll, loadV, storeV, zeros, Am.rowAt, Am.part, addOff, Nat.reduceAdd, Nat.reduceMul, Nat.reduceLeDiff, Nat.reduceSub, Nat.reduceLT, Int.reduceEq, Int.reduceLT, Int.reduceLE, Int.reduceGT, Int.reduceGE, Int.reduceAdd, Int.reduceSub, Int.reduceMul, Int.reduceNeg, Int.reduceToNat, reduceCtorEq, reduceIte]
theorem s82 (lo hi w : Int) (h1 : 0 ≤ lo ∧ lo ≤ 30) (h2 : 0 ≤ hi ∧ hi ≤ 30) (h3 : 0 ≤ w ∧ w ≤ 30) (st : Bool) : Iso E 82 [.agg [I lo, I hi], I w] st = some (I (awy ⟨lo, hi⟩ w)) := by
  have e : awy ⟨lo, hi⟩ w = mmx true (mmx true 0 (lo - w)) (w - hi) := by
    simp only [awy, mx, mmx]; split <;> split <;> split <;> split <;> simp_all <;> omega
  rw [e]
  refine Iso_of (es _ _ _ _) e82 ?_
  simp only [f82]
  simp (disch := first | assumption | omega | (simp only [az]; done)) only [ru, eq_self, if_true, if_false, BEq.rfl, binI, AO.row?, splice, fillL, mmAll, loadV, storeV, zeros, Am.rowAt, Am.part, addOff, Nat.reduceAdd, Nat.reduceMul, Nat.reduceLeDiff, Nat.reduceSub, Nat.reduceLT, Int.reduceEq, Int.reduceLT, Int.reduceLE, Int.reduceGT, Int.reduceGE, Int.reduceAdd, Int.reduceSub, Int.reduceMul, Int.reduceNeg, Int.reduceToNat, reduceCtorEq, reduceIte]
theorem s128 (a b : Int) (h : a ≠ 9223372036854775807 → b ≠ 9223372036854775807 → -9223372036854775808 ≤ a + b ∧ a + b ≤ 9223372036854775807) (st : Bool) : Iso E 128 [I a, I b] st = some (I (if a = 9223372036854775807 ∨ b = 9223372036854775807 then 9223372036854775807 else a + b)) := by
  refine Iso_of (es _ _ _ _) e128 ?_
  simp only [f128]
  by_cases h1 : a = 9223372036854775807
  · rw [if_pos (.inl h1)]
    simp (disch := first | assumption | omega | (simp only [az]; done)) only [ru, eq_self, if_true, if_false, BEq.rfl, binI, AO.row?, splice, fillL, mmAll, loadV, storeV, zeros, Am.rowAt, Am.part, addOff, Nat.reduceAdd, Nat.reduceMul, Nat.reduceLeDiff, Nat.reduceSub, Nat.reduceLT, Int.reduceEq, Int.reduceLT, Int.reduceLE, Int.reduceGT, Int.reduceGE, Int.reduceAdd, Int.reduceSub, Int.reduceMul, Int.reduceNeg, Int.reduceToNat, reduceCtorEq, reduceIte, h1, gUn, decide_true]
  · by_cases h2 : b = 9223372036854775807
    · rw [if_pos (.inr h2)]
      simp (disch := first | assumption | omega | (simp only [az]; done)) only [ru, eq_self, if_true, if_false, BEq.rfl, binI, AO.row?, splice, fillL, mmAll, loadV, storeV, zeros, Am.rowAt, Am.part, addOff, Nat.reduceAdd, Nat.reduceMul, Nat.reduceLeDiff, Nat.reduceSub, Nat.reduceLT, Int.reduceEq, Int.reduceLT, Int.reduceLE, Int.reduceGT, Int.reduceGE, Int.reduceAdd, Int.reduceSub, Int.reduceMul, Int.reduceNeg, Int.reduceToNat, reduceCtorEq, reduceIte, h1, h2, gUn, decide_true, decide_false]
    · have := h h1 h2
      rw [if_neg (by simp [h1, h2])]
      simp (disch := first | assumption | omega | (simp only [az]; done)) only [ru, eq_self, if_true, if_false, BEq.rfl, binI, AO.row?, splice, fillL, mmAll, loadV, storeV, zeros, Am.rowAt, Am.part, addOff, Nat.reduceAdd, Nat.reduceMul, Nat.reduceLeDiff, Nat.reduceSub, Nat.reduceLT, Int.reduceEq, Int.reduceLT, Int.reduceLE, Int.reduceGT, Int.reduceGE, Int.reduceAdd, Int.reduceSub, Int.reduceMul, Int.reduceNeg, Int.reduceToNat, reduceCtorEq, reduceIte, h1, h2, gUn, decide_true, decide_false]

section
variable {t : List Pt} {v : AV}
theorem s31 (H : TbOk t v) (i : Int) (st : Bool) : Iso E 31 [v, I i] st = some (Bo (inR i 0 (t.length - 1))) := by
  have := H.n
  refine Iso_of (es _ _ _ _) e31 ?_
  simp only [f31]
  simp (disch := first | assumption | omega | (simp only [az]; done)) only [ru, eq_self, if_true, if_false, BEq.rfl, binI, AO.row?, splice, fillL, mmAll, loadV, storeV, zeros, Am.rowAt, Am.part, addOff, Nat.reduceAdd, Nat.reduceMul, Nat.reduceLeDiff, Nat.reduceSub, Nat.reduceLT, Int.reduceEq, Int.reduceLT, Int.reduceLE, Int.reduceGT, Int.reduceGE, Int.reduceAdd, Int.reduceSub, Int.reduceMul, Int.reduceNeg, Int.reduceToNat, reduceCtorEq, reduceIte, s76, lenV_sl H.i, elem_pt H.i, view_sl H.i, scalar_sl H.i, cells_sl H.i, pure_sl H.i, Int.toNat_natCast]
theorem s108 (H : TbOk t v) (i : Int) (st : Bool) : Iso E 108 [v, I i] st = some (Bo (inR i 0 (t.length - 1))) := by
  have := H.n
  have e : inR i 0 (t.length - 1) = (decide (0 ≤ i) && decide (i < t.length)) := by
    simp only [inR]; congr 1; rw [decide_eq_decide]; omega
  rw [e]
  refine Iso_of (es _ _ _ _) e108 ?_
  simp only [f108]
  by_cases h1 : 0 ≤ i <;> simp (disch := first | assumption | omega | (simp only [az]; done)) only [ru, eq_self, if_true, if_false, BEq.rfl, binI, AO.row?, splice, fillL, mmAll, loadV, storeV, zeros, Am.rowAt, Am.part, addOff, Nat.reduceAdd, Nat.reduceMul, Nat.reduceLeDiff, Nat.reduceSub, Nat.reduceLT, Int.reduceEq, Int.reduceLT, Int.reduceLE, Int.reduceGT, Int.reduceGE, Int.reduceAdd, Int.reduceSub, Int.reduceMul, Int.reduceNeg, Int.reduceToNat, reduceCtorEq, reduceIte, h1, lenV_sl H.i, elem_pt H.i, view_sl H.i, scalar_sl H.i, cells_sl H.i, pure_sl H.i, Int.toNat_natCast, gUn, decide_true, decide_false, Bool.true_and, Bool.false_and]
theorem s118 (H : TbOk t v) (T : TW t) {i : Nat} (hi : i < t.length) (w : Int) (h3 : 0 ≤ w ∧ w ≤ 30) (st : Bool) : Iso E 118 [v, I i, I w] st = some (I (awy (t.getD i default).w w)) := by
  have := T.w i hi
  have hlt : (i : Int) < t.length := by omega
  obtain ⟨x, hx⟩ : ∃ x, x = t.getD i default := ⟨_, rfl⟩
  rw [← hx] at this ⊢
  have e : awy x.w w = mmx true (mmx true (x.w.lo - w) (w - x.w.hi)) 0 := rfl
  rw [e]
  refine Iso_of (es _ _ _ _) e118 ?_
  simp only [f118]
  simp (disch := first | assumption | omega | (simp only [az]; done)) only [ru, eq_self, if_true, if_false, BEq.rfl, binI, AO.row?, splice, fillL, mmAll, loadV, storeV, zeros, Am.rowAt, Am.part, addOff, Nat.reduceAdd, Nat.reduceMul, Nat.reduceLeDiff, Nat.reduceSub, Nat.reduceLT, Int.reduceEq, Int.reduceLT, Int.reduceLE, Int.reduceGT, Int.reduceGE, Int.reduceAdd, Int.reduceSub, Int.reduceMul, Int.reduceNeg, Int.reduceToNat, reduceCtorEq, reduceIte, lenV_sl H.i, elem_pt H.i, view_sl H.i, scalar_sl H.i, cells_sl H.i, pure_sl H.i, Int.toNat_natCast, hlt, ← hx]
theorem can_upto {p : Int} {k : Nat} (hk : k < t.length) (h : ((t.take k).any fun x => decide (x.of = p)) = false) (hq : ¬ (t.getD k default).of = p) : ((t.take (k + 1)).any fun x => decide (x.of = p)) = false := by
  rw [List.take_succ_eq_append_getElem hk, List.any_append, h]
  simp only [List.getD_eq_getElem?_getD, List.getElem?_eq_getElem hk, Option.getD_some] at hq
  simp [hq]
theorem can_at {p : Int} {k : Nat} (hk : k < t.length) (hq : (t.getD k default).of = p) : canC t p = true := List.any_eq_true.2 ⟨_, getD_mem hk, decide_eq_true hq⟩
theorem s24 (H : TbOk t v) (p : Int) (st : Bool) : Iso E 24 [v, I p] st = some (Bo (canC t p)) := by
  have sp := H.n
  refine Iso_of (es _ _ _ _) e24 ?_
  simp only [f24]
  simp (disch := first | assumption | omega | (simp only [az]; done)) only [ru, eq_self, if_true, if_false, BEq.rfl, binI, AO.row?, splice, fillL, mmAll, loadV, storeV, zeros, Am.rowAt, Am.part, addOff, Nat.reduceAdd, Nat.reduceMul, Nat.reduceLeDiff, Nat.reduceSub, Nat.reduceLT, Int.reduceEq, Int.reduceLT, Int.reduceLE, Int.reduceGT, Int.reduceGE, Int.reduceAdd, Int.reduceSub, Int.reduceMul, Int.reduceNeg, Int.reduceToNat, reduceCtorEq, reduceIte]
  refine G_loop_ind (fun m ts hh mk => ∃ i : Nat, i ≤ t.length ∧ m = t.length - i ∧ ((t.take i).any fun x => decide (x.of = p)) = false ∧ ts.length = 19 ∧ ts.getD 0 .undef = v ∧ ts.getD 1 .undef = I p ∧ ts.getD 5 .undef = I i ∧ hh = [] ∧ mk = []) ?_ _ _ _ _
    ⟨0, Nat.zero_le _, rfl, rfl, rfl, rfl, rfl, rfl, rfl, rfl⟩
  rintro m ts hh mk ih ⟨i, hi, rfl, hall, hl', q0, q1, q5, rfl, rfl⟩
  rw [lit_all hl']
  simp only [lit0, litS, Nat.reduceAdd, q0, q1, q5]
  by_cases hlt : (i : Int) < t.length
  case neg =>
    obtain rfl : i = t.length := by omega
    rw [List.take_length] at hall
    have hc : canC t p = false := hall
    simp (disch := first | assumption | omega | (simp only [az]; done)) only [ru, eq_self, if_true, if_false, BEq.rfl, binI, AO.row?, splice, fillL, mmAll, loadV, storeV, zeros, Am.rowAt, Am.part, addOff, Nat.reduceAdd, Nat.reduceMul, Nat.reduceLeDiff, Nat.reduceSub, Nat.reduceLT, Int.reduceEq, Int.reduceLT, Int.reduceLE, Int.reduceGT, Int.reduceGE, Int.reduceAdd, Int.reduceSub, Int.reduceMul, Int.reduceNeg, Int.reduceToNat, reduceCtorEq, reduceIte, lenV_sl H.i, elem_pt H.i, view_sl H.i, scalar_sl H.i, cells_sl H.i, pure_sl H.i, Int.toNat_natCast, hlt, hc]
  have hi' : i < t.length := by omega
  obtain ⟨x, hx⟩ : ∃ x, x = t.getD i default := ⟨_, rfl⟩
  by_cases hc : x.of = p
  · have := can_at (p := p) hi' (by rw [← hx]; exact hc)
    simp (disch := first | assumption | omega | (simp only [az]; done)) only [ru, eq_self, if_true, if_false, BEq.rfl, binI, AO.row?, splice, fillL, mmAll, loadV, storeV, zeros, Am.rowAt, Am.part, addOff, Nat.reduceAdd, Nat.reduceMul, Nat.reduceLeDiff, Nat.reduceSub, Nat.reduceLT, Int.reduceEq, Int.reduceLT, Int.reduceLE, Int.reduceGT, Int.reduceGE, Int.reduceAdd, Int.reduceSub, Int.reduceMul, Int.reduceNeg, Int.reduceToNat, reduceCtorEq, reduceIte, lenV_sl H.i, elem_pt H.i, view_sl H.i, scalar_sl H.i, cells_sl H.i, pure_sl H.i, Int.toNat_natCast, hlt, ← hx, hc, this, decide_true]
  · simp (disch := first | assumption | omega | (simp only [az]; done)) only [ru, eq_self, if_true, if_false, BEq.rfl, binI, AO.row?, splice, fillL, mmAll, loadV, storeV, zeros, Am.rowAt, Am.part, addOff, Nat.reduceAdd, Nat.reduceMul, Nat.reduceLeDiff, Nat.reduceSub, Nat.reduceLT, Int.reduceEq, Int.reduceLT, Int.reduceLE, Int.reduceGT, Int.reduceGE, Int.reduceAdd, Int.reduceSub, Int.reduceMul, Int.reduceNeg, Int.reduceToNat, reduceCtorEq, reduceIte, lenV_sl H.i, elem_pt H.i, view_sl H.i, scalar_sl H.i, cells_sl H.i, pure_sl H.i, Int.toNat_natCast, hlt, ← hx, hc, decide_true, decide_false]
    exact ih (t.length - (i + 1)) _ _ _ (by omega) ⟨i + 1, by omega, rfl, can_upto hi' hall (by rw [← hx]; exact hc), rfl, rfl, rfl, rfl, rfl, rfl⟩
theorem s110 (x : Pt) {p : Int} {o : Nat} {h : List AO} (ho : h[o]? = some (.cells [I p] false)) : Ro E 110 [.agg [I x.of, I x.w.lo, I x.w.hi, I x.s.lo, I x.s.hi, I x.p], .ptr o 0] h = some (Bo (decide (x.of = p))) := by
  have ol := (List.getElem?_eq_some_iff.1 ho).1
  refine Ro_of (es _ _ _ _) e110 ?_
  simp only [f110]
  have e : ∀ X : AO, (h ++ [X])[o]? = some (.cells [I p] false) := fun X => by rw [List.getElem?_append_left ol]; exact ho
  simp (disch := first | assumption | omega | (simp only [az]; done)) only [ru, eq_self, if_true, if_false, BEq.rfl, binI, AO.row?, splice, fillL, mmAll, loadV, storeV, zeros, Am.rowAt, Am.part, addOff, Nat.reduceAdd, Nat.reduceMul, Nat.reduceLeDiff, Nat.reduceSub, Nat.reduceLT, Int.reduceEq, Int.reduceLT, Int.reduceLE, Int.reduceGT, Int.reduceGE, Int.reduceAdd, Int.reduceSub, Int.reduceMul, Int.reduceNeg, Int.reduceToNat, reduceCtorEq, reduceIte, atE, lenE, e]
  rfl
theorem s132 (H : TbOk t v) {p : Int} {o : Nat} {h : List AO} (ho : h[o]? = some (.cells [I p] false)) :
    ∃ k : Int, Ro E 132 [v, .fn 110 [] [.ptr o 0]] h = some (I k) ∧ decide (k ≥ 0) = canC t p := by
  have sp := H.n
  refine (fun x => ?_ : (∃ w, Ro E 132 [v, .fn 110 [] [.ptr o 0]] h = some w ∧ ∃ k : Int, w = I k ∧ decide (k ≥ 0) = canC t p) → _) (Ro_ex (fun r => ∃ k : Int, r = I k ∧ decide (k ≥ 0) = canC t p) (by rintro _ ⟨k, rfl, _⟩; rfl) (es _ _ _ _) e132 ?_)
  · obtain ⟨w, hv, k, rfl, hk⟩ := x; exact ⟨k, hv, hk⟩
  simp only [f132]
  simp (disch := first | assumption | omega | (simp only [az]; done)) only [ru, eq_self, if_true, if_false, BEq.rfl, binI, AO.row?, splice, fillL, mmAll, loadV, storeV, zeros, Am.rowAt, Am.part, addOff, Nat.reduceAdd, Nat.reduceMul, Nat.reduceLeDiff, Nat.reduceSub, Nat.reduceLT, Int.reduceEq, Int.reduceLT, Int.reduceLE, Int.reduceGT, Int.reduceGE, Int.reduceAdd, Int.reduceSub, Int.reduceMul, Int.reduceNeg, Int.reduceToNat, reduceCtorEq, reduceIte, lenV_sl H.i, elem_pt H.i, view_sl H.i, scalar_sl H.i, cells_sl H.i, pure_sl H.i, Int.toNat_natCast]
  refine G_loop_ind (fun m ts hh mk => ∃ i : Nat, i ≤ t.length ∧ m = t.length - i ∧ ((t.take i).any fun x => decide (x.of = p)) = false ∧ ts.length = 19 ∧ ts.getD 0 .undef = v ∧ ts.getD 1 .undef = .fn 110 [] [.ptr o 0] ∧ ts.getD 7 .undef = I t.length ∧ ts.getD 8 .undef = I i ∧ hh = h ∧ mk = []) ?_ _ _ _ _
    ⟨0, Nat.zero_le _, rfl, rfl, rfl, rfl, rfl, rfl, rfl, rfl, rfl⟩
  rintro m ts hh mk ih ⟨i, hi, rfl, hall, hl', q0, q1, q7, q8, rfl, rfl⟩
  rw [lit_all hl']
  simp only [lit0, litS, Nat.reduceAdd, q0, q1, q7, q8]
  simp (disch := first | assumption | omega | (simp only [az]; done)) only [ru, eq_self, if_true, if_false, BEq.rfl, binI, AO.row?, splice, fillL, mmAll, loadV, storeV, zeros, Am.rowAt, Am.part, addOff, Nat.reduceAdd, Nat.reduceMul, Nat.reduceLeDiff, Nat.reduceSub, Nat.reduceLT, Int.reduceEq, Int.reduceLT, Int.reduceLE, Int.reduceGT, Int.reduceGE, Int.reduceAdd, Int.reduceSub, Int.reduceMul, Int.reduceNeg, Int.reduceToNat, reduceCtorEq, reduceIte]
  by_cases hlt : (i : Int) < t.length
  case pos =>
    have hi' : i < t.length := by omega
    obtain ⟨x, hx⟩ : ∃ x, x = t.getD i default := ⟨_, rfl⟩
    have hr := s110 x ho
    by_cases hc : x.of = p
    · have ev := can_at (p := p) hi' (by rw [← hx]; exact hc)
      rw [decide_eq_true hc] at hr
      simp (disch := first | assumption | omega | (simp only [az]; done)) only [ru, eq_self, if_true, if_false, BEq.rfl, binI, AO.row?, splice, fillL, mmAll, loadV, storeV, zeros, Am.rowAt, Am.part, addOff, Nat.reduceAdd, Nat.reduceMul, Nat.reduceLeDiff, Nat.reduceSub, Nat.reduceLT, Int.reduceEq, Int.reduceLT, Int.reduceLE, Int.reduceGT, Int.reduceGE, Int.reduceAdd, Int.reduceSub, Int.reduceMul, Int.reduceNeg, Int.reduceToNat, reduceCtorEq, reduceIte, hlt, lenV_sl H.i, elem_pt H.i, view_sl H.i, scalar_sl H.i, cells_sl H.i, pure_sl H.i, Int.toNat_natCast, ← hx, exOp_callv1, hr]
      exact ⟨i, rfl, by rw [ev]; simp⟩
    · rw [decide_eq_false hc] at hr
      simp (disch := first | assumption | omega | (simp only [az]; done)) only [ru, eq_self, if_true, if_false, BEq.rfl, binI, AO.row?, splice, fillL, mmAll, loadV, storeV, zeros, Am.rowAt, Am.part, addOff, Nat.reduceAdd, Nat.reduceMul, Nat.reduceLeDiff, Nat.reduceSub, Nat.reduceLT, Int.reduceEq, Int.reduceLT, Int.reduceLE, Int.reduceGT, Int.reduceGE, Int.reduceAdd, Int.reduceSub, Int.reduceMul, Int.reduceNeg, Int.reduceToNat, reduceCtorEq, reduceIte, hlt, lenV_sl H.i, elem_pt H.i, view_sl H.i, scalar_sl H.i, cells_sl H.i, pure_sl H.i, Int.toNat_natCast, ← hx, exOp_callv1, hr]
      exact ih (t.length - (i + 1)) _ _ _ (by omega) ⟨i + 1, by omega, rfl, can_upto hi' hall (by rw [← hx]; exact hc), rfl, rfl, rfl, rfl, rfl, rfl, rfl⟩
  obtain rfl : i = t.length := by omega
  rw [List.take_length] at hall
  have hc : canC t p = false := hall
  simp (disch := first | assumption | omega | (simp only [az]; done)) only [ru, eq_self, if_true, if_false, BEq.rfl, binI, AO.row?, splice, fillL, mmAll, loadV, storeV, zeros, Am.rowAt, Am.part, addOff, Nat.reduceAdd, Nat.reduceMul, Nat.reduceLeDiff, Nat.reduceSub, Nat.reduceLT, Int.reduceEq, Int.reduceLT, Int.reduceLE, Int.reduceGT, Int.reduceGE, Int.reduceAdd, Int.reduceSub, Int.reduceMul, Int.reduceNeg, Int.reduceToNat, reduceCtorEq, reduceIte, hlt]
  exact ⟨-1, rfl, by rw [hc]; decide⟩
theorem s109 (H : TbOk t v) {p : Int} {o : Nat} {h : List AO} (ho : h[o]? = some (.cells [I p] false)) : Ro E 109 [v, .fn 110 [] [.ptr o 0]] h = some (Bo (canC t p)) := by
  obtain ⟨k, hr, hk⟩ := s132 H ho
  refine Ro_of (es _ _ _ _) e109 ?_
  simp only [f109]
  simp (disch := first | assumption | omega | (simp only [az]; done)) only [ru, eq_self, if_true, if_false, BEq.rfl, binI, AO.row?, splice, fillL, mmAll, loadV, storeV, zeros, Am.rowAt, Am.part, addOff, Nat.reduceAdd, Nat.reduceMul, Nat.reduceLeDiff, Nat.reduceSub, Nat.reduceLT, Int.reduceEq, Int.reduceLT, Int.reduceLE, Int.reduceGT, Int.reduceGE, Int.reduceAdd, Int.reduceSub, Int.reduceMul, Int.reduceNeg, Int.reduceToNat, reduceCtorEq, reduceIte, hr]
  rw [hk]; exact ⟨rfl, rfl⟩
theorem s70 (H : TbOk t v) (p : Int) (st : Bool) : Iso E 70 [v, I p] st = some (Bo (canC t p)) := by
  have hr := s109 H (o := 0) (p := p) (h := [.cells [I p] false]) rfl
  refine Iso_of (es _ _ _ _) e70 ?_
  simp only [f70]
  simp (disch := first | assumption | omega | (simp only [az]; done)) only [ru, eq_self, if_true, if_false, BEq.rfl, binI, AO.row?, splice, fillL, mmAll, loadV, storeV, zeros, Am.rowAt, Am.part, addOff, Nat.reduceAdd, Nat.reduceMul, Nat.reduceLeDiff, Nat.reduceSub, Nat.reduceLT, Int.reduceEq, Int.reduceLT, Int.reduceLE, Int.reduceGT, Int.reduceGE, Int.reduceAdd, Int.reduceSub, Int.reduceMul, Int.reduceNeg, Int.reduceToNat, reduceCtorEq, reduceIte, hr]
theorem s107 (H : TbOk t v) {i : Nat} (hi : i < t.length) (st : Bool) : Iso E 107 [v, I i] st = some (.agg [I (wst t i).lo, I (wst t i).hi]) := by
  have hlt : (i : Int) < t.length := by omega
  obtain ⟨x, hx⟩ : ∃ x, x = t.getD i default := ⟨_, rfl⟩
  refine Iso_of (es _ _ _ _) e107 ?_
  simp only [f107, wst, ← hx]
  cases hc : canC t i
  · simp (disch := first | assumption | omega | (simp only [az]; done)) only [ru, eq_self, if_true, if_false, BEq.rfl, binI, AO.row?, splice, fillL, mmAll, loadV, storeV, zeros, Am.rowAt, Am.part, addOff, Nat.reduceAdd, Nat.reduceMul, Nat.reduceLeDiff, Nat.reduceSub, Nat.reduceLT, Int.reduceEq, Int.reduceLT, Int.reduceLE, Int.reduceGT, Int.reduceGE, Int.reduceAdd, Int.reduceSub, Int.reduceMul, Int.reduceNeg, Int.reduceToNat, reduceCtorEq, reduceIte, lenV_sl H.i, elem_pt H.i, view_sl H.i, scalar_sl H.i, cells_sl H.i, pure_sl H.i, Int.toNat_natCast, s70, hc, finC, getRes, Option.some.injEq, exists_eq_left']
  · simp (disch := first | assumption | omega | (simp only [az]; done)) only [ru, eq_self, if_true, if_false, BEq.rfl, binI, AO.row?, splice, fillL, mmAll, loadV, storeV, zeros, Am.rowAt, Am.part, addOff, Nat.reduceAdd, Nat.reduceMul, Nat.reduceLeDiff, Nat.reduceSub, Nat.reduceLT, Int.reduceEq, Int.reduceLT, Int.reduceLE, Int.reduceGT, Int.reduceGE, Int.reduceAdd, Int.reduceSub, Int.reduceMul, Int.reduceNeg, Int.reduceToNat, reduceCtorEq, reduceIte, lenV_sl H.i, elem_pt H.i, view_sl H.i, scalar_sl H.i, cells_sl H.i, pure_sl H.i, Int.toNat_natCast, s70, hc, hlt, ← hx, finC, getRes, Option.some.injEq, exists_eq_left']
theorem s53 (H : TbOk t v) (st : Bool) : Iso E 53 [v] st = some (I (if tval t then 0 else 70)) := by
  have sp := H.n
  refine Iso_of (es _ _ _ _) e53 ?_
  simp only [f53]
  by_cases h1 : (t.length : Int) > 8
  · have ev : tval t = false := by simp only [tval, Bool.and_eq_false_iff, decide_eq_false_iff_not]; left; omega
    simp (disch := first | assumption | omega | (simp only [az]; done)) only [ru, eq_self, if_true, if_false, BEq.rfl, binI, AO.row?, splice, fillL, mmAll, loadV, storeV, zeros, Am.rowAt, Am.part, addOff, Nat.reduceAdd, Nat.reduceMul, Nat.reduceLeDiff, Nat.reduceSub, Nat.reduceLT, Int.reduceEq, Int.reduceLT, Int.reduceLE, Int.reduceGT, Int.reduceGE, Int.reduceAdd, Int.reduceSub, Int.reduceMul, Int.reduceNeg, Int.reduceToNat, reduceCtorEq, reduceIte, lenV_sl H.i, elem_pt H.i, view_sl H.i, scalar_sl H.i, cells_sl H.i, pure_sl H.i, Int.toNat_natCast, h1, ev, decide_true]
  have g1 : t.length ≤ 8 := by omega
  simp (disch := first | assumption | omega | (simp only [az]; done)) only [ru, eq_self, if_true, if_false, BEq.rfl, binI, AO.row?, splice, fillL, mmAll, loadV, storeV, zeros, Am.rowAt, Am.part, addOff, Nat.reduceAdd, Nat.reduceMul, Nat.reduceLeDiff, Nat.reduceSub, Nat.reduceLT, Int.reduceEq, Int.reduceLT, Int.reduceLE, Int.reduceGT, Int.reduceGE, Int.reduceAdd, Int.reduceSub, Int.reduceMul, Int.reduceNeg, Int.reduceToNat, reduceCtorEq, reduceIte, lenV_sl H.i, elem_pt H.i, view_sl H.i, scalar_sl H.i, cells_sl H.i, pure_sl H.i, Int.toNat_natCast, h1, decide_false]
  refine G_loop_ind (fun m ts hh mk => ∃ (i : Nat) (J : List AO), i ≤ t.length ∧ m = t.length - i ∧ ((List.range i).all fun i => pOk i (t.getD i default)) = true ∧ ts.length = 42 ∧ ts.getD 0 .undef = v ∧ ts.getD 3 .undef = I i ∧ hh = J ∧ mk = []) ?_ _ _ _ _
    ⟨0, [], Nat.zero_le _, rfl, rfl, rfl, rfl, rfl, rfl, rfl⟩
  rintro m ts hh mk ih ⟨i, J, hi, rfl, hall, hl', q0, q3, rfl, rfl⟩
  rw [lit_all hl']
  simp only [lit0, litS, Nat.reduceAdd, q0, q3]
  by_cases hlt : (i : Int) < t.length
  case neg =>
    obtain rfl : i = t.length := by omega
    have ev : tval t = true := by simp only [tval, hall, g1, decide_true, Bool.true_and]
    simp (disch := first | assumption | omega | (simp only [az]; done)) only [ru, eq_self, if_true, if_false, BEq.rfl, binI, AO.row?, splice, fillL, mmAll, loadV, storeV, zeros, Am.rowAt, Am.part, addOff, Nat.reduceAdd, Nat.reduceMul, Nat.reduceLeDiff, Nat.reduceSub, Nat.reduceLT, Int.reduceEq, Int.reduceLT, Int.reduceLE, Int.reduceGT, Int.reduceGE, Int.reduceAdd, Int.reduceSub, Int.reduceMul, Int.reduceNeg, Int.reduceToNat, reduceCtorEq, reduceIte, lenV_sl H.i, elem_pt H.i, view_sl H.i, scalar_sl H.i, cells_sl H.i, pure_sl H.i, Int.toNat_natCast, hlt, ev, decide_false]
  have hi' : i < t.length := by omega
  obtain ⟨x, hx⟩ : ∃ x, x = t.getD i default := ⟨_, rfl⟩
  cases hp : pOk i x
  · have ev : tval t = false := by
      have := range_not (p := fun i => pOk i (t.getD i default)) hi' (by rw [← hx]; exact hp)
      simp only [tval, this, Bool.and_false]
    simp only [pOk] at hp
    cases c1 : inR x.of (-1) ((i : Int) - 1)
    · simp (disch := first | assumption | omega | (simp only [az]; done)) only [ru, eq_self, if_true, if_false, BEq.rfl, binI, AO.row?, splice, fillL, mmAll, loadV, storeV, zeros, Am.rowAt, Am.part, addOff, Nat.reduceAdd, Nat.reduceMul, Nat.reduceLeDiff, Nat.reduceSub, Nat.reduceLT, Int.reduceEq, Int.reduceLT, Int.reduceLE, Int.reduceGT, Int.reduceGE, Int.reduceAdd, Int.reduceSub, Int.reduceMul, Int.reduceNeg, Int.reduceToNat, reduceCtorEq, reduceIte, lenV_sl H.i, elem_pt H.i, view_sl H.i, scalar_sl H.i, cells_sl H.i, pure_sl H.i, Int.toNat_natCast, hlt, ← hx, c1, s76, ev, gUn, atE, setE, decide_true, Bool.not_false]
    rw [c1, Bool.true_and] at hp
    cases c2 : spanOk x.w
    · have c2' : spanOk ⟨x.w.lo, x.w.hi⟩ = false := c2
      simp (disch := first | assumption | omega | (simp only [az]; done)) only [ru, eq_self, if_true, if_false, BEq.rfl, binI, AO.row?, splice, fillL, mmAll, loadV, storeV, zeros, Am.rowAt, Am.part, addOff, Nat.reduceAdd, Nat.reduceMul, Nat.reduceLeDiff, Nat.reduceSub, Nat.reduceLT, Int.reduceEq, Int.reduceLT, Int.reduceLE, Int.reduceGT, Int.reduceGE, Int.reduceAdd, Int.reduceSub, Int.reduceMul, Int.reduceNeg, Int.reduceToNat, reduceCtorEq, reduceIte, lenV_sl H.i, elem_pt H.i, view_sl H.i, scalar_sl H.i, cells_sl H.i, pure_sl H.i, Int.toNat_natCast, hlt, ← hx, c1, c2', s76, s90, ev, gUn, atE, setE, decide_true, Bool.not_false, Bool.not_true]
    have c2' : spanOk ⟨x.w.lo, x.w.hi⟩ = true := c2
    rw [c2, Bool.true_and] at hp
    cases c3 : spanOk x.s
    · have c3' : spanOk ⟨x.s.lo, x.s.hi⟩ = false := c3
      simp (disch := first | assumption | omega | (simp only [az]; done)) only [ru, eq_self, if_true, if_false, BEq.rfl, binI, AO.row?, splice, fillL, mmAll, loadV, storeV, zeros, Am.rowAt, Am.part, addOff, Nat.reduceAdd, Nat.reduceMul, Nat.reduceLeDiff, Nat.reduceSub, Nat.reduceLT, Int.reduceEq, Int.reduceLT, Int.reduceLE, Int.reduceGT, Int.reduceGE, Int.reduceAdd, Int.reduceSub, Int.reduceMul, Int.reduceNeg, Int.reduceToNat, reduceCtorEq, reduceIte, lenV_sl H.i, elem_pt H.i, view_sl H.i, scalar_sl H.i, cells_sl H.i, pure_sl H.i, Int.toNat_natCast, hlt, ← hx, c1, c2', c3', s76, s90, ev, gUn, atE, setE, decide_true, Bool.not_false, Bool.not_true]
    have c3' : spanOk ⟨x.s.lo, x.s.hi⟩ = true := c3
    rw [c3, Bool.true_and] at hp
    simp (disch := first | assumption | omega | (simp only [az]; done)) only [ru, eq_self, if_true, if_false, BEq.rfl, binI, AO.row?, splice, fillL, mmAll, loadV, storeV, zeros, Am.rowAt, Am.part, addOff, Nat.reduceAdd, Nat.reduceMul, Nat.reduceLeDiff, Nat.reduceSub, Nat.reduceLT, Int.reduceEq, Int.reduceLT, Int.reduceLE, Int.reduceGT, Int.reduceGE, Int.reduceAdd, Int.reduceSub, Int.reduceMul, Int.reduceNeg, Int.reduceToNat, reduceCtorEq, reduceIte, lenV_sl H.i, elem_pt H.i, view_sl H.i, scalar_sl H.i, cells_sl H.i, pure_sl H.i, Int.toNat_natCast, hlt, ← hx, c1, c2', c3', hp, s76, s90, ev, gUn, atE, setE, decide_true, Bool.not_false, Bool.not_true]
  · have hp2 := hp
    simp only [pOk, Bool.and_eq_true] at hp2
    obtain ⟨⟨⟨c1, c2⟩, c3⟩, c4⟩ := hp2
    have c2' : spanOk ⟨x.w.lo, x.w.hi⟩ = true := c2
    have c3' : spanOk ⟨x.s.lo, x.s.hi⟩ = true := c3
    simp (disch := first | assumption | omega | (simp only [az]; done)) only [ru, eq_self, if_true, if_false, BEq.rfl, binI, AO.row?, splice, fillL, mmAll, loadV, storeV, zeros, Am.rowAt, Am.part, addOff, Nat.reduceAdd, Nat.reduceMul, Nat.reduceLeDiff, Nat.reduceSub, Nat.reduceLT, Int.reduceEq, Int.reduceLT, Int.reduceLE, Int.reduceGT, Int.reduceGE, Int.reduceAdd, Int.reduceSub, Int.reduceMul, Int.reduceNeg, Int.reduceToNat, reduceCtorEq, reduceIte, lenV_sl H.i, elem_pt H.i, view_sl H.i, scalar_sl H.i, cells_sl H.i, pure_sl H.i, Int.toNat_natCast, hlt, ← hx, c1, c2', c3', c4, s76, s90, gUn, atE, setE, decide_true, Bool.not_false, Bool.not_true]
    exact ih (t.length - (i + 1)) _ _ _ (by omega) ⟨i + 1, _, by omega, rfl, range_all_succ hall (by rw [← hx]; exact hp), rfl, rfl, rfl, rfl, rfl⟩
theorem of_ok {i : Nat} {x : Int} : inR x (-1) ((i : Int) - 1) = (decide (x = -1) || (decide (0 ≤ x) && decide (x < i))) := by
  rw [Bool.eq_iff_iff, inR_iff]; simp only [Bool.or_eq_true, Bool.and_eq_true, decide_eq_true_eq]; omega
theorem pence_ok {x : Int} : inR x 0 99 = !(decide (x < 0) || decide (x > 99)) := by
  rw [Bool.eq_iff_iff, inR_iff]; simp only [Bool.not_eq_true', Bool.or_eq_false_iff, decide_eq_false_iff_not]; omega
theorem s89 (H : TbOk t v) (st : Bool) : Iso E 89 [v] st = some (Bo (tval t)) := by
  have sp := H.n
  refine Iso_of (es _ _ _ _) e89 ?_
  simp only [f89]
  by_cases h1 : (t.length : Int) > 8
  · have ev : tval t = false := by simp only [tval, Bool.and_eq_false_iff, decide_eq_false_iff_not]; left; omega
    simp (disch := first | assumption | omega | (simp only [az]; done)) only [ru, eq_self, if_true, if_false, BEq.rfl, binI, AO.row?, splice, fillL, mmAll, loadV, storeV, zeros, Am.rowAt, Am.part, addOff, Nat.reduceAdd, Nat.reduceMul, Nat.reduceLeDiff, Nat.reduceSub, Nat.reduceLT, Int.reduceEq, Int.reduceLT, Int.reduceLE, Int.reduceGT, Int.reduceGE, Int.reduceAdd, Int.reduceSub, Int.reduceMul, Int.reduceNeg, Int.reduceToNat, reduceCtorEq, reduceIte, lenV_sl H.i, elem_pt H.i, view_sl H.i, scalar_sl H.i, cells_sl H.i, pure_sl H.i, Int.toNat_natCast, h1, ev, decide_true]
  have g1 : t.length ≤ 8 := by omega
  simp (disch := first | assumption | omega | (simp only [az]; done)) only [ru, eq_self, if_true, if_false, BEq.rfl, binI, AO.row?, splice, fillL, mmAll, loadV, storeV, zeros, Am.rowAt, Am.part, addOff, Nat.reduceAdd, Nat.reduceMul, Nat.reduceLeDiff, Nat.reduceSub, Nat.reduceLT, Int.reduceEq, Int.reduceLT, Int.reduceLE, Int.reduceGT, Int.reduceGE, Int.reduceAdd, Int.reduceSub, Int.reduceMul, Int.reduceNeg, Int.reduceToNat, reduceCtorEq, reduceIte, lenV_sl H.i, elem_pt H.i, view_sl H.i, scalar_sl H.i, cells_sl H.i, pure_sl H.i, Int.toNat_natCast, h1, decide_false]
  refine G_loop_ind (fun m ts hh mk => ∃ (i : Nat) (J : List AO), i ≤ t.length ∧ m = t.length - i ∧ ((List.range i).all fun i => pOk i (t.getD i default)) = true ∧ ts.length = 55 ∧ ts.getD 9 .undef = v ∧ ts.getD 10 .undef = I t.length ∧ ts.getD 11 .undef = I i ∧ hh = J ∧ mk = []) ?_ _ _ _ _
    ⟨0, [], Nat.zero_le _, rfl, rfl, rfl, rfl, rfl, rfl, rfl, rfl⟩
  rintro m ts hh mk ih ⟨i, J, hi, rfl, hall, hl', q9, q10, q11, rfl, rfl⟩
  rw [lit_all hl']
  simp only [lit0, litS, Nat.reduceAdd, q9, q10, q11]
  by_cases hlt : (i : Int) < t.length
  case neg =>
    obtain rfl : i = t.length := by omega
    have ev : tval t = true := by simp only [tval, hall, g1, decide_true, Bool.true_and]
    simp (disch := first | assumption | omega | (simp only [az]; done)) only [ru, eq_self, if_true, if_false, BEq.rfl, binI, AO.row?, splice, fillL, mmAll, loadV, storeV, zeros, Am.rowAt, Am.part, addOff, Nat.reduceAdd, Nat.reduceMul, Nat.reduceLeDiff, Nat.reduceSub, Nat.reduceLT, Int.reduceEq, Int.reduceLT, Int.reduceLE, Int.reduceGT, Int.reduceGE, Int.reduceAdd, Int.reduceSub, Int.reduceMul, Int.reduceNeg, Int.reduceToNat, reduceCtorEq, reduceIte, lenV_sl H.i, elem_pt H.i, view_sl H.i, scalar_sl H.i, cells_sl H.i, pure_sl H.i, Int.toNat_natCast, hlt, ev, decide_false]
  have hi' : i < t.length := by omega
  obtain ⟨x, hx⟩ : ∃ x, x = t.getD i default := ⟨_, rfl⟩
  have hpe : pOk i x = ((decide (x.of = -1) || (decide (0 ≤ x.of) && decide (x.of < i))) && spanOk ⟨x.w.lo, x.w.hi⟩ && spanOk ⟨x.s.lo, x.s.hi⟩ && !(decide (x.p < 0) || decide (x.p > 99))) := by
    rw [pOk, of_ok, pence_ok]
  have ev : pOk i x = false → tval t = false := fun hp => by
      have := range_not (p := fun i => pOk i (t.getD i default)) hi' (by rw [← hx]; exact hp)
      simp only [tval, this, Bool.and_false]
  have nx : pOk i x = true → ((List.range (i + 1)).all fun i => pOk i (t.getD i default)) = true := fun hp => range_all_succ hall (by rw [← hx]; exact hp)
  by_cases c0 : x.of = -1
  · cases c2 : spanOk ⟨x.w.lo, x.w.hi⟩
    · have ev := ev (by rw [hpe, c2]; simp)
      simp (disch := first | assumption | omega | (simp only [az]; done)) only [ru, eq_self, if_true, if_false, BEq.rfl, binI, AO.row?, splice, fillL, mmAll, loadV, storeV, zeros, Am.rowAt, Am.part, addOff, Nat.reduceAdd, Nat.reduceMul, Nat.reduceLeDiff, Nat.reduceSub, Nat.reduceLT, Int.reduceEq, Int.reduceLT, Int.reduceLE, Int.reduceGT, Int.reduceGE, Int.reduceAdd, Int.reduceSub, Int.reduceMul, Int.reduceNeg, Int.reduceToNat, reduceCtorEq, reduceIte, lenV_sl H.i, elem_pt H.i, view_sl H.i, scalar_sl H.i, cells_sl H.i, pure_sl H.i, Int.toNat_natCast, hlt, ← hx, c0, c2, s122, ev, gUn, atE, setE, decide_true, Bool.not_false, Bool.not_true]
    cases c3 : spanOk ⟨x.s.lo, x.s.hi⟩
    · have ev := ev (by rw [hpe, c3]; simp)
      simp (disch := first | assumption | omega | (simp only [az]; done)) only [ru, eq_self, if_true, if_false, BEq.rfl, binI, AO.row?, splice, fillL, mmAll, loadV, storeV, zeros, Am.rowAt, Am.part, addOff, Nat.reduceAdd, Nat.reduceMul, Nat.reduceLeDiff, Nat.reduceSub, Nat.reduceLT, Int.reduceEq, Int.reduceLT, Int.reduceLE, Int.reduceGT, Int.reduceGE, Int.reduceAdd, Int.reduceSub, Int.reduceMul, Int.reduceNeg, Int.reduceToNat, reduceCtorEq, reduceIte, lenV_sl H.i, elem_pt H.i, view_sl H.i, scalar_sl H.i, cells_sl H.i, pure_sl H.i, Int.toNat_natCast, hlt, ← hx, c0, c2, c3, s122, ev, gUn, atE, setE, decide_true, Bool.not_false, Bool.not_true]
    by_cases c4 : x.p < 0
    · have ev := ev (by rw [hpe, decide_eq_true c4]; simp)
      simp (disch := first | assumption | omega | (simp only [az]; done)) only [ru, eq_self, if_true, if_false, BEq.rfl, binI, AO.row?, splice, fillL, mmAll, loadV, storeV, zeros, Am.rowAt, Am.part, addOff, Nat.reduceAdd, Nat.reduceMul, Nat.reduceLeDiff, Nat.reduceSub, Nat.reduceLT, Int.reduceEq, Int.reduceLT, Int.reduceLE, Int.reduceGT, Int.reduceGE, Int.reduceAdd, Int.reduceSub, Int.reduceMul, Int.reduceNeg, Int.reduceToNat, reduceCtorEq, reduceIte, lenV_sl H.i, elem_pt H.i, view_sl H.i, scalar_sl H.i, cells_sl H.i, pure_sl H.i, Int.toNat_natCast, hlt, ← hx, c0, c2, c3, c4, s122, ev, gUn, atE, setE, decide_true, Bool.not_false, Bool.not_true]
    by_cases c5 : x.p > 99
    · have ev := ev (by rw [hpe, decide_eq_true c5]; simp)
      simp (disch := first | assumption | omega | (simp only [az]; done)) only [ru, eq_self, if_true, if_false, BEq.rfl, binI, AO.row?, splice, fillL, mmAll, loadV, storeV, zeros, Am.rowAt, Am.part, addOff, Nat.reduceAdd, Nat.reduceMul, Nat.reduceLeDiff, Nat.reduceSub, Nat.reduceLT, Int.reduceEq, Int.reduceLT, Int.reduceLE, Int.reduceGT, Int.reduceGE, Int.reduceAdd, Int.reduceSub, Int.reduceMul, Int.reduceNeg, Int.reduceToNat, reduceCtorEq, reduceIte, lenV_sl H.i, elem_pt H.i, view_sl H.i, scalar_sl H.i, cells_sl H.i, pure_sl H.i, Int.toNat_natCast, hlt, ← hx, c0, c2, c3, c4, c5, s122, ev, gUn, atE, setE, decide_true, decide_false, Bool.not_false, Bool.not_true]
    have nx := nx (by rw [hpe, c0, c2, c3, decide_eq_false c4, decide_eq_false c5]; simp)
    simp (disch := first | assumption | omega | (simp only [az]; done)) only [ru, eq_self, if_true, if_false, BEq.rfl, binI, AO.row?, splice, fillL, mmAll, loadV, storeV, zeros, Am.rowAt, Am.part, addOff, Nat.reduceAdd, Nat.reduceMul, Nat.reduceLeDiff, Nat.reduceSub, Nat.reduceLT, Int.reduceEq, Int.reduceLT, Int.reduceLE, Int.reduceGT, Int.reduceGE, Int.reduceAdd, Int.reduceSub, Int.reduceMul, Int.reduceNeg, Int.reduceToNat, reduceCtorEq, reduceIte, lenV_sl H.i, elem_pt H.i, view_sl H.i, scalar_sl H.i, cells_sl H.i, pure_sl H.i, Int.toNat_natCast, hlt, ← hx, c0, c2, c3, c4, c5, s122, gUn, atE, setE, decide_true, decide_false, Bool.not_false, Bool.not_true]
    exact ih (t.length - (i + 1)) _ _ _ (by omega) ⟨i + 1, _, by omega, rfl, nx, rfl, rfl, rfl, rfl, rfl, rfl⟩
  · by_cases c1 : 0 ≤ x.of
    case neg =>
      have ev := ev (by rw [hpe, decide_eq_false c0, decide_eq_false c1]; simp)
      simp (disch := first | assumption | omega | (simp only [az]; done)) only [ru, eq_self, if_true, if_false, BEq.rfl, binI, AO.row?, splice, fillL, mmAll, loadV, storeV, zeros, Am.rowAt, Am.part, addOff, Nat.reduceAdd, Nat.reduceMul, Nat.reduceLeDiff, Nat.reduceSub, Nat.reduceLT, Int.reduceEq, Int.reduceLT, Int.reduceLE, Int.reduceGT, Int.reduceGE, Int.reduceAdd, Int.reduceSub, Int.reduceMul, Int.reduceNeg, Int.reduceToNat, reduceCtorEq, reduceIte, lenV_sl H.i, elem_pt H.i, view_sl H.i, scalar_sl H.i, cells_sl H.i, pure_sl H.i, Int.toNat_natCast, hlt, ← hx, c0, c1, s122, ev, gUn, atE, setE, decide_true, decide_false, Bool.not_false, Bool.not_true]
    by_cases c6 : x.of < i
    case neg =>
      have ev := ev (by rw [hpe, decide_eq_false c0, decide_eq_false c6]; simp)
      simp (disch := first | assumption | omega | (simp only [az]; done)) only [ru, eq_self, if_true, if_false, BEq.rfl, binI, AO.row?, splice, fillL, mmAll, loadV, storeV, zeros, Am.rowAt, Am.part, addOff, Nat.reduceAdd, Nat.reduceMul, Nat.reduceLeDiff, Nat.reduceSub, Nat.reduceLT, Int.reduceEq, Int.reduceLT, Int.reduceLE, Int.reduceGT, Int.reduceGE, Int.reduceAdd, Int.reduceSub, Int.reduceMul, Int.reduceNeg, Int.reduceToNat, reduceCtorEq, reduceIte, lenV_sl H.i, elem_pt H.i, view_sl H.i, scalar_sl H.i, cells_sl H.i, pure_sl H.i, Int.toNat_natCast, hlt, ← hx, c0, c1, c6, s122, ev, gUn, atE, setE, decide_true, decide_false, Bool.not_false, Bool.not_true]
    cases c2 : spanOk ⟨x.w.lo, x.w.hi⟩
    · have ev := ev (by rw [hpe, c2]; simp)
      simp (disch := first | assumption | omega | (simp only [az]; done)) only [ru, eq_self, if_true, if_false, BEq.rfl, binI, AO.row?, splice, fillL, mmAll, loadV, storeV, zeros, Am.rowAt, Am.part, addOff, Nat.reduceAdd, Nat.reduceMul, Nat.reduceLeDiff, Nat.reduceSub, Nat.reduceLT, Int.reduceEq, Int.reduceLT, Int.reduceLE, Int.reduceGT, Int.reduceGE, Int.reduceAdd, Int.reduceSub, Int.reduceMul, Int.reduceNeg, Int.reduceToNat, reduceCtorEq, reduceIte, lenV_sl H.i, elem_pt H.i, view_sl H.i, scalar_sl H.i, cells_sl H.i, pure_sl H.i, Int.toNat_natCast, hlt, ← hx, c0, c1, c6, c2, s122, ev, gUn, atE, setE, decide_true, decide_false, Bool.not_false, Bool.not_true]
    cases c3 : spanOk ⟨x.s.lo, x.s.hi⟩
    · have ev := ev (by rw [hpe, c3]; simp)
      simp (disch := first | assumption | omega | (simp only [az]; done)) only [ru, eq_self, if_true, if_false, BEq.rfl, binI, AO.row?, splice, fillL, mmAll, loadV, storeV, zeros, Am.rowAt, Am.part, addOff, Nat.reduceAdd, Nat.reduceMul, Nat.reduceLeDiff, Nat.reduceSub, Nat.reduceLT, Int.reduceEq, Int.reduceLT, Int.reduceLE, Int.reduceGT, Int.reduceGE, Int.reduceAdd, Int.reduceSub, Int.reduceMul, Int.reduceNeg, Int.reduceToNat, reduceCtorEq, reduceIte, lenV_sl H.i, elem_pt H.i, view_sl H.i, scalar_sl H.i, cells_sl H.i, pure_sl H.i, Int.toNat_natCast, hlt, ← hx, c0, c1, c6, c2, c3, s122, ev, gUn, atE, setE, decide_true, decide_false, Bool.not_false, Bool.not_true]
    by_cases c4 : x.p < 0
    · have ev := ev (by rw [hpe, decide_eq_true c4]; simp)
      simp (disch := first | assumption | omega | (simp only [az]; done)) only [ru, eq_self, if_true, if_false, BEq.rfl, binI, AO.row?, splice, fillL, mmAll, loadV, storeV, zeros, Am.rowAt, Am.part, addOff, Nat.reduceAdd, Nat.reduceMul, Nat.reduceLeDiff, Nat.reduceSub, Nat.reduceLT, Int.reduceEq, Int.reduceLT, Int.reduceLE, Int.reduceGT, Int.reduceGE, Int.reduceAdd, Int.reduceSub, Int.reduceMul, Int.reduceNeg, Int.reduceToNat, reduceCtorEq, reduceIte, lenV_sl H.i, elem_pt H.i, view_sl H.i, scalar_sl H.i, cells_sl H.i, pure_sl H.i, Int.toNat_natCast, hlt, ← hx, c0, c1, c6, c2, c3, c4, s122, ev, gUn, atE, setE, decide_true, decide_false, Bool.not_false, Bool.not_true]
    by_cases c5 : x.p > 99
    · have ev := ev (by rw [hpe, decide_eq_true c5]; simp)
      simp (disch := first | assumption | omega | (simp only [az]; done)) only [ru, eq_self, if_true, if_false, BEq.rfl, binI, AO.row?, splice, fillL, mmAll, loadV, storeV, zeros, Am.rowAt, Am.part, addOff, Nat.reduceAdd, Nat.reduceMul, Nat.reduceLeDiff, Nat.reduceSub, Nat.reduceLT, Int.reduceEq, Int.reduceLT, Int.reduceLE, Int.reduceGT, Int.reduceGE, Int.reduceAdd, Int.reduceSub, Int.reduceMul, Int.reduceNeg, Int.reduceToNat, reduceCtorEq, reduceIte, lenV_sl H.i, elem_pt H.i, view_sl H.i, scalar_sl H.i, cells_sl H.i, pure_sl H.i, Int.toNat_natCast, hlt, ← hx, c0, c1, c6, c2, c3, c4, c5, s122, ev, gUn, atE, setE, decide_true, decide_false, Bool.not_false, Bool.not_true]
    have nx := nx (by rw [hpe, decide_eq_true c1, decide_eq_true c6, c2, c3, decide_eq_false c4, decide_eq_false c5]; simp)
    simp (disch := first | assumption | omega | (simp only [az]; done)) only [ru, eq_self, if_true, if_false, BEq.rfl, binI, AO.row?, splice, fillL, mmAll, loadV, storeV, zeros, Am.rowAt, Am.part, addOff, Nat.reduceAdd, Nat.reduceMul, Nat.reduceLeDiff, Nat.reduceSub, Nat.reduceLT, Int.reduceEq, Int.reduceLT, Int.reduceLE, Int.reduceGT, Int.reduceGE, Int.reduceAdd, Int.reduceSub, Int.reduceMul, Int.reduceNeg, Int.reduceToNat, reduceCtorEq, reduceIte, lenV_sl H.i, elem_pt H.i, view_sl H.i, scalar_sl H.i, cells_sl H.i, pure_sl H.i, Int.toNat_natCast, hlt, ← hx, c0, c1, c6, c2, c3, c4, c5, s122, gUn, atE, setE, decide_true, decide_false, Bool.not_false, Bool.not_true]
    exact ih (t.length - (i + 1)) _ _ _ (by omega) ⟨i + 1, _, by omega, rfl, nx, rfl, rfl, rfl, rfl, rfl, rfl⟩
theorem s52 (H : TbOk t v) (st : Bool) : Iso E 52 [v] st = some (I (if tval t then 0 else 70)) := by
  refine Iso_of (es _ _ _ _) e52 ?_
  simp only [f52]
  cases hv : tval t <;> simp (disch := first | assumption | omega | (simp only [az]; done)) only [ru, eq_self, if_true, if_false, BEq.rfl, binI, AO.row?, splice, fillL, mmAll, loadV, storeV, zeros, Am.rowAt, Am.part, addOff, Nat.reduceAdd, Nat.reduceMul, Nat.reduceLeDiff, Nat.reduceSub, Nat.reduceLT, Int.reduceEq, Int.reduceLT, Int.reduceLE, Int.reduceGT, Int.reduceGE, Int.reduceAdd, Int.reduceSub, Int.reduceMul, Int.reduceNeg, Int.reduceToNat, reduceCtorEq, reduceIte, lenV_sl H.i, elem_pt H.i, view_sl H.i, scalar_sl H.i, cells_sl H.i, pure_sl H.i, Int.toNat_natCast, s89, hv, Bool.not_false, Bool.not_true, Bool.false_eq_true]
def aC (v q : Bool) : Int := if v then (if q then 0 else 1) else 70
theorem s123 (H : TbOk t v) (q : Bool) (st : Bool) : Iso E 123 [v, Bo q] st = some (I (aC (tval t) q)) := by
  refine Iso_of (es _ _ _ _) e123 ?_
  simp only [f123, aC]
  cases hv : tval t
  · simp (disch := first | assumption | omega | (simp only [az]; done)) only [ru, eq_self, if_true, if_false, BEq.rfl, binI, AO.row?, splice, fillL, mmAll, loadV, storeV, zeros, Am.rowAt, Am.part, addOff, Nat.reduceAdd, Nat.reduceMul, Nat.reduceLeDiff, Nat.reduceSub, Nat.reduceLT, Int.reduceEq, Int.reduceLT, Int.reduceLE, Int.reduceGT, Int.reduceGE, Int.reduceAdd, Int.reduceSub, Int.reduceMul, Int.reduceNeg, Int.reduceToNat, reduceCtorEq, reduceIte, lenV_sl H.i, elem_pt H.i, view_sl H.i, scalar_sl H.i, cells_sl H.i, pure_sl H.i, Int.toNat_natCast, s53, hv, Bool.false_eq_true]
  · cases q <;> simp (disch := first | assumption | omega | (simp only [az]; done)) only [ru, eq_self, if_true, if_false, BEq.rfl, binI, AO.row?, splice, fillL, mmAll, loadV, storeV, zeros, Am.rowAt, Am.part, addOff, Nat.reduceAdd, Nat.reduceMul, Nat.reduceLeDiff, Nat.reduceSub, Nat.reduceLT, Int.reduceEq, Int.reduceLT, Int.reduceLE, Int.reduceGT, Int.reduceGE, Int.reduceAdd, Int.reduceSub, Int.reduceMul, Int.reduceNeg, Int.reduceToNat, reduceCtorEq, reduceIte, lenV_sl H.i, elem_pt H.i, view_sl H.i, scalar_sl H.i, cells_sl H.i, pure_sl H.i, Int.toNat_natCast, s53, hv, Bool.false_eq_true]
theorem s69 (H : TbOk t v) (i : Int) (st : Bool) : Iso E 69 [v, I i] st = some (I (aC (tval t) (inR i 0 (t.length - 1)))) := by
  refine Iso_of (es _ _ _ _) e69 ?_
  simp only [f69, aC]
  cases hv : tval t
  · simp (disch := first | assumption | omega | (simp only [az]; done)) only [ru, eq_self, if_true, if_false, BEq.rfl, binI, AO.row?, splice, fillL, mmAll, loadV, storeV, zeros, Am.rowAt, Am.part, addOff, Nat.reduceAdd, Nat.reduceMul, Nat.reduceLeDiff, Nat.reduceSub, Nat.reduceLT, Int.reduceEq, Int.reduceLT, Int.reduceLE, Int.reduceGT, Int.reduceGE, Int.reduceAdd, Int.reduceSub, Int.reduceMul, Int.reduceNeg, Int.reduceToNat, reduceCtorEq, reduceIte, lenV_sl H.i, elem_pt H.i, view_sl H.i, scalar_sl H.i, cells_sl H.i, pure_sl H.i, Int.toNat_natCast, s52, hv, gUn, Bool.false_eq_true]
  · cases hq : inR i 0 (t.length - 1) <;> simp (disch := first | assumption | omega | (simp only [az]; done)) only [ru, eq_self, if_true, if_false, BEq.rfl, binI, AO.row?, splice, fillL, mmAll, loadV, storeV, zeros, Am.rowAt, Am.part, addOff, Nat.reduceAdd, Nat.reduceMul, Nat.reduceLeDiff, Nat.reduceSub, Nat.reduceLT, Int.reduceEq, Int.reduceLT, Int.reduceLE, Int.reduceGT, Int.reduceGE, Int.reduceAdd, Int.reduceSub, Int.reduceMul, Int.reduceNeg, Int.reduceToNat, reduceCtorEq, reduceIte, lenV_sl H.i, elem_pt H.i, view_sl H.i, scalar_sl H.i, cells_sl H.i, pure_sl H.i, Int.toNat_natCast, s52, s108, hv, hq, gUn, Bool.false_eq_true]
end
end Go.Proofs.Yteonklnjchefiaa.S

/-
Cuts, partings and truths, on both sides.
-/
namespace Go.Proofs.Yteonklnjchefiaa.S
open Go Go.Am Go.Proofs.Yteonklnjchefiaa.T
set_option maxRecDepth 100000
set_option linter.unusedSimpArgs false
set_option linter.unusedVariables false

abbrev fu (l : List Int) : Nat → Int := fun i => l.getD i 0
def thr (t : List Pt) (F : List Int) (x : Int) : Bool := decide ((t.getD x.toNat default).of = -1) || decide ((t.getD x.toNat default).of ∈ F)
def cutAt (t : List Pt) (l : List Int) (i : Nat) : Bool := inR (l.getD i 0) 0 ((t.length : Int) - 1) && (decide (i = 0) || decide (l.getD (i - 1) 0 < l.getD i 0)) && (canC t (l.getD i 0) && thr t (l.take i) (l.getD i 0))
def cutB (t : List Pt) (l : List Int) : Bool := (List.range l.length).all (cutAt t l)
def risB (l : List Int) (lo hi : Int) : Bool := (List.range l.length).all fun i => inR (l.getD i 0) lo hi && (decide (i = 0) || decide (l.getD (i - 1) 0 < l.getD i 0))
def cutR (t : List Pt) (l : List Int) : Bool := risB l 0 ((t.length : Int) - 1) && (List.range l.length).all fun i => canC t (l.getD i 0) && thr t l (l.getD i 0)
theorem ris_lt {l : List Int} {lo hi : Int} (h : risB l lo hi = true) : ∀ d i, i + d < l.length → 0 < d → l.getD i 0 < l.getD (i + d) 0 := by
  simp only [risB, List.all_eq_true, List.mem_range, Bool.and_eq_true, Bool.or_eq_true, decide_eq_true_eq] at h
  intro d
  induction d with
  | zero => intro i _ h; omega
  | succ d ih =>
    intro i hi _
    have h1 := (h (i + (d + 1)) hi).2
    rw [show i + (d + 1) - 1 = i + d by omega] at h1
    by_cases e : d = 0
    · subst e; rcases h1 with h1 | h1
      · omega
      · simpa using h1
    · have := ih i (by omega) (by omega)
      rcases h1 with h1 | h1 <;> omega
theorem cut_eq {t : List Pt} (T : TG t) {l : List Int} : cutR t l = cutB t l := by
  rw [Bool.eq_iff_iff]
  constructor
  · intro h
    simp only [cutR, Bool.and_eq_true] at h
    obtain ⟨h1, h2⟩ := h
    have h3 := ris_lt h1
    simp only [cutB, List.all_eq_true, List.mem_range, cutAt, Bool.and_eq_true] at h2 ⊢
    intro i hi
    have h4 := h2 i hi
    have h5 : inR (l.getD i 0) 0 ((t.length : Int) - 1) = true ∧ (decide (i = 0) || decide (l.getD (i - 1) 0 < l.getD i 0)) = true := by
      simp only [risB, List.all_eq_true, List.mem_range, Bool.and_eq_true] at h1; exact h1 i hi
    refine ⟨h5, h4.1, ?_⟩
    have h6 := h4.2
    simp only [thr, Bool.or_eq_true, decide_eq_true_eq] at h6 ⊢
    rcases h6 with h6 | h6
    · exact .inl h6
    · right
      obtain ⟨j, hj, e⟩ := mem_getD (d := 0) h6
      have h7 := inR_iff.1 h5.1
      have h8 := (T.of (l.getD i 0).toNat (by omega)).2
      have hji : j < i := by
        refine Classical.byContradiction fun hc => ?_
        by_cases e2 : j = i
        · subst e2; omega
        · have := h3 (j - i) i (by omega) (by omega)
          rw [show i + (j - i) = j by omega] at this; omega
      rw [← e]
      have : (l.take i).getD j 0 = l.getD j 0 := by simp [List.getD_eq_getElem?_getD, List.getElem?_take, hji]
      rw [← this]
      exact getD_memI (by rw [List.length_take]; omega)
  · intro h
    have h1 : risB l 0 ((t.length : Int) - 1) = true := by
      simp only [cutB, risB, List.all_eq_true, List.mem_range, cutAt, Bool.and_eq_true] at h ⊢
      exact fun i hi => (h i hi).1
    simp only [cutR, h1, Bool.true_and]
    simp only [cutB, List.all_eq_true, List.mem_range, cutAt, Bool.and_eq_true] at h ⊢
    intro i hi
    refine ⟨(h i hi).2.1, ?_⟩
    have h6 := (h i hi).2.2
    simp only [thr, Bool.or_eq_true, decide_eq_true_eq] at h6 ⊢
    rcases h6 with h6 | h6
    · exact .inl h6
    · exact .inr (List.mem_of_mem_take h6)

section
variable {t : List Pt} {v w : AV} {l : List Int}
theorem s86 (V : IsSl 1 intL l v) (hl : l.length ≤ 1000) (lo hi : Int) (st : Bool) : Iso E 86 [v, I lo, I hi] st = some (Bo (risB l lo hi)) := by
  refine Iso_of (es _ _ _ _) e86 ?_
  simp only [f86]
  simp (disch := first | assumption | omega | (simp only [az]; done)) only [ru, eq_self, if_true, if_false, BEq.rfl, binI, AO.row?, splice, fillL, mmAll, loadV, storeV, zeros, Am.rowAt, Am.part, addOff, Nat.reduceAdd, Nat.reduceMul, Nat.reduceLeDiff, Nat.reduceSub, Nat.reduceLT, Int.reduceEq, Int.reduceLT, Int.reduceLE, Int.reduceGT, Int.reduceGE, Int.reduceAdd, Int.reduceSub, Int.reduceMul, Int.reduceNeg, Int.reduceToNat, reduceCtorEq, reduceIte]
  refine G_loop_ind (fun m ts h mk => ∃ i : Nat, i ≤ l.length ∧ m = l.length - i ∧ ((List.range i).all fun i => inR (l.getD i 0) lo hi && (decide (i = 0) || decide (l.getD (i - 1) 0 < l.getD i 0))) = true ∧ ts.length = 38 ∧ ts.getD 0 .undef = v ∧ ts.getD 1 .undef = I lo ∧ ts.getD 2 .undef = I hi ∧ ts.getD 7 .undef = I i ∧ h = [] ∧ mk = []) ?_ _ _ _ _ ⟨0, Nat.zero_le _, rfl, rfl, rfl, rfl, rfl, rfl, rfl, rfl, rfl⟩
  rintro m ts h mk ih ⟨i, hi', rfl, hall, hl', q0, q1, q2, q7, rfl, rfl⟩
  rw [lit_all hl']
  simp only [lit0, litS, Nat.reduceAdd, q0, q1, q2, q7]
  simp (disch := first | assumption | omega | (simp only [az]; done)) only [ru, eq_self, if_true, if_false, BEq.rfl, binI, AO.row?, splice, fillL, mmAll, loadV, storeV, zeros, Am.rowAt, Am.part, addOff, Nat.reduceAdd, Nat.reduceMul, Nat.reduceLeDiff, Nat.reduceSub, Nat.reduceLT, Int.reduceEq, Int.reduceLT, Int.reduceLE, Int.reduceGT, Int.reduceGE, Int.reduceAdd, Int.reduceSub, Int.reduceMul, Int.reduceNeg, Int.reduceToNat, reduceCtorEq, reduceIte, lenV_sl V, elem_in V, view_sl V, scalar_sl V, cells_sl V, pure_sl V, Int.toNat_natCast]
  by_cases hlt : (i : Int) < l.length
  case neg =>
    obtain rfl : i = l.length := by omega
    have ev : risB l lo hi = true := hall
    simp (disch := first | assumption | omega | (simp only [az]; done)) only [ru, eq_self, if_true, if_false, BEq.rfl, binI, AO.row?, splice, fillL, mmAll, loadV, storeV, zeros, Am.rowAt, Am.part, addOff, Nat.reduceAdd, Nat.reduceMul, Nat.reduceLeDiff, Nat.reduceSub, Nat.reduceLT, Int.reduceEq, Int.reduceLT, Int.reduceLE, Int.reduceGT, Int.reduceGE, Int.reduceAdd, Int.reduceSub, Int.reduceMul, Int.reduceNeg, Int.reduceToNat, reduceCtorEq, reduceIte, hlt, ev]
  have hi2 : i < l.length := by omega
  have no := fun hp => range_not (N := l.length) (p := fun i => inR (l.getD i 0) lo hi && (decide (i = 0) || decide (l.getD (i - 1) 0 < l.getD i 0))) hi2 hp
  have nx := fun hp => range_all_succ (p := fun i => inR (l.getD i 0) lo hi && (decide (i = 0) || decide (l.getD (i - 1) 0 < l.getD i 0))) hall hp
  cases hc : inR (l.getD i 0) lo hi
  · have ev : risB l lo hi = false := no (by simp only [hc, Bool.false_and])
    simp (disch := first | assumption | omega | (simp only [az]; done)) only [ru, eq_self, if_true, if_false, BEq.rfl, binI, AO.row?, splice, fillL, mmAll, loadV, storeV, zeros, Am.rowAt, Am.part, addOff, Nat.reduceAdd, Nat.reduceMul, Nat.reduceLeDiff, Nat.reduceSub, Nat.reduceLT, Int.reduceEq, Int.reduceLT, Int.reduceLE, Int.reduceGT, Int.reduceGE, Int.reduceAdd, Int.reduceSub, Int.reduceMul, Int.reduceNeg, Int.reduceToNat, reduceCtorEq, reduceIte, lenV_sl V, elem_in V, view_sl V, scalar_sl V, cells_sl V, pure_sl V, Int.toNat_natCast, hlt, s30, hc, gUn, ev, Bool.not_false]
  by_cases h0 : i = 0
  · have hg : ¬ (i : Int) > 0 := by omega
    simp (disch := first | assumption | omega | (simp only [az]; done)) only [ru, eq_self, if_true, if_false, BEq.rfl, binI, AO.row?, splice, fillL, mmAll, loadV, storeV, zeros, Am.rowAt, Am.part, addOff, Nat.reduceAdd, Nat.reduceMul, Nat.reduceLeDiff, Nat.reduceSub, Nat.reduceLT, Int.reduceEq, Int.reduceLT, Int.reduceLE, Int.reduceGT, Int.reduceGE, Int.reduceAdd, Int.reduceSub, Int.reduceMul, Int.reduceNeg, Int.reduceToNat, reduceCtorEq, reduceIte, lenV_sl V, elem_in V, view_sl V, scalar_sl V, cells_sl V, pure_sl V, Int.toNat_natCast, hlt, s30, hc, gUn, hg, Bool.not_true, decide_false]
    exact ih (l.length - (i + 1)) _ _ _ (by omega) ⟨i + 1, by omega, rfl, nx (by rw [hc, decide_eq_true h0]; rfl), rfl, rfl, rfl, rfl, rfl, rfl, rfl⟩
  have hg : (i : Int) > 0 := by omega
  have hm1 : (0 : Int) ≤ (i : Int) - 1 := by omega
  have hm2 : (i : Int) - 1 < l.length := by omega
  have hm3 : ((i : Int) - 1).toNat = i - 1 := by omega
  by_cases hle : l.getD i 0 ≤ l.getD (i - 1) 0
  · have hn : ¬ l.getD (i - 1) 0 < l.getD i 0 := by omega
    have ev : risB l lo hi = false := no (by rw [decide_eq_false hn, decide_eq_false h0, Bool.or_false, Bool.and_false])
    simp (disch := first | assumption | omega | (simp only [az]; done)) only [ru, eq_self, if_true, if_false, BEq.rfl, binI, AO.row?, splice, fillL, mmAll, loadV, storeV, zeros, Am.rowAt, Am.part, addOff, Nat.reduceAdd, Nat.reduceMul, Nat.reduceLeDiff, Nat.reduceSub, Nat.reduceLT, Int.reduceEq, Int.reduceLT, Int.reduceLE, Int.reduceGT, Int.reduceGE, Int.reduceAdd, Int.reduceSub, Int.reduceMul, Int.reduceNeg, Int.reduceToNat, reduceCtorEq, reduceIte, lenV_sl V, elem_in V, view_sl V, scalar_sl V, cells_sl V, pure_sl V, Int.toNat_natCast, hlt, s30, hc, gUn, hg, hm1, hm2, hm3, hle, ev, Bool.not_true, decide_true]
  · have hn : l.getD (i - 1) 0 < l.getD i 0 := by omega
    simp (disch := first | assumption | omega | (simp only [az]; done)) only [ru, eq_self, if_true, if_false, BEq.rfl, binI, AO.row?, splice, fillL, mmAll, loadV, storeV, zeros, Am.rowAt, Am.part, addOff, Nat.reduceAdd, Nat.reduceMul, Nat.reduceLeDiff, Nat.reduceSub, Nat.reduceLT, Int.reduceEq, Int.reduceLT, Int.reduceLE, Int.reduceGT, Int.reduceGE, Int.reduceAdd, Int.reduceSub, Int.reduceMul, Int.reduceNeg, Int.reduceToNat, reduceCtorEq, reduceIte, lenV_sl V, elem_in V, view_sl V, scalar_sl V, cells_sl V, pure_sl V, Int.toNat_natCast, hlt, s30, hc, gUn, hg, hm1, hm2, hm3, hle, Bool.not_true, decide_true, decide_false]
    exact ih (l.length - (i + 1)) _ _ _ (by omega) ⟨i + 1, by omega, rfl, nx (by rw [hc, decide_eq_true hn, Bool.or_true, Bool.and_true]), rfl, rfl, rfl, rfl, rfl, rfl, rfl⟩

theorem s112 (H : TbOk t w) (V : IsSl 1 intL l v) (hl : l.length ≤ 1000) {p : Int} (h0 : 0 ≤ p) (h1 : p < t.length) (st : Bool) : Iso E 112 [w, I p, v] st = some (Bo (thr t l p)) := by
  obtain ⟨x, hx⟩ : ∃ x, x = t.getD p.toNat default := ⟨_, rfl⟩
  refine Iso_of (es _ _ _ _) e112 ?_
  simp only [f112, thr, ← hx]
  by_cases hc : x.of = -1
  · simp (disch := first | assumption | omega | (simp only [az]; done)) only [ru, eq_self, if_true, if_false, BEq.rfl, binI, AO.row?, splice, fillL, mmAll, loadV, storeV, zeros, Am.rowAt, Am.part, addOff, Nat.reduceAdd, Nat.reduceMul, Nat.reduceLeDiff, Nat.reduceSub, Nat.reduceLT, Int.reduceEq, Int.reduceLT, Int.reduceLE, Int.reduceGT, Int.reduceGE, Int.reduceAdd, Int.reduceSub, Int.reduceMul, Int.reduceNeg, Int.reduceToNat, reduceCtorEq, reduceIte, lenV_sl H.i, elem_pt H.i, view_sl H.i, scalar_sl H.i, cells_sl H.i, pure_sl H.i, Int.toNat_natCast, lenV_sl V, elem_in V, view_sl V, scalar_sl V, cells_sl V, pure_sl V, Int.toNat_natCast, h0, h1, ← hx, hc, gUn, decide_true, Bool.true_or]
  · simp (disch := first | assumption | omega | (simp only [az]; done)) only [ru, eq_self, if_true, if_false, BEq.rfl, binI, AO.row?, splice, fillL, mmAll, loadV, storeV, zeros, Am.rowAt, Am.part, addOff, Nat.reduceAdd, Nat.reduceMul, Nat.reduceLeDiff, Nat.reduceSub, Nat.reduceLT, Int.reduceEq, Int.reduceLT, Int.reduceLE, Int.reduceGT, Int.reduceGE, Int.reduceAdd, Int.reduceSub, Int.reduceMul, Int.reduceNeg, Int.reduceToNat, reduceCtorEq, reduceIte, lenV_sl H.i, elem_pt H.i, view_sl H.i, scalar_sl H.i, cells_sl H.i, pure_sl H.i, Int.toNat_natCast, lenV_sl V, elem_in V, view_sl V, scalar_sl V, cells_sl V, pure_sl V, Int.toNat_natCast, h0, h1, ← hx, hc, s113 V hl, gUn, decide_false, Bool.false_or]
theorem s133 (H : TbOk t w) (V : IsSl 1 intL l v) (hl : l.length ≤ 1000) {p : Int} (h0 : 0 ≤ p) (h1 : p < t.length) (st : Bool) : Iso E 133 [w, I p, v] st = some (Bo (canC t p && thr t l p)) := by
  refine Iso_of (es _ _ _ _) e133 ?_
  simp only [f133]
  cases hc : canC t p
  · simp (disch := first | assumption | omega | (simp only [az]; done)) only [ru, eq_self, if_true, if_false, BEq.rfl, binI, AO.row?, splice, fillL, mmAll, loadV, storeV, zeros, Am.rowAt, Am.part, addOff, Nat.reduceAdd, Nat.reduceMul, Nat.reduceLeDiff, Nat.reduceSub, Nat.reduceLT, Int.reduceEq, Int.reduceLT, Int.reduceLE, Int.reduceGT, Int.reduceGE, Int.reduceAdd, Int.reduceSub, Int.reduceMul, Int.reduceNeg, Int.reduceToNat, reduceCtorEq, reduceIte, lenV_sl H.i, elem_pt H.i, view_sl H.i, scalar_sl H.i, cells_sl H.i, pure_sl H.i, Int.toNat_natCast, lenV_sl V, elem_in V, view_sl V, scalar_sl V, cells_sl V, pure_sl V, Int.toNat_natCast, s70 H, hc, gUn, Bool.false_and]
  · simp (disch := first | assumption | omega | (simp only [az]; done)) only [ru, eq_self, if_true, if_false, BEq.rfl, binI, AO.row?, splice, fillL, mmAll, loadV, storeV, zeros, Am.rowAt, Am.part, addOff, Nat.reduceAdd, Nat.reduceMul, Nat.reduceLeDiff, Nat.reduceSub, Nat.reduceLT, Int.reduceEq, Int.reduceLT, Int.reduceLE, Int.reduceGT, Int.reduceGE, Int.reduceAdd, Int.reduceSub, Int.reduceMul, Int.reduceNeg, Int.reduceToNat, reduceCtorEq, reduceIte, lenV_sl H.i, elem_pt H.i, view_sl H.i, scalar_sl H.i, cells_sl H.i, pure_sl H.i, Int.toNat_natCast, lenV_sl V, elem_in V, view_sl V, scalar_sl V, cells_sl V, pure_sl V, Int.toNat_natCast, s70 H, hc, s112 H V hl h0 h1, gUn, Bool.true_and]
theorem s114 (H : TbOk t w) (V : IsSl 1 intL l v) (hl : l.length ≤ 1000) {p : Int} (h0 : 0 ≤ p) (h1 : p < t.length) (st : Bool) : Iso E 114 [w, v, I p] st = some (Bo (!decide (p ∈ l) && thr t l p)) := by
  obtain ⟨x, hx⟩ : ∃ x, x = t.getD p.toNat default := ⟨_, rfl⟩
  refine Iso_of (es _ _ _ _) e114 ?_
  simp only [f114, thr, ← hx]
  by_cases h : p ∈ l
  · simp (disch := first | assumption | omega | (simp only [az]; done)) only [ru, eq_self, if_true, if_false, BEq.rfl, binI, AO.row?, splice, fillL, mmAll, loadV, storeV, zeros, Am.rowAt, Am.part, addOff, Nat.reduceAdd, Nat.reduceMul, Nat.reduceLeDiff, Nat.reduceSub, Nat.reduceLT, Int.reduceEq, Int.reduceLT, Int.reduceLE, Int.reduceGT, Int.reduceGE, Int.reduceAdd, Int.reduceSub, Int.reduceMul, Int.reduceNeg, Int.reduceToNat, reduceCtorEq, reduceIte, lenV_sl H.i, elem_pt H.i, view_sl H.i, scalar_sl H.i, cells_sl H.i, pure_sl H.i, Int.toNat_natCast, lenV_sl V, elem_in V, view_sl V, scalar_sl V, cells_sl V, pure_sl V, Int.toNat_natCast, h0, h1, ← hx, s87 V hl, h, gUn, decide_true, Bool.not_true, Bool.false_and]
  · by_cases hc : x.of = -1
    · simp (disch := first | assumption | omega | (simp only [az]; done)) only [ru, eq_self, if_true, if_false, BEq.rfl, binI, AO.row?, splice, fillL, mmAll, loadV, storeV, zeros, Am.rowAt, Am.part, addOff, Nat.reduceAdd, Nat.reduceMul, Nat.reduceLeDiff, Nat.reduceSub, Nat.reduceLT, Int.reduceEq, Int.reduceLT, Int.reduceLE, Int.reduceGT, Int.reduceGE, Int.reduceAdd, Int.reduceSub, Int.reduceMul, Int.reduceNeg, Int.reduceToNat, reduceCtorEq, reduceIte, lenV_sl H.i, elem_pt H.i, view_sl H.i, scalar_sl H.i, cells_sl H.i, pure_sl H.i, Int.toNat_natCast, lenV_sl V, elem_in V, view_sl V, scalar_sl V, cells_sl V, pure_sl V, Int.toNat_natCast, h0, h1, ← hx, hc, s87 V hl, h, gUn, decide_true, decide_false, Bool.not_false, Bool.true_and, Bool.true_or]
    · simp (disch := first | assumption | omega | (simp only [az]; done)) only [ru, eq_self, if_true, if_false, BEq.rfl, binI, AO.row?, splice, fillL, mmAll, loadV, storeV, zeros, Am.rowAt, Am.part, addOff, Nat.reduceAdd, Nat.reduceMul, Nat.reduceLeDiff, Nat.reduceSub, Nat.reduceLT, Int.reduceEq, Int.reduceLT, Int.reduceLE, Int.reduceGT, Int.reduceGE, Int.reduceAdd, Int.reduceSub, Int.reduceMul, Int.reduceNeg, Int.reduceToNat, reduceCtorEq, reduceIte, lenV_sl H.i, elem_pt H.i, view_sl H.i, scalar_sl H.i, cells_sl H.i, pure_sl H.i, Int.toNat_natCast, lenV_sl V, elem_in V, view_sl V, scalar_sl V, cells_sl V, pure_sl V, Int.toNat_natCast, h0, h1, ← hx, hc, s87 V hl, h, gUn, decide_true, decide_false, Bool.not_false, Bool.true_and, Bool.false_or]

theorem s111 (H : TbOk t w) (V : IsSl 1 intL l v) (hl : l.length ≤ 1000) (st : Bool) : Iso E 111 [w, v] st = some (Bo (cutB t l)) := by
  have sp := H.n
  refine Iso_of (es _ _ _ _) e111 ?_
  simp only [f111]
  simp (disch := first | assumption | omega | (simp only [az]; done)) only [ru, eq_self, if_true, if_false, BEq.rfl, binI, AO.row?, splice, fillL, mmAll, loadV, storeV, zeros, Am.rowAt, Am.part, addOff, Nat.reduceAdd, Nat.reduceMul, Nat.reduceLeDiff, Nat.reduceSub, Nat.reduceLT, Int.reduceEq, Int.reduceLT, Int.reduceLE, Int.reduceGT, Int.reduceGE, Int.reduceAdd, Int.reduceSub, Int.reduceMul, Int.reduceNeg, Int.reduceToNat, reduceCtorEq, reduceIte, lenV_sl H.i, elem_pt H.i, view_sl H.i, scalar_sl H.i, cells_sl H.i, pure_sl H.i, Int.toNat_natCast, lenV_sl V, elem_in V, view_sl V, scalar_sl V, cells_sl V, pure_sl V, Int.toNat_natCast]
  refine G_loop_ind (fun m ts h mk => ∃ i : Nat, i ≤ l.length ∧ m = l.length - i ∧ (List.range i).all (cutAt t l) = true ∧ ts.length = 41 ∧ ts.getD 0 .undef = w ∧ ts.getD 1 .undef = v ∧ ts.getD 7 .undef = v ∧ ts.getD 8 .undef = I l.length ∧ ts.getD 9 .undef = I i ∧ h = [] ∧ mk = []) ?_ _ _ _ _ ⟨0, Nat.zero_le _, rfl, rfl, rfl, rfl, rfl, rfl, rfl, rfl, rfl, rfl⟩
  rintro m ts h mk ih ⟨i, hi', rfl, hall, hl', q0, q1, q7, q8, q9, rfl, rfl⟩
  rw [lit_all hl']
  simp only [lit0, litS, Nat.reduceAdd, q0, q1, q7, q8, q9]
  simp (disch := first | assumption | omega | (simp only [az]; done)) only [ru, eq_self, if_true, if_false, BEq.rfl, binI, AO.row?, splice, fillL, mmAll, loadV, storeV, zeros, Am.rowAt, Am.part, addOff, Nat.reduceAdd, Nat.reduceMul, Nat.reduceLeDiff, Nat.reduceSub, Nat.reduceLT, Int.reduceEq, Int.reduceLT, Int.reduceLE, Int.reduceGT, Int.reduceGE, Int.reduceAdd, Int.reduceSub, Int.reduceMul, Int.reduceNeg, Int.reduceToNat, reduceCtorEq, reduceIte, lenV_sl H.i, elem_pt H.i, view_sl H.i, scalar_sl H.i, cells_sl H.i, pure_sl H.i, Int.toNat_natCast, lenV_sl V, elem_in V, view_sl V, scalar_sl V, cells_sl V, pure_sl V, Int.toNat_natCast]
  by_cases hlt : (i : Int) < l.length
  case neg =>
    obtain rfl : i = l.length := by omega
    have ev : cutB t l = true := hall
    simp (disch := first | assumption | omega | (simp only [az]; done)) only [ru, eq_self, if_true, if_false, BEq.rfl, binI, AO.row?, splice, fillL, mmAll, loadV, storeV, zeros, Am.rowAt, Am.part, addOff, Nat.reduceAdd, Nat.reduceMul, Nat.reduceLeDiff, Nat.reduceSub, Nat.reduceLT, Int.reduceEq, Int.reduceLT, Int.reduceLE, Int.reduceGT, Int.reduceGE, Int.reduceAdd, Int.reduceSub, Int.reduceMul, Int.reduceNeg, Int.reduceToNat, reduceCtorEq, reduceIte, hlt, ev]
  have hi2 : i < l.length := by omega
  have no := fun hp => range_not (N := l.length) (p := cutAt t l) hi2 hp
  have nx := fun hp => range_all_succ (p := cutAt t l) hall hp
  obtain ⟨x, hx⟩ : ∃ x, x = l.getD i 0 := ⟨_, rfl⟩
  have ea : cutAt t l i = (inR x 0 ((t.length : Int) - 1) && (decide (i = 0) || decide (l.getD (i - 1) 0 < x)) && (canC t x && thr t (l.take i) x)) := by rw [hx]; rfl
  cases hc : inR x 0 ((t.length : Int) - 1)
  · have ev : cutB t l = false := no (by rw [ea, hc, Bool.false_and, Bool.false_and])
    simp (disch := first | assumption | omega | (simp only [az]; done)) only [ru, eq_self, if_true, if_false, BEq.rfl, binI, AO.row?, splice, fillL, mmAll, loadV, storeV, zeros, Am.rowAt, Am.part, addOff, Nat.reduceAdd, Nat.reduceMul, Nat.reduceLeDiff, Nat.reduceSub, Nat.reduceLT, Int.reduceEq, Int.reduceLT, Int.reduceLE, Int.reduceGT, Int.reduceGE, Int.reduceAdd, Int.reduceSub, Int.reduceMul, Int.reduceNeg, Int.reduceToNat, reduceCtorEq, reduceIte, lenV_sl H.i, elem_pt H.i, view_sl H.i, scalar_sl H.i, cells_sl H.i, pure_sl H.i, Int.toNat_natCast, lenV_sl V, elem_in V, view_sl V, scalar_sl V, cells_sl V, pure_sl V, Int.toNat_natCast, hlt, ← hx, s108 H, hc, gUn, ev, Bool.not_false]
  obtain ⟨x0, x1⟩ := inR_iff.1 hc
  obtain ⟨u, hu, U⟩ := slice_in V hi2
  have g := fun st => s133 H U (by rw [List.length_take]; omega) x0 (show x < t.length by omega) st
  obtain ⟨f, hf⟩ : ∃ f, f = (canC t x && thr t (l.take i) x) := ⟨_, rfl⟩
  rw [← hf] at g ea
  by_cases h0 : i = 0
  · have hg : ¬ (i : Int) > 0 := by omega
    cases f
    · have ev : cutB t l = false := no (by rw [ea, Bool.and_false])
      simp (disch := first | assumption | omega | (simp only [az]; done)) only [ru, eq_self, if_true, if_false, BEq.rfl, binI, AO.row?, splice, fillL, mmAll, loadV, storeV, zeros, Am.rowAt, Am.part, addOff, Nat.reduceAdd, Nat.reduceMul, Nat.reduceLeDiff, Nat.reduceSub, Nat.reduceLT, Int.reduceEq, Int.reduceLT, Int.reduceLE, Int.reduceGT, Int.reduceGE, Int.reduceAdd, Int.reduceSub, Int.reduceMul, Int.reduceNeg, Int.reduceToNat, reduceCtorEq, reduceIte, lenV_sl H.i, elem_pt H.i, view_sl H.i, scalar_sl H.i, cells_sl H.i, pure_sl H.i, Int.toNat_natCast, lenV_sl V, elem_in V, view_sl V, scalar_sl V, cells_sl V, pure_sl V, Int.toNat_natCast, lenV_sl U, elem_in U, view_sl U, scalar_sl U, cells_sl U, pure_sl U, Int.toNat_natCast, hlt, ← hx, s108 H, hc, gUn, hg, hu, g, ev, Bool.not_true, Bool.not_false, decide_false, Option.map_some, Option.map_none]
    · have nx := nx (by rw [ea, hc, decide_eq_true h0]; rfl)
      simp (disch := first | assumption | omega | (simp only [az]; done)) only [ru, eq_self, if_true, if_false, BEq.rfl, binI, AO.row?, splice, fillL, mmAll, loadV, storeV, zeros, Am.rowAt, Am.part, addOff, Nat.reduceAdd, Nat.reduceMul, Nat.reduceLeDiff, Nat.reduceSub, Nat.reduceLT, Int.reduceEq, Int.reduceLT, Int.reduceLE, Int.reduceGT, Int.reduceGE, Int.reduceAdd, Int.reduceSub, Int.reduceMul, Int.reduceNeg, Int.reduceToNat, reduceCtorEq, reduceIte, lenV_sl H.i, elem_pt H.i, view_sl H.i, scalar_sl H.i, cells_sl H.i, pure_sl H.i, Int.toNat_natCast, lenV_sl V, elem_in V, view_sl V, scalar_sl V, cells_sl V, pure_sl V, Int.toNat_natCast, lenV_sl U, elem_in U, view_sl U, scalar_sl U, cells_sl U, pure_sl U, Int.toNat_natCast, hlt, ← hx, s108 H, hc, gUn, hg, hu, g, Bool.not_true, Bool.not_false, decide_false, Option.map_some, Option.map_none]
      exact ih (l.length - (i + 1)) _ _ _ (by omega) ⟨i + 1, by omega, rfl, nx, rfl, rfl, rfl, rfl, rfl, rfl, rfl, rfl⟩
  have hg : (i : Int) > 0 := by omega
  have hm1 : (0 : Int) ≤ (i : Int) - 1 := by omega
  have hm2 : (i : Int) - 1 < l.length := by omega
  have hm3 : ((i : Int) - 1).toNat = i - 1 := by omega
  by_cases hle : x ≤ l.getD (i - 1) 0
  · have hn : ¬ l.getD (i - 1) 0 < x := by omega
    have ev : cutB t l = false := no (by rw [ea, decide_eq_false hn, decide_eq_false h0, Bool.or_false, Bool.and_false, Bool.false_and])
    simp (disch := first | assumption | omega | (simp only [az]; done)) only [ru, eq_self, if_true, if_false, BEq.rfl, binI, AO.row?, splice, fillL, mmAll, loadV, storeV, zeros, Am.rowAt, Am.part, addOff, Nat.reduceAdd, Nat.reduceMul, Nat.reduceLeDiff, Nat.reduceSub, Nat.reduceLT, Int.reduceEq, Int.reduceLT, Int.reduceLE, Int.reduceGT, Int.reduceGE, Int.reduceAdd, Int.reduceSub, Int.reduceMul, Int.reduceNeg, Int.reduceToNat, reduceCtorEq, reduceIte, lenV_sl H.i, elem_pt H.i, view_sl H.i, scalar_sl H.i, cells_sl H.i, pure_sl H.i, Int.toNat_natCast, lenV_sl V, elem_in V, view_sl V, scalar_sl V, cells_sl V, pure_sl V, Int.toNat_natCast, hlt, ← hx, s108 H, hc, gUn, hg, hm1, hm2, hm3, hle, ev, Bool.not_true, decide_true]
  · have hn : l.getD (i - 1) 0 < x := by omega
    cases f
    · have ev : cutB t l = false := no (by rw [ea, Bool.and_false])
      simp (disch := first | assumption | omega | (simp only [az]; done)) only [ru, eq_self, if_true, if_false, BEq.rfl, binI, AO.row?, splice, fillL, mmAll, loadV, storeV, zeros, Am.rowAt, Am.part, addOff, Nat.reduceAdd, Nat.reduceMul, Nat.reduceLeDiff, Nat.reduceSub, Nat.reduceLT, Int.reduceEq, Int.reduceLT, Int.reduceLE, Int.reduceGT, Int.reduceGE, Int.reduceAdd, Int.reduceSub, Int.reduceMul, Int.reduceNeg, Int.reduceToNat, reduceCtorEq, reduceIte, lenV_sl H.i, elem_pt H.i, view_sl H.i, scalar_sl H.i, cells_sl H.i, pure_sl H.i, Int.toNat_natCast, lenV_sl V, elem_in V, view_sl V, scalar_sl V, cells_sl V, pure_sl V, Int.toNat_natCast, lenV_sl U, elem_in U, view_sl U, scalar_sl U, cells_sl U, pure_sl U, Int.toNat_natCast, hlt, ← hx, s108 H, hc, gUn, hg, hm1, hm2, hm3, hle, hu, g, ev, Bool.not_true, Bool.not_false, decide_true, decide_false, Option.map_some, Option.map_none]
    · have nx := nx (by rw [ea, hc, decide_eq_true hn, Bool.or_true]; rfl)
      simp (disch := first | assumption | omega | (simp only [az]; done)) only [ru, eq_self, if_true, if_false, BEq.rfl, binI, AO.row?, splice, fillL, mmAll, loadV, storeV, zeros, Am.rowAt, Am.part, addOff, Nat.reduceAdd, Nat.reduceMul, Nat.reduceLeDiff, Nat.reduceSub, Nat.reduceLT, Int.reduceEq, Int.reduceLT, Int.reduceLE, Int.reduceGT, Int.reduceGE, Int.reduceAdd, Int.reduceSub, Int.reduceMul, Int.reduceNeg, Int.reduceToNat, reduceCtorEq, reduceIte, lenV_sl H.i, elem_pt H.i, view_sl H.i, scalar_sl H.i, cells_sl H.i, pure_sl H.i, Int.toNat_natCast, lenV_sl V, elem_in V, view_sl V, scalar_sl V, cells_sl V, pure_sl V, Int.toNat_natCast, lenV_sl U, elem_in U, view_sl U, scalar_sl U, cells_sl U, pure_sl U, Int.toNat_natCast, hlt, ← hx, s108 H, hc, gUn, hg, hm1, hm2, hm3, hle, hu, g, Bool.not_true, Bool.not_false, decide_true, decide_false, Option.map_some, Option.map_none]
      exact ih (l.length - (i + 1)) _ _ _ (by omega) ⟨i + 1, by omega, rfl, nx, rfl, rfl, rfl, rfl, rfl, rfl, rfl, rfl⟩

theorem s47 (H : TbOk t w) (T : TG t) (V : IsSl 1 intL l v) (hl : l.length ≤ 1000) (st : Bool) : Iso E 47 [w, v] st = some (Bo (cutB t l)) := by
  have sp := H.n
  rw [← cut_eq T]
  refine Iso_of (es _ _ _ _) e47 ?_
  simp only [f47]
  cases hr : risB l 0 ((t.length : Int) - 1)
  · have ev : cutR t l = false := by rw [cutR, hr, Bool.false_and]
    simp (disch := first | assumption | omega | (simp only [az]; done)) only [ru, eq_self, if_true, if_false, BEq.rfl, binI, AO.row?, splice, fillL, mmAll, loadV, storeV, zeros, Am.rowAt, Am.part, addOff, Nat.reduceAdd, Nat.reduceMul, Nat.reduceLeDiff, Nat.reduceSub, Nat.reduceLT, Int.reduceEq, Int.reduceLT, Int.reduceLE, Int.reduceGT, Int.reduceGE, Int.reduceAdd, Int.reduceSub, Int.reduceMul, Int.reduceNeg, Int.reduceToNat, reduceCtorEq, reduceIte, lenV_sl H.i, elem_pt H.i, view_sl H.i, scalar_sl H.i, cells_sl H.i, pure_sl H.i, Int.toNat_natCast, lenV_sl V, elem_in V, view_sl V, scalar_sl V, cells_sl V, pure_sl V, Int.toNat_natCast, s86 V hl, hr, ev, Bool.not_false]
  simp (disch := first | assumption | omega | (simp only [az]; done)) only [ru, eq_self, if_true, if_false, BEq.rfl, binI, AO.row?, splice, fillL, mmAll, loadV, storeV, zeros, Am.rowAt, Am.part, addOff, Nat.reduceAdd, Nat.reduceMul, Nat.reduceLeDiff, Nat.reduceSub, Nat.reduceLT, Int.reduceEq, Int.reduceLT, Int.reduceLE, Int.reduceGT, Int.reduceGE, Int.reduceAdd, Int.reduceSub, Int.reduceMul, Int.reduceNeg, Int.reduceToNat, reduceCtorEq, reduceIte, lenV_sl H.i, elem_pt H.i, view_sl H.i, scalar_sl H.i, cells_sl H.i, pure_sl H.i, Int.toNat_natCast, lenV_sl V, elem_in V, view_sl V, scalar_sl V, cells_sl V, pure_sl V, Int.toNat_natCast, s86 V hl, hr, Bool.not_true]
  refine G_loop_ind (fun m ts h mk => ∃ i : Nat, i ≤ l.length ∧ m = l.length - i ∧ ((List.range i).all fun i => canC t (l.getD i 0) && thr t l (l.getD i 0)) = true ∧ ts.length = 44 ∧ ts.getD 0 .undef = w ∧ ts.getD 1 .undef = v ∧ ts.getD 5 .undef = I i ∧ h = [] ∧ mk = []) ?_ _ _ _ _ ⟨0, Nat.zero_le _, rfl, rfl, rfl, rfl, rfl, rfl, rfl, rfl⟩
  rintro m ts h mk ih ⟨i, hi', rfl, hall, hl', q0, q1, q5, rfl, rfl⟩
  rw [lit_all hl']
  simp only [lit0, litS, Nat.reduceAdd, q0, q1, q5]
  by_cases hlt : (i : Int) < l.length
  case neg =>
    obtain rfl : i = l.length := by omega
    have ev : cutR t l = true := by rw [cutR, hr, Bool.true_and]; exact hall
    simp (disch := first | assumption | omega | (simp only [az]; done)) only [ru, eq_self, if_true, if_false, BEq.rfl, binI, AO.row?, splice, fillL, mmAll, loadV, storeV, zeros, Am.rowAt, Am.part, addOff, Nat.reduceAdd, Nat.reduceMul, Nat.reduceLeDiff, Nat.reduceSub, Nat.reduceLT, Int.reduceEq, Int.reduceLT, Int.reduceLE, Int.reduceGT, Int.reduceGE, Int.reduceAdd, Int.reduceSub, Int.reduceMul, Int.reduceNeg, Int.reduceToNat, reduceCtorEq, reduceIte, lenV_sl V, elem_in V, view_sl V, scalar_sl V, cells_sl V, pure_sl V, Int.toNat_natCast, hlt, ev]
  have hi2 : i < l.length := by omega
  have no := fun hp => range_not (N := l.length) (p := fun i => canC t (l.getD i 0) && thr t l (l.getD i 0)) hi2 hp
  have nx := fun hp => range_all_succ (p := fun i => canC t (l.getD i 0) && thr t l (l.getD i 0)) hall hp
  obtain ⟨x, hx⟩ : ∃ x, x = l.getD i 0 := ⟨_, rfl⟩
  have hin : inR x 0 ((t.length : Int) - 1) = true := by
    have hr' := hr
    simp only [risB, List.all_eq_true, List.mem_range, Bool.and_eq_true] at hr'
    rw [hx]; exact (hr' i hi2).1
  obtain ⟨x0, x1⟩ := inR_iff.1 hin
  have x1' : x < t.length := by omega
  obtain ⟨y, hy⟩ : ∃ y, y = t.getD x.toNat default := ⟨_, rfl⟩
  cases hc : canC t x
  · have ev : cutR t l = false := by rw [cutR, hr, Bool.true_and]; exact no (by rw [← hx, hc, Bool.false_and])
    simp (disch := first | assumption | omega | (simp only [az]; done)) only [ru, eq_self, if_true, if_false, BEq.rfl, binI, AO.row?, splice, fillL, mmAll, loadV, storeV, zeros, Am.rowAt, Am.part, addOff, Nat.reduceAdd, Nat.reduceMul, Nat.reduceLeDiff, Nat.reduceSub, Nat.reduceLT, Int.reduceEq, Int.reduceLT, Int.reduceLE, Int.reduceGT, Int.reduceGE, Int.reduceAdd, Int.reduceSub, Int.reduceMul, Int.reduceNeg, Int.reduceToNat, reduceCtorEq, reduceIte, lenV_sl H.i, elem_pt H.i, view_sl H.i, scalar_sl H.i, cells_sl H.i, pure_sl H.i, Int.toNat_natCast, lenV_sl V, elem_in V, view_sl V, scalar_sl V, cells_sl V, pure_sl V, Int.toNat_natCast, hlt, ← hx, x0, x1', ← hy, s24 H, hc, ev, gUn, Bool.not_false, decide_true]
  by_cases h1 : y.of = -1
  · have nx := nx (by rw [← hx, hc, thr, ← hy, decide_eq_true h1]; rfl)
    simp (disch := first | assumption | omega | (simp only [az]; done)) only [ru, eq_self, if_true, if_false, BEq.rfl, binI, AO.row?, splice, fillL, mmAll, loadV, storeV, zeros, Am.rowAt, Am.part, addOff, Nat.reduceAdd, Nat.reduceMul, Nat.reduceLeDiff, Nat.reduceSub, Nat.reduceLT, Int.reduceEq, Int.reduceLT, Int.reduceLE, Int.reduceGT, Int.reduceGE, Int.reduceAdd, Int.reduceSub, Int.reduceMul, Int.reduceNeg, Int.reduceToNat, reduceCtorEq, reduceIte, lenV_sl H.i, elem_pt H.i, view_sl H.i, scalar_sl H.i, cells_sl H.i, pure_sl H.i, Int.toNat_natCast, lenV_sl V, elem_in V, view_sl V, scalar_sl V, cells_sl V, pure_sl V, Int.toNat_natCast, hlt, ← hx, x0, x1', ← hy, s24 H, hc, h1, gUn, Bool.not_true, decide_true]
    exact ih (l.length - (i + 1)) _ _ _ (by omega) ⟨i + 1, by omega, rfl, nx, rfl, rfl, rfl, rfl, rfl, rfl⟩
  by_cases h2 : y.of ∈ l
  · have nx := nx (by rw [← hx, hc, thr, ← hy, decide_eq_true h2, Bool.or_true]; rfl)
    simp (disch := first | assumption | omega | (simp only [az]; done)) only [ru, eq_self, if_true, if_false, BEq.rfl, binI, AO.row?, splice, fillL, mmAll, loadV, storeV, zeros, Am.rowAt, Am.part, addOff, Nat.reduceAdd, Nat.reduceMul, Nat.reduceLeDiff, Nat.reduceSub, Nat.reduceLT, Int.reduceEq, Int.reduceLT, Int.reduceLE, Int.reduceGT, Int.reduceGE, Int.reduceAdd, Int.reduceSub, Int.reduceMul, Int.reduceNeg, Int.reduceToNat, reduceCtorEq, reduceIte, lenV_sl H.i, elem_pt H.i, view_sl H.i, scalar_sl H.i, cells_sl H.i, pure_sl H.i, Int.toNat_natCast, lenV_sl V, elem_in V, view_sl V, scalar_sl V, cells_sl V, pure_sl V, Int.toNat_natCast, hlt, ← hx, x0, x1', ← hy, s24 H, hc, h1, s87 V hl, h2, gUn, Bool.not_true, Bool.not_false, decide_true, decide_false]
    exact ih (l.length - (i + 1)) _ _ _ (by omega) ⟨i + 1, by omega, rfl, nx, rfl, rfl, rfl, rfl, rfl, rfl⟩
  · have ev : cutR t l = false := by rw [cutR, hr, Bool.true_and]; exact no (by rw [← hx, hc, thr, ← hy, decide_eq_false h2, decide_eq_false h1]; rfl)
    simp (disch := first | assumption | omega | (simp only [az]; done)) only [ru, eq_self, if_true, if_false, BEq.rfl, binI, AO.row?, splice, fillL, mmAll, loadV, storeV, zeros, Am.rowAt, Am.part, addOff, Nat.reduceAdd, Nat.reduceMul, Nat.reduceLeDiff, Nat.reduceSub, Nat.reduceLT, Int.reduceEq, Int.reduceLT, Int.reduceLE, Int.reduceGT, Int.reduceGE, Int.reduceAdd, Int.reduceSub, Int.reduceMul, Int.reduceNeg, Int.reduceToNat, reduceCtorEq, reduceIte, lenV_sl H.i, elem_pt H.i, view_sl H.i, scalar_sl H.i, cells_sl H.i, pure_sl H.i, Int.toNat_natCast, lenV_sl V, elem_in V, view_sl V, scalar_sl V, cells_sl V, pure_sl V, Int.toNat_natCast, hlt, ← hx, x0, x1', ← hy, s24 H, hc, h1, s87 V hl, h2, ev, gUn, Bool.not_true, Bool.not_false, decide_true, decide_false]
end

/-! partings -/
def parB (t : List Pt) (l : List Int) : Bool := decide (l.length = t.length) && (List.range t.length).all (fun i => inR (l.getD i 0) 0 30) && (List.range t.length).all fun i => !canC t i || inR (l.getD i 0 - pcs t (fu l) i t.length) (t.getD i default).s.lo (t.getD i default).s.hi
def truB (t : List Pt) (l : List Int) : Bool := decide (l.length = t.length) && (List.range t.length).all (fun i => inR (l.getD i 0) (t.getD i default).w.lo (t.getD i default).w.hi) && (List.range t.length).all fun i => inR (l.getD i 0 - pcs t (fu l) i t.length) (wst t i).lo (wst t i).hi
theorem pcs_leaf {t : List Pt} {u : Nat → Int} {i : Nat} (hc : canC t i = false) : ∀ {j : Nat}, j ≤ t.length → pcs t u i j = 0
  | 0, _ => rfl
  | j + 1, h => by
    have : ¬ (t.getD j default).of = i := fun e => by rw [can_at h e] at hc; cases hc
    simp only [pcs]; rw [if_neg this, pcs_leaf hc (by omega)]; rfl
theorem parB_iff {t : List Pt} {l : List Int} : parB t l = true ↔ l.length = t.length ∧ PartF t (fu l) := by
  simp only [parB, Bool.and_eq_true, decide_eq_true_eq, List.all_eq_true, List.mem_range, Bool.or_eq_true, Bool.not_eq_true', inR_iff]
  constructor
  · rintro ⟨⟨h1, h2⟩, h3⟩
    refine ⟨h1, fun i hi => ⟨h2 i hi, ?_⟩⟩
    have h4 := h3 i hi
    unfold wst
    cases hc : canC t i
    · rw [pcs_leaf hc (Nat.le_refl _)]
      have := h2 i hi
      simp only [Bool.false_eq_true, if_false]; show _ ≤ l.getD i 0 - 0 ∧ l.getD i 0 - 0 ≤ _; omega
    · rcases h4 with h4 | h4
      · rw [hc] at h4; cases h4
      · simp only [if_true]; exact h4
  · rintro ⟨h1, h2⟩
    refine ⟨⟨h1, fun i hi => (h2 i hi).1⟩, fun i hi => ?_⟩
    have h4 := (h2 i hi).2
    unfold wst at h4
    cases hc : canC t i
    · exact .inl rfl
    · rw [hc, if_pos rfl] at h4; exact .inr h4
theorem truB_iff {t : List Pt} (T : TW t) {l : List Int} : truB t l = true ↔ l.length = t.length ∧ TruF t (fu l) := by
  simp only [truB, Bool.and_eq_true, decide_eq_true_eq, List.all_eq_true, List.mem_range, inR_iff]
  constructor
  · rintro ⟨⟨h1, h2⟩, h3⟩
    refine ⟨h1, fun i hi => ⟨?_, h3 i hi⟩, h2⟩
    have := h2 i hi; have := T.w i hi
    show 0 ≤ l.getD i 0 ∧ l.getD i 0 ≤ 30; omega
  · rintro ⟨h1, h2, h3⟩
    exact ⟨⟨h1, h3⟩, fun i hi => (h2 i hi).2⟩
theorem chg_nn {t : List Pt} {u : Nat → Int} : ∀ {k : Nat}, 0 ≤ chg t u k
  | 0 => Int.le_refl _
  | k + 1 => by have := chg_nn (t := t) (u := u) (k := k); have := @awy_nn (t.getD k default).w (u k); simp only [chg]; omega
theorem chg_le {t : List Pt} (T : TW t) {u : Nat → Int} (hu : ∀ i, i < t.length → 0 ≤ u i ∧ u i ≤ 30) : ∀ {k : Nat}, k ≤ t.length → chg t u k ≤ 30 * k
  | 0, _ => Int.le_refl _
  | k + 1, h => by
    have := chg_le T hu (k := k) (by omega)
    have := T.w k (by omega); have := hu k (by omega)
    have : awy (t.getD k default).w (u k) ≤ 30 := by unfold awy mx; split <;> split <;> omega
    simp only [chg]; omega
section
variable {t : List Pt} {v w : AV} {l : List Int}
end
end Go.Proofs.Yteonklnjchefiaa.S

/-
Costs by weight: arrays of 31 numbers; what each part costs, all together, and the least of it (program).
-/
namespace Go.Proofs.Yteonklnjchefiaa.S
open Go Go.Am Go.Proofs.Yteonklnjchefiaa.T
set_option maxRecDepth 100000
set_option linter.unusedSimpArgs false
set_option linter.unusedVariables false

def Z31 : List AV := List.replicate 31 (I 0)
def Z248 : List AV := List.replicate 248 (I 0)
def g125 : AFn := ⟨16, [.cell true 31 2],
 .seq (.region 0 [oQ 1 (.box (.t 0)),
 oQ 2 (.alloc Z31)])
 (.seq (.region 0 [oQ 3 (.alloc Z31)])
 (.seq (.seq (.region 0 [oP 5 (.move (.c (.int .i64 0)))])
 (.block 0 (.loop (.seq (.region 0 [oP 6 (.bin .lss (.t 5) (.c (.int .i64 31)))])
 (.seq (.cond (.t 6) (.skip)
 (.exit 0))
 (.seq (.block 1 (.seq (.region 0 [oP 7 (.move (.t 5)),
 oP 4 (.move (.t 7))])
 (.seq (.region 0 [oQ 8 (.load true 2 (.t 1)),
 oP 9 (.move (.t 4)),
 oQ 10 (.call 1 106 [(.t 8), (.t 9)]),
 oP 11 (.un .not (.t 10))])
 (.cond (.t 11) (.region 0 [oP 12 (.move (.t 4)),
 oP 13 (.idxArr 31 1 (.t 3) (.t 12)),
 ⟨none, .store 1 (.t 13) (.c (.int .i64 9223372036854775807)), none, none, []⟩])
 (.skip)))))
 (.region 0 [oP 14 (.bin .add (.t 5) (.c (.int .i64 1))),
 oP 5 (.move (.t 14))])))))))
 (.seq (.region 0 [oQ 15 (.load true 31 (.t 3)),
 ⟨none, .store 31 (.t 2) (.t 15), none, none, []⟩])
 (.ret))))⟩
theorem fg125 : f125 = g125 := by kernel_rfl
def g127 : AFn := ⟨23, [.cell true 31 6],
 .seq (.region 0 [oQ 3 (.box (.t 0)),
 oQ 6 (.alloc Z31)])
 (.seq (.seq (.region 0 [oP 8 (.move (.c (.int .i64 0)))])
 (.block 0 (.loop (.seq (.region 0 [oP 9 (.bin .lss (.t 8) (.c (.int .i64 31)))])
 (.seq (.cond (.t 9) (.skip)
 (.exit 0))
 (.seq (.block 1 (.seq (.region 0 [oP 10 (.move (.t 8)),
 oP 7 (.move (.t 10))])
 (.region 0 [oP 11 (.move (.t 7)),
 oP 12 (.move (.t 7)),
 oP 13 (.idxArr 31 1 (.t 3) (.t 12)),
 oQ 14 (.load false 1 (.t 13)),
 oP 15 (.move (.t 2)),
 oP 16 (.move (.t 1)),
 oP 17 (.move (.t 7)),
 oQ 18 (.callv true (.t 15) [(.t 16), (.t 17)]),
 oQ 19 (.call 1 128 [(.t 14), (.t 18)]),
 oP 20 (.idxArr 31 1 (.t 3) (.t 11)),
 ⟨none, .store 1 (.t 20) (.t 19), none, none, []⟩])))
 (.region 0 [oP 21 (.bin .add (.t 8) (.c (.int .i64 1))),
 oP 8 (.move (.t 21))])))))))
 (.seq (.region 0 [oQ 22 (.load true 31 (.t 3)),
 ⟨none, .store 31 (.t 6) (.t 22), none, none, []⟩])
 (.ret)))⟩
theorem fg127 : f127 = g127 := by kernel_rfl
def g130 : AFn := ⟨42, [.cell true 31 4],
 .seq (.region 0 [oQ 2 (.box (.t 0)),
 oQ 3 (.box (.t 1)),
 oQ 4 (.alloc Z31)])
 (.seq (.region 0 [oP 10 (.build [.int .i64 0, .int .i64 0] [(1, 1, (.c (.int .i64 (-1))))]),
 oQ 11 (.call 1 125 [(.t 10)]),
 oQ 5 (.alloc Z31),
 ⟨none, .store 31 (.t 5) (.t 11), none, none, []⟩])
 (.seq (.seq (.region 0 [oQ 12 (.load true 31 (.t 2)),
 oP 13 (.move (.c (.int .i64 0)))])
 (.block 0 (.loop (.seq (.region 0 [oP 14 (.bin .lss (.t 13) (.c (.int .i64 31)))])
 (.seq (.cond (.t 14) (.skip)
 (.exit 0))
 (.seq (.block 1 (.seq (.region 0 [oP 15 (.move (.t 13)),
 oP 16 (.idx false 31 1 (.t 12) (.t 13)),
 oP 6 (.move (.t 15)),
 oP 7 (.move (.t 16))])
 (.seq (.region 0 [oP 17 (.move (.t 6)),
 oP 18 (.bin .sub (.c (.int .i64 31)) (.t 17)),
 oQ 19 (.sliceA 31 1 (.t 3) (some ((.t 18), none))),
 oP 20 (.lenS (.t 19)),
 oP 21 (.move (.c (.int .i64 0)))])
 (.block 2 (.loop (.seq (.region 0 [oP 22 (.bin .lss (.t 21) (.t 20))])
 (.seq (.cond (.t 22) (.skip)
 (.exit 2))
 (.seq (.block 3 (.seq (.region 0 [oP 23 (.move (.t 21)),
 oP 24 (.idxSl 1 (.t 19) (.t 21)),
 oQ 25 (.load false 1 (.t 24)),
 oP 8 (.move (.t 23)),
 oP 9 (.move (.t 25))])
 (.region 0 [oP 26 (.move (.t 6)),
 oP 27 (.move (.t 8)),
 oP 28 (.bin .add (.t 26) (.t 27)),
 oP 29 (.move (.t 6)),
 oP 30 (.move (.t 8)),
 oP 31 (.bin .add (.t 29) (.t 30)),
 oP 32 (.idxArr 31 1 (.t 5) (.t 31)),
 oQ 33 (.load false 1 (.t 32)),
 oP 34 (.move (.t 7)),
 oP 35 (.move (.t 9)),
 oQ 36 (.call 1 128 [(.t 34), (.t 35)]),
 oP 37 (.minmax false (.t 33) [(.t 36)]),
 oP 38 (.idxArr 31 1 (.t 5) (.t 28)),
 ⟨none, .store 1 (.t 38) (.t 37), none, none, []⟩])))
 (.region 0 [oP 39 (.bin .add (.t 21) (.c (.int .i64 1))),
 oP 21 (.move (.t 39))])))))))))
 (.region 0 [oP 40 (.bin .add (.t 13) (.c (.int .i64 1))),
 oP 13 (.move (.t 40))])))))))
 (.seq (.region 0 [oQ 41 (.load true 31 (.t 5)),
 ⟨none, .store 31 (.t 4) (.t 41), none, none, []⟩])
 (.ret))))⟩
theorem fg130 : f130 = g130 := by kernel_rfl
def As102 : ACode := .seq (.region 0 [oP 8 (.move (.t 25))])
 (.region 0 [oQ 9 (.alloc [.int .i64 0, .int .i64 0, .int .i64 0, .int .i64 0, .int .i64 0, .int .i64 0]),
 ⟨none, .store 6 (.t 9) (.t 26), none, none, []⟩])
def Bd102 : ACode := .block 3 (.seq (.region 1 [oP 27 (.move (.t 8)),
 oP 28 (.idxArr 8 31 (.t 5) (.t 27)),
 ⟨(some 29), .load true 31 (.t 28), none, none, [0]⟩,
 oP 30 (.move (.t 8)),
 ⟨(some 31), .load false 1 (.t 3), none, none, [0]⟩,
 ⟨(some 32), .call 3 127 [(.t 29), (.t 30), (.t 31)], none, none, [0]⟩,
 ⟨(some 10), .alloc Z31, none, (some 0), []⟩,
 ⟨none, .store 31 (.t 10) (.t 32), none, (some 0), []⟩])
 (.seq (.region 0 [oP 33 (.fieldAddr 0 (.t 9)),
 oQ 34 (.load false 1 (.t 33)),
 oP 35 (.bin .eql (.t 34) (.c (.int .i64 (-1))))])
 (.cond (.t 35) (.region 0 [oQ 36 (.load false 1 (.t 7)),
 oQ 37 (.sliceA 31 1 (.t 10) none),
 oQ 38 (.call 1 129 [(.t 37)]),
 oQ 39 (.call 1 128 [(.t 36), (.t 38)]),
 ⟨none, .store 1 (.t 7) (.t 39), none, none, []⟩])
 (.region 0 [oP 40 (.fieldAddr 0 (.t 9)),
 oQ 41 (.load false 1 (.t 40)),
 oP 42 (.fieldAddr 0 (.t 9)),
 oQ 43 (.load false 1 (.t 42)),
 oP 44 (.idxArr 8 31 (.t 5) (.t 43)),
 oQ 45 (.load true 31 (.t 44)),
 oQ 46 (.load true 31 (.t 10)),
 oQ 47 (.call 1 130 [(.t 45), (.t 46)]),
 oP 48 (.idxArr 8 31 (.t 5) (.t 41)),
 ⟨none, .store 31 (.t 48) (.t 47), none, none, []⟩]))))
def g102 : AFn := ⟨50, [.tmp 4],
 .seq (.region 0 [oQ 3 (.box (.t 1)),
 oP 4 (.move (.c (.int .i64 0)))])
 (.seq (.region 0 [oQ 5 (.alloc Z248)])
 (.seq (.seq (.region 0 [oP 11 (.move (.t 0)),
 oP 12 (.lenS (.t 11)),
 oP 13 (.move (.c (.int .i64 0)))])
 (.block 0 (.loop (.seq (.region 0 [oP 14 (.bin .lss (.t 13) (.t 12))])
 (.seq (.cond (.t 14) (.skip)
 (.exit 0))
 (.seq (.block 1 (.seq (.region 0 [oP 15 (.move (.t 13)),
 oP 6 (.move (.t 15))])
 (.region 0 [oP 16 (.move (.t 6)),
 oP 17 (.move (.t 0)),
 oP 18 (.move (.t 6)),
 oQ 19 (.call 1 107 [(.t 17), (.t 18)]),
 oQ 20 (.call 1 125 [(.t 19)]),
 oP 21 (.idxArr 8 31 (.t 5) (.t 16)),
 ⟨none, .store 31 (.t 21) (.t 20), none, none, []⟩])))
 (.region 0 [oP 22 (.bin .add (.t 13) (.c (.int .i64 1))),
 oP 13 (.move (.t 22))])))))))
 (.seq (.region 0 [oQ 7 (.alloc [.int .i64 0]),
 ⟨none, .store 1 (.t 7) (.c (.int .i64 0)), none, none, []⟩])
 (.seq (.seq (.region 0 [oP 23 (.move (.t 0)),
 oQ 24 (.call 0 126 [(.t 23)])])
 (.block 2 (.rangeFunc (.t 24) [25, 26] As102
 Bd102)))
 (.seq (.region 0 [oQ 49 (.load false 1 (.t 7)),
 oP 4 (.move (.t 49))])
 (.ret))))))⟩
theorem fg102 : f102 = g102 := by kernel_rfl


/-! rows of numbers -/
def rng (n : Nat) (f : Nat → Int) : List Int := (List.range n).map f
def rw_ (n : Nat) (f : Nat → Int) : List AV := (rng n f).flatMap intL
theorem rng_len {n : Nat} {f : Nat → Int} : (rng n f).length = n := by simp [rng]
theorem rng_at {n : Nat} {f : Nat → Int} {i : Nat} (h : i < n) : (rng n f).getD i 0 = f i := rmap_at h
theorem rng_set {n : Nat} {f : Nat → Int} {i : Nat} {x : Int} : (rng n f).set i x = rng n fun b => if b = i then x else f b := by
  refine List.ext_getElem (by simp [rng]) fun k h1 h2 => ?_
  simp only [rng, List.getElem_set, List.getElem_map, List.getElem_range]
  by_cases e : i = k
  · subst e; simp
  · rw [if_neg e, if_neg (fun h => e h.symm)]
theorem rng_congr {n : Nat} {f g : Nat → Int} (h : ∀ i, i < n → f i = g i) : rng n f = rng n g := List.map_congr_left fun i hi => h i (List.mem_range.1 hi)
theorem rw_len {n : Nat} {f : Nat → Int} : (rw_ n f).length = n := by rw [rw_, flat_len intE, rng_len, Nat.mul_one]
theorem rw_congr {n : Nat} {f g : Nat → Int} (h : ∀ i, i < n → f i = g i) : rw_ n f = rw_ n g := by rw [rw_, rng_congr h]; rfl
theorem rw_head {n : Nat} {f : Nat → Int} {i : Nat} (h : i < n) : ((rw_ n f).drop i).head? = some (I (f i)) := by
  rw [rw_, flat_head (by rw [rng_len]; exact h), rng_at h]
theorem rw_put {n : Nat} {f : Nat → Int} {i : Nat} (h : i < n) {x : Int} {g : Nat → Int} (hg : ∀ b, b < n → g b = if b = i then x else f b) : (rw_ n f).take i ++ [I x] ++ (rw_ n f).drop (i + 1) = rw_ n g := by
  rw [rw_, int_put (by rw [rng_len]; exact h), rng_set]
  exact (rw_congr hg).symm
theorem rw_take {n : Nat} {f : Nat → Int} : (rw_ n f).take n = rw_ n f := List.take_of_length_le (by rw [rw_len]; exact Nat.le_refl _)
theorem rw_sc {n : Nat} {f : Nat → Int} : (rw_ n f).all AV.scalar = true := scal_sl intSc _
theorem rw_view {n : Nat} {f : Nat → Int} {st : Bool} {h : List AO} {k : Nat} : (rw_ n f).mapM (view st h k) = some (rw_ n f) := flat_view intIv _
theorem rw_pure {n : Nat} {f : Nat → Int} : AV.pureV.go (rw_ n f) = true := by
  unfold rw_
  induction rng n f with
  | nil => rfl
  | cons a l ih => simp only [List.flatMap_cons, List.cons_append, List.nil_append, AV.pureV.go, AV.pureV, ih, Bool.and_true]
theorem rw_under {n : Nat} {f : Nat → Int} {k : Nat} : AV.under.go k (rw_ n f) = true := by
  unfold rw_
  induction rng n f with
  | nil => rfl
  | cons a l ih => simp only [List.flatMap_cons, List.cons_append, List.nil_append, AV.under.go, AV.under, ih, Bool.and_true]
theorem z31 : Z31 = rw_ 31 fun _ => 0 := by kernel_rfl

theorem nn (i : Nat) : (0 : Int) ≤ i := Int.natCast_nonneg i
/-- costs as numbers -/
def En : Option Int → Int
  | none => 9223372036854775807
  | some v => v
def Bd (B : Int) (a : Option Int) : Prop := ∀ v, a = some v → -B ≤ v ∧ v ≤ B
theorem Bd.mo {B : Int} {a b : Option Int} (h : Bd B a) (h' : Bd B b) : Bd B (mo a b) := by
  cases a <;> cases b <;> intro v hv <;> simp only [S.mo, Option.some.injEq, reduceCtorEq] at hv
  · subst hv; exact h' _ rfl
  · subst hv; exact h _ rfl
  · subst hv
    rename_i x y
    rcases mn_or (x := x) (y := y) with e | e <;> rw [e]
    · exact h _ rfl
    · exact h' _ rfl
theorem Bd.lst {B : Int} {f : Nat → Option Int} : ∀ {k : Nat}, (∀ i, i < k → Bd B (f i)) → Bd B (lst f k)
  | 0, _ => fun v hv => by cases hv
  | k + 1, h => Bd.mo (Bd.lst fun i hi => h i (by omega)) (h k (by omega))
theorem Bd.pl {B C : Int} {a b : Option Int} (h : Bd B a) (h' : Bd C b) : Bd (B + C) (pl a b) := by
  intro v hv
  obtain ⟨x, y, rfl, rfl, rfl⟩ := pl_some.1 hv
  have := h _ rfl; have := h' _ rfl; omega
theorem Bd.up {B C : Int} {a : Option Int} (h : Bd B a) (hc : B ≤ C) : Bd C a := fun v hv => by have := h v hv; omega
theorem En_mo {B : Int} {a b : Option Int} (hB : B ≤ 1000000000) (h : Bd B a) (h' : Bd B b) : En (mo a b) = mn (En a) (En b) := by
  cases a with
  | none =>
    cases b with
    | none => rfl
    | some y => have := h' _ rfl; exact (if_pos (by simp only [En]; omega)).symm
  | some x =>
    cases b with
    | none => have := h _ rfl; exact (if_neg (by simp only [En]; omega)).symm
    | some y => rfl
theorem sPl {B C : Int} {a b : Option Int} (hB : B ≤ 1000000000) (hC : C ≤ 1000000000) (h : Bd B a) (h' : Bd C b) (st : Bool) : Iso E 128 [I (En a), I (En b)] st = some (I (En (pl a b))) := by
  rw [s128 _ _ (by
    intro h1 h2
    cases a with
    | none => exact absurd rfl h1
    | some x => cases b with
      | none => exact absurd rfl h2
      | some y => have := h _ rfl; have := h' _ rfl; simp only [En]; omega) st]
  congr 2
  cases a with
  | none => rw [if_pos (.inl rfl), none_pl]; rfl
  | some x => cases b with
    | none => rw [if_pos (.inr rfl), pl_none]; rfl
    | some y =>
      have := h _ rfl; have := h' _ rfl
      rw [if_neg (by simp only [En]; omega)]; rfl
/-- an array of costs -/
abbrev rwE (f : Int → Option Int) : List AV := rw_ 31 fun b => En (f b)
abbrev agE (f : Int → Option Int) : AV := .agg (rwE f)
theorem rwE_congr {f g : Int → Option Int} (h : ∀ i : Nat, i < 31 → f i = g i) : rwE f = rwE g := rw_congr fun i hi => by rw [h i hi]

set_option maxHeartbeats 1000000 in
theorem s125 (lo hi : Int) (st : Bool) : Iso E 125 [.agg [I lo, I hi]] st = some (agE fun y => if lo ≤ y ∧ y ≤ hi then some 0 else none) := by
  obtain ⟨f, hf⟩ : ∃ f : Int → Option Int, f = fun y => if lo ≤ y ∧ y ≤ hi then some 0 else none := ⟨_, rfl⟩
  rw [← hf]
  refine Iso_of (es _ _ _ _) e125 ?_
  simp only [fg125, g125]
  simp (disch := first | assumption | omega | (simp only [az]; done)) only [ru, eq_self, if_true, if_false, BEq.rfl, binI, AO.row?, splice, fillL, mmAll, loadV, storeV, zeros, Am.rowAt, Am.part, addOff, Nat.reduceAdd, Nat.reduceMul, Nat.reduceLeDiff, Nat.reduceSub, Nat.reduceLT, Int.reduceEq, Int.reduceLT, Int.reduceLE, Int.reduceGT, Int.reduceGE, Int.reduceAdd, Int.reduceSub, Int.reduceMul, Int.reduceNeg, Int.reduceToNat, reduceCtorEq, reduceIte]
  refine G_loop_ind (fun m ts hh mk => ∃ i : Nat, i ≤ 31 ∧ m = 31 - i ∧ ts.length = 16 ∧ ts.getD 1 .undef = .ptr 0 0 ∧ ts.getD 2 .undef = .ptr 1 0 ∧ ts.getD 3 .undef = .ptr 2 0 ∧ ts.getD 5 .undef = I i ∧ hh = [.cells [I lo, I hi] false, .cells Z31 false, .cells (rw_ 31 fun b => if b < i then En (f b) else 0) false] ∧ mk = []) ?_ _ _ _ _
    ⟨0, by omega, rfl, rfl, rfl, rfl, rfl, rfl, by rw [z31]; rfl, rfl⟩
  rintro m ts hh mk ih ⟨i, hi', rfl, hl', q1, q2, q3, q5, rfl, rfl⟩
  rw [lit_all hl']
  simp only [lit0, litS, Nat.reduceAdd, q1, q2, q3, q5]
  by_cases hlt : (i : Int) < 31
  case neg =>
    obtain rfl : i = 31 := by omega
    have e : (rw_ 31 fun b => if b < 31 then En (f b) else 0) = rwE f := rw_congr fun b hb => by rw [if_pos hb]
    have zl : 31 ≤ Z31.length := by rw [z31, rw_len]; exact Nat.le_refl _
    have zd : Z31.drop 31 = [] := by rw [z31]; exact List.drop_of_length_le (by rw [rw_len]; exact Nat.le_refl _)
    rw [e]
    have vt := rw_take (n := 31) (f := fun b => En (f b))
    have vl := rw_len (n := 31) (f := fun b => En (f b))
    have vs := rw_sc (n := 31) (f := fun b => En (f b))
    have vv := fun st h k => rw_view (n := 31) (f := fun b => En (f b)) (st := st) (h := h) (k := k)
    simp (disch := first | assumption | omega | (simp only [az]; done)) only [ru, eq_self, if_true, if_false, BEq.rfl, binI, AO.row?, splice, fillL, mmAll, loadV, storeV, zeros, Am.rowAt, Am.part, addOff, Nat.reduceAdd, Nat.reduceMul, Nat.reduceLeDiff, Nat.reduceSub, Nat.reduceLT, Int.reduceEq, Int.reduceLT, Int.reduceLE, Int.reduceGT, Int.reduceGE, Int.reduceAdd, Int.reduceSub, Int.reduceMul, Int.reduceNeg, Int.reduceToNat, reduceCtorEq, reduceIte, hlt, decide_false, vt, vl, vs, zl, zd, List.append_nil, finC, getRes, Option.some.injEq, exists_eq_left', view_agg, vv, Option.map_some]
  have hi2 : i < 31 := by omega
  have ef : f i = if inR i lo hi then some 0 else none := by rw [hf]; simp only [inR, Bool.and_eq_true, decide_eq_true_eq]
  cases hc : inR i lo hi
  · have fi : f i = none := by rw [ef, hc]; rfl
    obtain ⟨R, hR⟩ : ∃ R, R = rw_ 31 fun b => if b < i then En (f b) else 0 := ⟨_, rfl⟩
    have rp : R.take i ++ [I 9223372036854775807] ++ R.drop (i + 1) = rw_ 31 fun b => if b < i + 1 then En (f b) else 0 := by
      rw [hR]
      refine rw_put hi2 fun b hb => ?_
      by_cases e : b = i
      · subst e; rw [if_pos rfl, if_pos (by omega), fi]; rfl
      · rw [if_neg e]; by_cases e2 : b < i
        · rw [if_pos e2, if_pos (by omega)]
        · rw [if_neg e2, if_neg (by omega)]
    have rl : R.length = 31 := by rw [hR, rw_len]
    have fit : i + 1 ≤ R.length := by omega
    rw [← hR]
    simp (disch := first | assumption | omega | (simp only [az]; done)) only [ru, eq_self, if_true, if_false, BEq.rfl, binI, AO.row?, splice, fillL, mmAll, loadV, storeV, zeros, Am.rowAt, Am.part, addOff, Nat.reduceAdd, Nat.reduceMul, Nat.reduceLeDiff, Nat.reduceSub, Nat.reduceLT, Int.reduceEq, Int.reduceLT, Int.reduceLE, Int.reduceGT, Int.reduceGE, Int.reduceAdd, Int.reduceSub, Int.reduceMul, Int.reduceNeg, Int.reduceToNat, reduceCtorEq, reduceIte, hlt, decide_true, s106, hc, Bool.not_false, nn, Int.toNat_natCast, Nat.mul_one, Nat.zero_add, fit, rp]
    exact ih (31 - (i + 1)) _ _ _ (by omega) ⟨i + 1, by omega, rfl, rfl, rfl, rfl, rfl, rfl, rfl, rfl⟩
  · have fi : f i = some 0 := by rw [ef, hc]; rfl
    have rp : (rw_ 31 fun b => if b < i then En (f b) else 0) = rw_ 31 fun b => if b < i + 1 then En (f b) else 0 := by
      refine rw_congr fun b hb => ?_
      by_cases e : b = i
      · subst e; rw [if_neg (by omega), if_pos (by omega), fi]; rfl
      · by_cases e2 : b < i
        · rw [if_pos e2, if_pos (by omega)]
        · rw [if_neg e2, if_neg (by omega)]
    rw [rp]
    simp (disch := first | assumption | omega | (simp only [az]; done)) only [ru, eq_self, if_true, if_false, BEq.rfl, binI, AO.row?, splice, fillL, mmAll, loadV, storeV, zeros, Am.rowAt, Am.part, addOff, Nat.reduceAdd, Nat.reduceMul, Nat.reduceLeDiff, Nat.reduceSub, Nat.reduceLT, Int.reduceEq, Int.reduceLT, Int.reduceLE, Int.reduceGT, Int.reduceGE, Int.reduceAdd, Int.reduceSub, Int.reduceMul, Int.reduceNeg, Int.reduceToNat, reduceCtorEq, reduceIte, hlt, decide_true, s106, hc, Bool.not_true]
    exact ih (31 - (i + 1)) _ _ _ (by omega) ⟨i + 1, by omega, rfl, rfl, rfl, rfl, rfl, rfl, rfl, rfl⟩

/-- what a value that is called says that parts cost, in a heap and all that are more -/
def Cost (h : List AO) (fv : AV) (n : Nat) (c : Nat → Int → Option Int) : Prop := ∃ g first cap, fv = .fn g first cap ∧ ∀ h', Fr h h' → ∀ i : Nat, i < n → ∀ w : Nat, w < 31 → Ro E g (first ++ I i :: I w :: cap) h' = some (I (En (c i w)))

set_option maxHeartbeats 1000000 in
theorem s127 {h : List AO} {fv : AV} {n : Nat} {c : Nat → Int → Option Int} (hC : Cost h fv n c) {i : Nat} (hi : i < n) {f : Int → Option Int} (hf : ∀ b, Bd 500000000 (f b)) (hc : ∀ b, Bd 500000000 (c i b)) :
    Ro E 127 [agE f, I i, fv] h = some (agE fun y => pl (f y) (c i y)) := by
  obtain ⟨g, first, cap, rfl, hg⟩ := hC
  refine Ro_of (es _ _ _ _) e127 ?_
  simp only [fg127, g127]
  simp (disch := first | assumption | omega | (simp only [az]; done)) only [ru, eq_self, if_true, if_false, BEq.rfl, binI, AO.row?, splice, fillL, mmAll, loadV, storeV, zeros, Am.rowAt, Am.part, addOff, Nat.reduceAdd, Nat.reduceMul, Nat.reduceLeDiff, Nat.reduceSub, Nat.reduceLT, Int.reduceEq, Int.reduceLT, Int.reduceLE, Int.reduceGT, Int.reduceGE, Int.reduceAdd, Int.reduceSub, Int.reduceMul, Int.reduceNeg, Int.reduceToNat, reduceCtorEq, reduceIte]
  refine G_loop_ind (fun m ts hh mk => ∃ j : Nat, j ≤ 31 ∧ m = 31 - j ∧ ts.length = 23 ∧ ts.getD 1 .undef = I i ∧ ts.getD 2 .undef = .fn g first cap ∧ ts.getD 3 .undef = .ptr h.length 0 ∧ ts.getD 6 .undef = .ptr (h.length + 1) 0 ∧ ts.getD 8 .undef = I j ∧ hh = h ++ [.cells (rw_ 31 fun b => if b < j then En (pl (f b) (c i b)) else En (f b)) false, .cells Z31 false] ∧ mk = []) ?_ _ _ _ _
    ⟨0, by omega, rfl, rfl, rfl, rfl, rfl, by simp (disch := first | assumption | omega | (simp only [az]; done)) only [ru, eq_self, if_true, if_false, BEq.rfl, binI, AO.row?, splice, fillL, mmAll, loadV, storeV, zeros, Am.rowAt, Am.part, addOff, Nat.reduceAdd, Nat.reduceMul, Nat.reduceLeDiff, Nat.reduceSub, Nat.reduceLT, Int.reduceEq, Int.reduceLT, Int.reduceLE, Int.reduceGT, Int.reduceGE, Int.reduceAdd, Int.reduceSub, Int.reduceMul, Int.reduceNeg, Int.reduceToNat, reduceCtorEq, reduceIte, lenE], rfl, by simp (disch := first | assumption | omega | (simp only [az]; done)) only [ru, eq_self, if_true, if_false, BEq.rfl, binI, AO.row?, splice, fillL, mmAll, loadV, storeV, zeros, Am.rowAt, Am.part, addOff, Nat.reduceAdd, Nat.reduceMul, Nat.reduceLeDiff, Nat.reduceSub, Nat.reduceLT, Int.reduceEq, Int.reduceLT, Int.reduceLE, Int.reduceGT, Int.reduceGE, Int.reduceAdd, Int.reduceSub, Int.reduceMul, Int.reduceNeg, Int.reduceToNat, reduceCtorEq, reduceIte, List.append_assoc] ; rfl, rfl⟩
  rintro m ts hh mk ih ⟨j, hj', rfl, hl', q1, q2, q3, q6, q8, rfl, rfl⟩
  rw [lit_all hl']
  simp only [lit0, litS, Nat.reduceAdd, q1, q2, q3, q6, q8]
  by_cases hlt : (j : Int) < 31
  case neg =>
    obtain rfl : j = 31 := by omega
    have e : (rw_ 31 fun b => if b < 31 then En (pl (f b) (c i b)) else En (f b)) = rwE fun y => pl (f y) (c i y) := rw_congr fun b hb => by rw [if_pos hb]
    have zl : 31 ≤ Z31.length := by rw [z31, rw_len]; exact Nat.le_refl _
    have zd : Z31.drop 31 = [] := by rw [z31]; exact List.drop_of_length_le (by rw [rw_len]; exact Nat.le_refl _)
    rw [e]
    obtain ⟨R, hR⟩ : ∃ R, R = rwE fun y => pl (f y) (c i y) := ⟨_, rfl⟩
    have vt : R.take 31 = R := by rw [hR]; exact rw_take
    have vl : R.length = 31 := by rw [hR]; exact rw_len
    have vs : R.all AV.scalar = true := by rw [hR]; exact rw_sc
    have vu : (AV.agg R).under h.length = true := by rw [hR]; exact rw_under
    rw [← hR]
    have hle : h.length ≤ h.length + 1 := by omega
    simp (disch := first | assumption | omega | (simp only [az]; done)) only [ru, eq_self, if_true, if_false, BEq.rfl, binI, AO.row?, splice, fillL, mmAll, loadV, storeV, zeros, Am.rowAt, Am.part, addOff, Nat.reduceAdd, Nat.reduceMul, Nat.reduceLeDiff, Nat.reduceSub, Nat.reduceLT, Int.reduceEq, Int.reduceLT, Int.reduceLE, Int.reduceGT, Int.reduceGE, Int.reduceAdd, Int.reduceSub, Int.reduceMul, Int.reduceNeg, Int.reduceToNat, reduceCtorEq, reduceIte, hlt, decide_false, vt, vl, vs, zl, zd, hle, List.append_nil, List.append_assoc, lenE, setT, setT0, atT, atT0, getT, getT0, finC, getRes, Option.some.injEq, exists_eq_left']
    exact ⟨by rw [hR], rw_under⟩
  have hj2 : j < 31 := by omega
  obtain ⟨R, hR⟩ : ∃ R, R = rw_ 31 fun b => if b < j then En (pl (f b) (c i b)) else En (f b) := ⟨_, rfl⟩
  have rh : (R.drop j).head? = some (I (En (f j))) := by rw [hR, rw_head hj2, if_neg (by omega)]
  have rp : R.take j ++ [I (En (pl (f j) (c i j)))] ++ R.drop (j + 1) = rw_ 31 fun b => if b < j + 1 then En (pl (f b) (c i b)) else En (f b) := by
    rw [hR]
    refine rw_put hj2 fun b hb => ?_
    by_cases e : b = j
    · subst e; rw [if_pos rfl, if_pos (by omega)]
    · rw [if_neg e]; by_cases e2 : b < j
      · rw [if_pos e2, if_pos (by omega)]
      · rw [if_neg e2, if_neg (by omega)]
  have rl : R.length = 31 := by rw [hR, rw_len]
  have fit : j + 1 ≤ R.length := by omega
  rw [← hR]
  have hcall := hg (h ++ [.cells R false, .cells Z31 false]) (Fr.app _ _) i hi j hj2
  have pp := fun st => sPl (by omega) (by omega) (hf j) (hc j) st
  simp only [List.append_assoc, apC, apN] at rp
  have hle : h.length ≤ h.length := Nat.le_refl _
  simp (disch := first | assumption | omega | (simp only [az]; done)) only [ru, eq_self, if_true, if_false, BEq.rfl, binI, AO.row?, splice, fillL, mmAll, loadV, storeV, zeros, Am.rowAt, Am.part, addOff, Nat.reduceAdd, Nat.reduceMul, Nat.reduceLeDiff, Nat.reduceSub, Nat.reduceLT, Int.reduceEq, Int.reduceLT, Int.reduceLE, Int.reduceGT, Int.reduceGE, Int.reduceAdd, Int.reduceSub, Int.reduceMul, Int.reduceNeg, Int.reduceToNat, reduceCtorEq, reduceIte, hlt, decide_true, List.append_assoc, lenE, setT, setT0, atT, atT0, getT, getT0, nn, Int.toNat_natCast, Nat.mul_one, Nat.zero_add, rh, exOp_callv1, hcall, pp, fit, rp, hle]
  exact ih (31 - (j + 1)) _ _ _ (by omega) ⟨j + 1, by omega, rfl, rfl, rfl, rfl, rfl, rfl, rfl, rfl, rfl⟩

theorem s129 {f : Nat → Option Int} {v : AV} (V : IsSl 1 intL (rng 31 fun b => En (f b)) v) {B : Int} (hB : B ≤ 1000000000) (hf : ∀ b, Bd B (f b)) (st : Bool) : Iso E 129 [v] st = some (I (En (lst f 31))) := by
  have ln := rng_len (n := 31) (f := fun b => En (f b))
  obtain ⟨L, hL⟩ : ∃ L, L = rng 31 fun b => En (f b) := ⟨_, rfl⟩
  rw [← hL] at V ln
  have at_ : ∀ i, i < 31 → L.getD i 0 = En (f i) := fun i hi => by rw [hL, rng_at hi]
  have a0 := at_ 0 (by omega)
  refine Iso_of (es _ _ _ _) e129 ?_
  simp only [f129]
  have n0 : ¬ (31 : Int) < 1 := by omega
  have n1 : (0 : Int) < L.length := by rw [ln]; decide
  have lL : (L.length : Int) = 31 := by rw [ln]; rfl
  obtain ⟨x0, hx0⟩ : ∃ x0, x0 = L.getD 0 0 := ⟨_, rfl⟩
  simp (disch := first | assumption | omega | (simp only [az]; done)) only [ru, eq_self, if_true, if_false, BEq.rfl, binI, AO.row?, splice, fillL, mmAll, loadV, storeV, zeros, Am.rowAt, Am.part, addOff, Nat.reduceAdd, Nat.reduceMul, Nat.reduceLeDiff, Nat.reduceSub, Nat.reduceLT, Int.reduceEq, Int.reduceLT, Int.reduceLE, Int.reduceGT, Int.reduceGE, Int.reduceAdd, Int.reduceSub, Int.reduceMul, Int.reduceNeg, Int.reduceToNat, reduceCtorEq, reduceIte, lenV_sl V, elem_in V, view_sl V, scalar_sl V, cells_sl V, pure_sl V, Int.toNat_natCast, lL, n0, n1, ← hx0, Int.toNat_zero, decide_false]
  refine G_loop_ind (fun m ts hh mk => ∃ j : Nat, 1 ≤ j ∧ j ≤ 31 ∧ m = 31 - j ∧ ts.length = 25 ∧ ts.getD 0 .undef = v ∧ ts.getD 3 .undef = I (En (lst f j)) ∧ ts.getD 4 .undef = I j ∧ hh = [] ∧ mk = []) ?_ _ _ _ _
    ⟨1, by omega, by omega, rfl, rfl, rfl, by rw [hx0, a0]; rfl, rfl, rfl, rfl⟩
  rintro m ts hh mk ih ⟨j, hj1, hj', rfl, hl', q0, q3, q4, rfl, rfl⟩
  rw [lit_all hl']
  simp only [lit0, litS, Nat.reduceAdd, q0, q3, q4]
  by_cases hlt : (j : Int) < 31
  case neg =>
    obtain rfl : j = 31 := by omega
    simp (disch := first | assumption | omega | (simp only [az]; done)) only [ru, eq_self, if_true, if_false, BEq.rfl, binI, AO.row?, splice, fillL, mmAll, loadV, storeV, zeros, Am.rowAt, Am.part, addOff, Nat.reduceAdd, Nat.reduceMul, Nat.reduceLeDiff, Nat.reduceSub, Nat.reduceLT, Int.reduceEq, Int.reduceLT, Int.reduceLE, Int.reduceGT, Int.reduceGE, Int.reduceAdd, Int.reduceSub, Int.reduceMul, Int.reduceNeg, Int.reduceToNat, reduceCtorEq, reduceIte, lenV_sl V, elem_in V, view_sl V, scalar_sl V, cells_sl V, pure_sl V, Int.toNat_natCast, lL, hlt, decide_false]
  have aj := at_ j (by omega)
  have hlt2 : (j : Int) < L.length := by omega
  have em : En (lst f (j + 1)) = mn (En (lst f j)) (En (f j)) := En_mo hB (Bd.lst fun i _ => hf i) (hf j)
  have em2 : mmx false (En (lst f j)) (En (f j)) = mn (En (lst f j)) (En (f j)) := rfl
  simp (disch := first | assumption | omega | (simp only [az]; done)) only [ru, eq_self, if_true, if_false, BEq.rfl, binI, AO.row?, splice, fillL, mmAll, loadV, storeV, zeros, Am.rowAt, Am.part, addOff, Nat.reduceAdd, Nat.reduceMul, Nat.reduceLeDiff, Nat.reduceSub, Nat.reduceLT, Int.reduceEq, Int.reduceLT, Int.reduceLE, Int.reduceGT, Int.reduceGE, Int.reduceAdd, Int.reduceSub, Int.reduceMul, Int.reduceNeg, Int.reduceToNat, reduceCtorEq, reduceIte, lenV_sl V, elem_in V, view_sl V, scalar_sl V, cells_sl V, pure_sl V, Int.toNat_natCast, lL, hlt, hlt2, aj, decide_true, em2, ← em]
  exact ih (31 - (j + 1)) _ _ _ (by omega) ⟨j + 1, by omega, by omega, rfl, rfl, rfl, rfl, rfl, rfl, rfl⟩

/-! two things together -/
def cnt (a b y : Nat) : Nat := if a ≤ y ∧ y < a + b then a + 1 else min a (y + 1)
def bsU (f g : Int → Option Int) (a b y : Nat) : Option Int := lst (fun x => pl (f x) (g ((y : Int) - x))) (cnt a b y)
theorem bsU_at {f g : Int → Option Int} {a b : Nat} : bsU f g a (b + 1) (a + b) = mo (bsU f g a b (a + b)) (pl (f a) (g b)) := by
  have e1 : cnt a (b + 1) (a + b) = a + 1 := by unfold cnt; rw [if_pos (by omega)]
  have e2 : cnt a b (a + b) = a := by unfold cnt; rw [if_neg (by omega)]; omega
  unfold bsU
  rw [e1, e2, lst]
  congr 2
  congr 1; omega
theorem bsU_ne {f g : Int → Option Int} {a b y : Nat} (h : y ≠ a + b) : bsU f g a (b + 1) y = bsU f g a b y := by
  have : cnt a (b + 1) y = cnt a b y := by unfold cnt; split <;> split <;> omega
  unfold bsU; rw [this]
theorem bsU_next {f g : Int → Option Int} {a y : Nat} (h : y < 31) (ha : a < 31) : bsU f g a (31 - a) y = bsU f g (a + 1) 0 y := by
  have : cnt a (31 - a) y = cnt (a + 1) 0 y := by unfold cnt; split <;> split <;> omega
  unfold bsU; rw [this]
theorem bsU_end {f g : Int → Option Int} {y : Nat} (h : y < 31) : bsU f g 31 0 y = lst (fun x => pl (f x) (g ((y : Int) - x))) ((y : Int).toNat + 1) := by
  have : cnt 31 0 y = (y : Int).toNat + 1 := by unfold cnt; rw [if_neg (by omega)]; omega
  unfold bsU; rw [this]
theorem bsU_zero {f g : Int → Option Int} {y : Nat} : bsU f g 0 0 y = none := by
  have : cnt 0 0 y = 0 := by unfold cnt; rw [if_neg (by omega)]; omega
  unfold bsU; rw [this]; rfl

set_option maxHeartbeats 2000000 in
theorem s130 {f g : Int → Option Int} {B : Int} (hB : B ≤ 400000000) (hf : ∀ b, Bd B (f b)) (hg : ∀ b, Bd B (g b)) (st : Bool) : Iso E 130 [agE f, agE g] st = some (agE fun y => lst (fun x => pl (f x) (g (y - x))) (y.toNat + 1)) := by
  have bU : ∀ a b y, Bd (B + B) (bsU f g a b y) := fun a b y => Bd.lst fun i _ => (hf _).pl (hg _)
  obtain ⟨F, hF⟩ : ∃ F, F = rwE f := ⟨_, rfl⟩
  obtain ⟨Gg, hG⟩ : ∃ G, G = rwE g := ⟨_, rfl⟩
  have Ft : F.take 31 = F := by rw [hF]; exact rw_take
  have Fl : F.length = 31 := by rw [hF]; exact rw_len
  have Gl : Gg.length = 31 := by rw [hG]; exact rw_len
  have Fs : F.all AV.scalar = true := by rw [hF]; exact rw_sc
  have Gs : Gg.all AV.scalar = true := by rw [hG]; exact rw_sc
  have Fh : ∀ a, a < 31 → (F.drop a).head? = some (I (En (f a))) := fun a ha => by rw [hF]; exact rw_head ha
  have Gh : ∀ a, a < 31 → (Gg.drop a).head? = some (I (En (g a))) := fun a ha => by rw [hG]; exact rw_head ha
  have zl : 31 ≤ Z31.length := by rw [z31, rw_len]; exact Nat.le_refl _
  have zd : Z31.drop 31 = [] := by rw [z31]; exact List.drop_of_length_le (by rw [rw_len]; exact Nat.le_refl _)
  have b0 : (fun y => if (0 : Int) ≤ y ∧ y ≤ -1 then some 0 else none : Int → Option Int) = fun _ => none := by
    funext y; rw [if_neg (by omega)]
  obtain ⟨N, hN⟩ : ∃ N, N = rwE fun _ => none := ⟨_, rfl⟩
  have Nl : N.length = 31 := by rw [hN]; exact rw_len
  have Ns : N.all AV.scalar = true := by rw [hN]; exact rw_sc
  have e0 : N = rw_ 31 fun y => En (bsU f g 0 0 y) := by rw [hN]; exact rw_congr fun y _ => by rw [bsU_zero]
  have g0 : ∀ st, Iso E 125 [.agg [I 0, I (-1)]] st = some (.agg N) := fun st => by rw [hN, s125, b0]
  show Iso E 130 [.agg (rwE f), .agg (rwE g)] st = some _
  rw [← hF, ← hG]
  refine Iso_of (es _ _ _ _) e130 ?_
  simp only [fg130, g130]
  simp (disch := first | assumption | omega | (simp only [az]; done)) only [ru, eq_self, if_true, if_false, BEq.rfl, binI, AO.row?, splice, fillL, mmAll, loadV, storeV, zeros, Am.rowAt, Am.part, addOff, Nat.reduceAdd, Nat.reduceMul, Nat.reduceLeDiff, Nat.reduceSub, Nat.reduceLT, Int.reduceEq, Int.reduceLT, Int.reduceLE, Int.reduceGT, Int.reduceGE, Int.reduceAdd, Int.reduceSub, Int.reduceMul, Int.reduceNeg, Int.reduceToNat, reduceCtorEq, reduceIte, g0, Nl, Ns, Fl, Ft, zl, zd, List.append_nil]
  refine G_loop_ind (fun m ts hh mk => ∃ a : Nat, a ≤ 31 ∧ m = 31 - a ∧ ts.length = 42 ∧ ts.getD 2 .undef = .ptr 0 0 ∧ ts.getD 3 .undef = .ptr 1 0 ∧ ts.getD 4 .undef = .ptr 2 0 ∧ ts.getD 5 .undef = .ptr 3 0 ∧ ts.getD 12 .undef = .agg F ∧ ts.getD 13 .undef = I a ∧ hh = [.cells F false, .cells Gg false, .cells Z31 false, .cells (rw_ 31 fun y => En (bsU f g a 0 y)) false] ∧ mk = []) ?_ _ _ _ _
    ⟨0, by omega, rfl, rfl, rfl, rfl, rfl, rfl, rfl, rfl, by rw [← e0], rfl⟩
  rintro m ts hh mk ih ⟨a, ha', rfl, hl', q2, q3, q4, q5, q12, q13, rfl, rfl⟩
  rw [lit_all hl']
  simp only [lit0, litS, Nat.reduceAdd, q2, q3, q4, q5, q12, q13]
  by_cases hlt : (a : Int) < 31
  case neg =>
    obtain rfl : a = 31 := by omega
    have e : (rw_ 31 fun y => En (bsU f g 31 0 y)) = rwE fun y => lst (fun x => pl (f x) (g (y - x))) (y.toNat + 1) := rw_congr fun y hy => by rw [bsU_end hy]
    rw [e]
    obtain ⟨R, hR⟩ : ∃ R, R = rwE fun y => lst (fun x => pl (f x) (g (y - x))) (y.toNat + 1) := ⟨_, rfl⟩
    have vt : R.take 31 = R := by rw [hR]; exact rw_take
    have vl : R.length = 31 := by rw [hR]; exact rw_len
    have vs : R.all AV.scalar = true := by rw [hR]; exact rw_sc
    have vv : ∀ st h k, R.mapM (view st h k) = some R := fun st h k => by rw [hR]; exact rw_view
    rw [← hR]
    simp (disch := first | assumption | omega | (simp only [az]; done)) only [ru, eq_self, if_true, if_false, BEq.rfl, binI, AO.row?, splice, fillL, mmAll, loadV, storeV, zeros, Am.rowAt, Am.part, addOff, Nat.reduceAdd, Nat.reduceMul, Nat.reduceLeDiff, Nat.reduceSub, Nat.reduceLT, Int.reduceEq, Int.reduceLT, Int.reduceLE, Int.reduceGT, Int.reduceGE, Int.reduceAdd, Int.reduceSub, Int.reduceMul, Int.reduceNeg, Int.reduceToNat, reduceCtorEq, reduceIte, hlt, decide_false, vt, vl, vs, zl, zd, List.append_nil, finC, getRes, Option.some.injEq, exists_eq_left', view_agg, vv, Option.map_some]
    rw [hR]
  have ha2 : a < 31 := by omega
  have fa := Fh a ha2
  have sl1 : (0 : Int) ≤ 31 - (a : Int) ∧ 31 - (a : Int) ≤ ((31 : Nat) : Int) := by omega
  have sl2 : (31 - (a : Int)).toNat = 31 - a := by omega
  have sl3 : ((31 - a : Nat) : Int) = 31 - (a : Int) := by omega
  have sa : ∀ R, sliceAW [.cells F false, .cells Gg false, .cells Z31 false, .cells R false] 31 1 (some (I (31 - (a : Int)), none)) (.ptr 1 0) = some (.ms 1 1 0 (31 - a)) := fun R => by
    simp only [sliceAW, Am.rowAt, atS, at0, Option.bind_some, AO.row?, Gl]
    rw [if_pos (by omega)]
    simp only [sliceAV]
    rw [if_pos sl1, sl2]
  simp (disch := first | assumption | omega | (simp only [az]; done)) only [ru, eq_self, if_true, if_false, BEq.rfl, binI, AO.row?, splice, fillL, mmAll, loadV, storeV, zeros, Am.rowAt, Am.part, addOff, Nat.reduceAdd, Nat.reduceMul, Nat.reduceLeDiff, Nat.reduceSub, Nat.reduceLT, Int.reduceEq, Int.reduceLT, Int.reduceLE, Int.reduceGT, Int.reduceGE, Int.reduceAdd, Int.reduceSub, Int.reduceMul, Int.reduceNeg, Int.reduceToNat, reduceCtorEq, reduceIte, hlt, decide_true, fa, nn, Int.toNat_natCast, Nat.mul_one, exOp_sliceA, sa, sl3, Option.map_some, Option.map_none]
  refine G_loop_ind (fun m ts hh mk => ∃ b : Nat, b ≤ 31 - a ∧ m = 31 - b ∧ ts.length = 42 ∧ ts.getD 2 .undef = .ptr 0 0 ∧ ts.getD 3 .undef = .ptr 1 0 ∧ ts.getD 4 .undef = .ptr 2 0 ∧ ts.getD 5 .undef = .ptr 3 0 ∧ ts.getD 6 .undef = I a ∧ ts.getD 7 .undef = I (En (f a)) ∧ ts.getD 12 .undef = .agg F ∧ ts.getD 13 .undef = I a ∧ ts.getD 19 .undef = .ms 1 1 0 (31 - a) ∧ ts.getD 20 .undef = I (31 - (a : Int)) ∧ ts.getD 21 .undef = I b ∧ hh = [.cells F false, .cells Gg false, .cells Z31 false, .cells (rw_ 31 fun y => En (bsU f g a b y)) false] ∧ mk = []) ?_ _ _ _ _
    ⟨0, by omega, rfl, rfl, rfl, rfl, rfl, rfl, rfl, rfl, rfl, rfl, rfl, rfl, rfl, rfl, rfl⟩
  rintro m ts hh mk ih2 ⟨b, hb', rfl, hl', q2, q3, q4, q5, q6, q7, q12, q13, q19, q20, q21, rfl, rfl⟩
  rw [lit_all hl']
  simp only [lit0, litS, Nat.reduceAdd, q2, q3, q4, q5, q6, q7, q12, q13, q19, q20, q21]
  by_cases hlb : (b : Int) < 31 - (a : Int)
  case neg =>
    obtain rfl : b = 31 - a := by omega
    clear ih2
    have e : (rw_ 31 fun y => En (bsU f g a (31 - a) y)) = rw_ 31 fun y => En (bsU f g (a + 1) 0 y) := rw_congr fun y hy => by rw [bsU_next hy ha2]
    rw [e]
    simp (disch := first | assumption | omega | (simp only [az]; done)) only [ru, eq_self, if_true, if_false, BEq.rfl, binI, AO.row?, splice, fillL, mmAll, loadV, storeV, zeros, Am.rowAt, Am.part, addOff, Nat.reduceAdd, Nat.reduceMul, Nat.reduceLeDiff, Nat.reduceSub, Nat.reduceLT, Int.reduceEq, Int.reduceLT, Int.reduceLE, Int.reduceGT, Int.reduceGE, Int.reduceAdd, Int.reduceSub, Int.reduceMul, Int.reduceNeg, Int.reduceToNat, reduceCtorEq, reduceIte, hlb, decide_false]
    exact ih (31 - (a + 1)) _ _ _ (by omega) ⟨a + 1, by omega, rfl, rfl, rfl, rfl, rfl, rfl, rfl, rfl, rfl, rfl⟩
  clear ih
  have hb2 : b < 31 := by omega
  have hab : a + b < 31 := by omega
  have gb := Gh b hb2
  obtain ⟨R, hR⟩ : ∃ R, R = rw_ 31 fun y => En (bsU f g a b y) := ⟨_, rfl⟩
  have rh : (R.drop (a + b)).head? = some (I (En (bsU f g a b (a + b)))) := by rw [hR, rw_head hab]
  have em : En (bsU f g a (b + 1) (a + b)) = mn (En (bsU f g a b (a + b))) (En (pl (f a) (g b))) := by
    rw [bsU_at]; exact En_mo (B := B + B) (by omega) (bU _ _ _) ((hf _).pl (hg _))
  have em2 : mmx false (En (bsU f g a b (a + b))) (En (pl (f a) (g b))) = mn (En (bsU f g a b (a + b))) (En (pl (f a) (g b))) := rfl
  have rp : R.take (a + b) ++ [I (En (bsU f g a (b + 1) (a + b)))] ++ R.drop (a + b + 1) = rw_ 31 fun y => En (bsU f g a (b + 1) y) := by
    rw [hR]
    refine rw_put hab fun y hy => ?_
    by_cases e : y = a + b
    · subst e; rw [if_pos rfl]
    · rw [if_neg e, bsU_ne e]
  have rl : R.length = 31 := by rw [hR, rw_len]
  have fit : a + b + 1 ≤ R.length := by omega
  have i1 : (0 : Int) ≤ (a : Int) + b := by omega
  have i2 : (a : Int) + b < 31 := by omega
  have i3 : ((a : Int) + b).toNat = a + b := by omega
  have pp := fun st => sPl (by omega) (by omega) (hf a) (hg b) st
  have hlb2 : (b : Int) < ((31 - a : Nat) : Int) := by omega
  rw [← hR]
  simp (disch := first | assumption | omega | (simp only [az]; done)) only [ru, eq_self, if_true, if_false, BEq.rfl, binI, AO.row?, splice, fillL, mmAll, loadV, storeV, zeros, Am.rowAt, Am.part, addOff, Nat.reduceAdd, Nat.reduceMul, Nat.reduceLeDiff, Nat.reduceSub, Nat.reduceLT, Int.reduceEq, Int.reduceLT, Int.reduceLE, Int.reduceGT, Int.reduceGE, Int.reduceAdd, Int.reduceSub, Int.reduceMul, Int.reduceNeg, Int.reduceToNat, reduceCtorEq, reduceIte, hlb, hlb2, decide_true, elemAt_ms, nn, Int.toNat_natCast, Nat.mul_one, Nat.zero_add, gb, i1, i2, i3, rh, pp, em2, ← em, fit, rp]
  exact ih2 (31 - (b + 1)) _ _ _ (by omega) ⟨b + 1, by omega, rfl, rfl, rfl, rfl, rfl, rfl, rfl, rfl, rfl, rfl, rfl, rfl, rfl, rfl, rfl⟩
end Go.Proofs.Yteonklnjchefiaa.S

