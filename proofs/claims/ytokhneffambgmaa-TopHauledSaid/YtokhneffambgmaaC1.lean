/-
Functions of both sides of stage 7, one after another (C1).
-/
import Derived.Test.YtokhneffambgmaaTab

/-
Numbers, lists, the first of the best: what the stages share.
-/
namespace Go.Proofs.Ytokhneffambgmaa.S
set_option linter.unusedVariables false
set_option linter.unusedSimpArgs false

def mx (x y : Int) : Int := if y > x then y else x
def mn (x y : Int) : Int := if y < x then y else x
theorem le_mx2 {x y : Int} : y ≤ mx x y := by unfold mx; split <;> omega
theorem mn_le1 {x y : Int} : mn x y ≤ x := by unfold mn; split <;> omega
theorem mn_le2 {x y : Int} : mn x y ≤ y := by unfold mn; split <;> omega
theorem mn_or {x y : Int} : mn x y = x ∨ mn x y = y := by unfold mn; split <;> simp
def inR (n lo hi : Int) : Bool := decide (lo ≤ n) && decide (n ≤ hi)
theorem inR_iff {n lo hi : Int} : inR n lo hi = true ↔ lo ≤ n ∧ n ≤ hi := by simp [inR]
theorem getD_mem {α : Type} [Inhabited α] {l : List α} {i : Nat} (h : i < l.length) : l.getD i default ∈ l := by
  rw [List.getD_eq_getElem?_getD, List.getElem?_eq_getElem h]; exact List.getElem_mem h
end Go.Proofs.Ytokhneffambgmaa.S

/-
Tables of parts: partings, what they cost, and the least cost, made part by part from the last one on.
-/
namespace Go.Proofs.Ytokhneffambgmaa.S
set_option linter.unusedVariables false
set_option linter.unusedSimpArgs false

structure Spn where
  lo : Int
  hi : Int
  deriving Inhabited, DecidableEq
/-- a part: of which one, what it weighs, what is lost, pence -/
structure Pt where
  of : Int
  w : Spn
  s : Spn
  p : Int
  deriving Inhabited, DecidableEq

/-! costs: none: it can't be -/
def pl : Option Int → Option Int → Option Int
  | some a, some b => some (a + b)
  | _, _ => none
theorem pl_some {a b : Option Int} {v : Int} : pl a b = some v ↔ ∃ x y, a = some x ∧ b = some y ∧ v = x + y := by
  cases a <;> cases b <;> simp [pl]
  exact ⟨fun h => h.symm, fun h => h.symm⟩
theorem pl_none {a : Option Int} : pl a none = none := by cases a <;> rfl
theorem none_pl {a : Option Int} : pl none a = none := rfl
theorem pl_assoc {a b c : Option Int} : pl (pl a b) c = pl a (pl b c) := by
  cases a <;> cases b <;> cases c <;> simp [pl]; omega
theorem pl_comm {a b : Option Int} : pl a b = pl b a := by
  cases a <;> cases b <;> simp [pl]; omega
theorem pl_zero {a : Option Int} : pl a (some 0) = a := by cases a <;> simp [pl]
theorem zero_pl {a : Option Int} : pl (some 0) a = a := by cases a <;> simp [pl]
def mo : Option Int → Option Int → Option Int
  | some a, some b => some (mn a b)
  | some a, none => some a
  | none, b => b
def lst (f : Nat → Option Int) : Nat → Option Int
  | 0 => none
  | k + 1 => mo (lst f k) (f k)
/-- the least number of which something is so -/
def Lea (m : Option Int) (P : Int → Prop) : Prop := (∀ v, m = some v → P v) ∧ ∀ v, P v → ∃ x, m = some x ∧ x ≤ v
theorem Lea.uniq {m m' : Option Int} {P : Int → Prop} (h : Lea m P) (h' : Lea m' P) : m = m' := by
  cases m with
  | none =>
    cases m' with
    | none => rfl
    | some v => obtain ⟨x, hx, _⟩ := h.2 v (h'.1 v rfl); cases hx
  | some u =>
    obtain ⟨x, hx, h1⟩ := h'.2 u (h.1 u rfl)
    subst hx
    obtain ⟨y, hy, h2⟩ := h.2 x (h'.1 x rfl)
    cases hy
    congr 1; omega
theorem Lea.congr {m : Option Int} {P Q : Int → Prop} (h : Lea m P) (hq : ∀ v, P v ↔ Q v) : Lea m Q := ⟨fun v e => (hq v).1 (h.1 v e), fun v e => h.2 v ((hq v).2 e)⟩
theorem Lea.none_iff {m : Option Int} {P : Int → Prop} (h : Lea m P) : m = none ↔ ∀ v, ¬ P v := by
  constructor
  · rintro rfl v hv; obtain ⟨x, hx, _⟩ := h.2 v hv; cases hx
  · intro hn; cases m with
    | none => rfl
    | some v => exact absurd (h.1 v rfl) (hn v)
theorem lst_lea {f : Nat → Option Int} : ∀ k, Lea (lst f k) (fun v => ∃ i, i < k ∧ f i = some v)
  | 0 => ⟨(fun v h => by cases h), (fun v h => by obtain ⟨i, h, _⟩ := h; omega)⟩
  | k + 1 => by
    have ih := lst_lea (f := f) k
    constructor
    · intro v hv
      simp only [lst] at hv
      cases h1 : lst f k with
      | none => rw [h1] at hv; exact ⟨k, by omega, by simpa [mo] using hv⟩
      | some a =>
        cases h2 : f k with
        | none =>
          rw [h1, h2] at hv
          obtain ⟨i, hi, e⟩ := ih.1 a h1
          simp only [mo, Option.some.injEq] at hv
          exact ⟨i, by omega, by rw [e, hv]⟩
        | some b =>
          rw [h1, h2] at hv
          simp only [mo, Option.some.injEq] at hv
          obtain ⟨i, hi, e⟩ := ih.1 a h1
          rcases mn_or (x := a) (y := b) with c | c
          · exact ⟨i, by omega, by rw [e, ← hv, c]⟩
          · exact ⟨k, by omega, by rw [h2, ← hv, c]⟩
    · rintro v ⟨i, hi, e⟩
      simp only [lst]
      by_cases c : i = k
      · subst c
        rw [e]
        cases h1 : lst f i with
        | none => exact ⟨v, rfl, by omega⟩
        | some a => exact ⟨_, rfl, mn_le2⟩
      · obtain ⟨x, hx, hl⟩ := ih.2 v ⟨i, by omega, e⟩
        rw [hx]
        cases h2 : f k with
        | none => exact ⟨x, rfl, hl⟩
        | some b => exact ⟨_, rfl, Int.le_trans mn_le1 hl⟩
/-- a sum of the first ones -/
def sP (f : Nat → Option Int) : Nat → Option Int
  | 0 => some 0
  | k + 1 => pl (sP f k) (f k)
theorem sP_congr {f g : Nat → Option Int} : ∀ {k : Nat}, (∀ i, i < k → f i = g i) → sP f k = sP g k
  | 0, _ => rfl
  | k + 1, h => by simp only [sP]; rw [sP_congr fun i hi => h i (by omega), h k (by omega)]
theorem sP_split {f : Nat → Option Int} {r : Nat} : ∀ {k : Nat}, r < k → sP f k = pl (f r) (sP (fun p => if p = r then some 0 else f p) k)
  | 0, h => by omega
  | k + 1, h => by
    simp only [sP]
    by_cases c : r = k
    · subst c
      rw [if_pos rfl, pl_zero, pl_comm]
      congr 1
      exact sP_congr fun i hi => by rw [if_neg (by omega)]
    · rw [sP_split (f := f) (r := r) (k := k) (by omega), if_neg (by omega), pl_assoc]

/-! partings -/
def canC (t : List Pt) (i : Int) : Bool := t.any fun x => decide (x.of = i)
def wst (t : List Pt) (p : Nat) : Spn := if canC t p then (t.getD p default).s else ⟨0, 30⟩
/-- the pieces of a part among the first ones, together -/
def pcs (t : List Pt) (u : Nat → Int) (p : Nat) : Nat → Int
  | 0 => 0
  | j + 1 => pcs t u p j + if (t.getD j default).of = p then u j else 0
def PartF (t : List Pt) (u : Nat → Int) : Prop := ∀ i, i < t.length → (0 ≤ u i ∧ u i ≤ 30) ∧ (wst t i).lo ≤ u i - pcs t u i t.length ∧ u i - pcs t u i t.length ≤ (wst t i).hi
/-- a table: each part is of none or an earlier one; what is lost is from 0 to 30 -/
structure TG (t : List Pt) : Prop where
  n : t.length ≤ 8
  of : ∀ i, i < t.length → -1 ≤ (t.getD i default).of ∧ (t.getD i default).of < i
  s : ∀ i, i < t.length → 0 ≤ (t.getD i default).s.lo ∧ (t.getD i default).s.lo ≤ (t.getD i default).s.hi ∧ (t.getD i default).s.hi ≤ 30
theorem wst_rng {t : List Pt} (T : TG t) {i : Nat} (hi : i < t.length) : 0 ≤ (wst t i).lo ∧ (wst t i).lo ≤ (wst t i).hi ∧ (wst t i).hi ≤ 30 := by
  unfold wst; split
  · exact T.s i hi
  · exact ⟨by decide, by decide, by decide⟩
theorem pcs_congr {t : List Pt} {u w : Nat → Int} {p : Nat} : ∀ {j : Nat}, (∀ k, k < j → u k = w k) → pcs t u p j = pcs t w p j
  | 0, _ => rfl
  | j + 1, h => by simp only [pcs]; rw [pcs_congr fun k hk => h k (by omega), h j (by omega)]
theorem pcs_mono {t : List Pt} {u : Nat → Int} {p : Nat} {n : Nat} (h0 : ∀ k, k < n → 0 ≤ u k) : ∀ {j k : Nat}, j ≤ k → k ≤ n → pcs t u p j ≤ pcs t u p k
  | j, 0, h, _ => by obtain rfl : j = 0 := by omega
                     exact Int.le_refl _
  | j, k + 1, h, hk => by
    by_cases c : j = k + 1
    · subst c; exact Int.le_refl _
    · have := pcs_mono (t := t) (u := u) (p := p) h0 (j := j) (k := k) (by omega) (by omega)
      have := h0 k (by omega)
      simp only [pcs]; split <;> omega
theorem pcs_zero {t : List Pt} (T : TG t) {u : Nat → Int} {p : Nat} : ∀ {j : Nat}, j ≤ p + 1 → j ≤ t.length → pcs t u p j = 0
  | 0, _, _ => rfl
  | j + 1, h, hj => by
    have := T.of j (by omega)
    simp only [pcs]; rw [pcs_zero T (by omega) (by omega), if_neg (by omega)]; omega

/-! the least cost, part by part: 'm' parts are done, from the last one on -/
def ins (t : List Pt) (c : Nat → Int → Option Int) : Nat → Nat → Int → Option Int
  | 0, p, y => if (wst t p).lo ≤ y ∧ y ≤ (wst t p).hi then some 0 else none
  | m + 1, p, y => if (t.getD (t.length - (m + 1)) default).of = p then
      lst (fun b => pl (ins t c m p (y - b)) (pl (ins t c m (t.length - (m + 1)) b) (c (t.length - (m + 1)) b))) (y.toNat + 1) else ins t c m p y
def smS (t : List Pt) (c : Nat → Int → Option Int) : Nat → Option Int
  | 0 => some 0
  | m + 1 => if (t.getD (t.length - (m + 1)) default).of = -1 then pl (smS t c m) (lst (fun b => pl (ins t c m (t.length - (m + 1)) b) (c (t.length - (m + 1)) b)) 31) else smS t c m
def Lst (t : List Pt) (c : Nat → Int → Option Int) : Option Int := smS t c t.length
def cB (t : List Pt) (c : Nat → Int → Option Int) (u : Nat → Int) : Nat → Option Int
  | 0 => some 0
  | m + 1 => pl (c (t.length - (m + 1)) (u (t.length - (m + 1)))) (cB t c u m)
def cF (c : Nat → Int → Option Int) (u : Nat → Int) (n : Nat) : Option Int := sP (fun i => c i (u i)) n
theorem cB_eq {t : List Pt} {c : Nat → Int → Option Int} {u : Nat → Int} : ∀ {m : Nat}, m ≤ t.length → pl (cF c u (t.length - m)) (cB t c u m) = cF c u t.length
  | 0, _ => by simp only [cB, pl_zero, Nat.sub_zero]
  | m + 1, h => by
    have e : t.length - m = t.length - (m + 1) + 1 := by omega
    rw [← cB_eq (m := m) (by omega), e, cB, ← pl_assoc]
    rfl
theorem ins_neg {t : List Pt} {c : Nat → Int → Option Int} (T : TG t) {p : Nat} (hp : p < t.length) {y : Int} (hy : y < 0) : ∀ m, ins t c m p y = none
  | 0 => by
    have := wst_rng T hp
    simp only [ins]; rw [if_neg (by omega)]
  | m + 1 => by
    have ih := ins_neg (c := c) T hp hy m
    simp only [ins]
    split
    · have e : y.toNat + 1 = 0 + 1 := by omega
      rw [e]
      simp only [lst, mo]
      rw [show y - ((0 : Nat) : Int) = y by omega, ih, none_pl]
    · exact ih

def tot (t : List Pt) (c : Nat → Int → Option Int) (m : Nat) (w : Nat → Int) : Option Int := pl (smS t c m) (sP (fun p => ins t c m p (w p - pcs t w p (t.length - m))) (t.length - m))
def upd (w : Nat → Int) (q : Nat) (b : Int) : Nat → Int := fun i => if i = q then b else w i
theorem upd_same {w : Nat → Int} {q : Nat} {b : Int} : upd w q b q = b := if_pos rfl
theorem upd_ne {w : Nat → Int} {q i : Nat} {b : Int} (h : i ≠ q) : upd w q b i = w i := if_neg h
theorem upd_pcs {t : List Pt} {w : Nat → Int} {q p : Nat} {b : Int} : pcs t (upd w q b) p (q + 1) = pcs t w p q + if (t.getD q default).of = p then b else 0 := by
  simp only [pcs, upd_same]
  rw [pcs_congr fun k hk => upd_ne (by omega)]

/-- one part more -/
theorem tot_step {t : List Pt} {c : Nat → Int → Option Int} (T : TG t) {m : Nat} (hm : m + 1 ≤ t.length) {w : Nat → Int} (hw : ∀ p, p < t.length - (m + 1) → 0 ≤ w p ∧ w p ≤ 30) :
    Lea (tot t c (m + 1) w) (fun v => ∃ b x y, 0 ≤ b ∧ b ≤ 30 ∧ tot t c m (upd w (t.length - (m + 1)) b) = some x ∧ c (t.length - (m + 1)) b = some y ∧ v = x + y) := by
  obtain ⟨q, hq⟩ : ∃ q, q = t.length - (m + 1) := ⟨_, rfl⟩
  have hq1 : t.length - m = q + 1 := by omega
  have hqt : q < t.length := by omega
  have ho := T.of q hqt
  have pz : ∀ b, pcs t (upd w q b) q (q + 1) = 0 := fun b => pcs_zero T (by omega) (by omega)
  unfold tot
  rw [← hq, hq1]
  rw [← hq] at hw
  by_cases c1 : (t.getD q default).of = -1
  · -- a whole fish
    have e1 : smS t c (m + 1) = pl (smS t c m) (lst (fun b => pl (ins t c m q b) (c q b)) 31) := by
      simp only [smS, ← hq, c1, if_true]
    have e2 : ∀ p y, ins t c (m + 1) p y = ins t c m p y := fun p y => by
      simp only [ins, ← hq, c1]; rw [if_neg (by omega)]
    have e3 : ∀ b, sP (fun p => ins t c m p (upd w q b p - pcs t (upd w q b) p (q + 1))) (q + 1) = pl (sP (fun p => ins t c m p (w p - pcs t w p q)) q) (ins t c m q b) := fun b => by
      simp only [sP, upd_same, pz, Int.sub_zero]
      congr 1
      refine sP_congr fun i hi => ?_
      rw [upd_ne (by omega), upd_pcs, c1, if_neg (by omega), Int.add_zero]
    simp only [e1, e2, e3]
    have L := lst_lea (f := fun b => pl (ins t c m q b) (c q b)) 31
    constructor
    · intro v hv
      obtain ⟨x, z, hx, hz, rfl⟩ := pl_some.1 hv
      obtain ⟨x1, x2, h1, h2, rfl⟩ := pl_some.1 hx
      obtain ⟨b, hb, h3⟩ := L.1 x2 h2
      obtain ⟨y1, y2, h4, h5, rfl⟩ := pl_some.1 h3
      exact ⟨b, x1 + (z + y1), y2, by omega, by omega, by rw [h1, hz, h4]; simp [pl], h5, by omega⟩
    · rintro v ⟨b, x, y, hb0, hb1, hx, hy, rfl⟩
      obtain ⟨x1, x2, h1, h2, rfl⟩ := pl_some.1 hx
      obtain ⟨z1, z2, h3, h4, rfl⟩ := pl_some.1 h2
      obtain ⟨l, hl, hle⟩ := L.2 (z2 + y) ⟨b.toNat, by omega, by
        have : ((b.toNat : Nat) : Int) = b := by omega
        simp only [this, h4, hy, pl]⟩
      exact ⟨x1 + l + z1, by rw [h1, hl, h3]; simp [pl], by omega⟩
  · -- a piece
    obtain ⟨r, hr⟩ : ∃ r : Nat, (t.getD q default).of = r := ⟨(t.getD q default).of.toNat, by omega⟩
    have hrq : r < q := by omega
    have hrt : r < t.length := by omega
    have e1 : smS t c (m + 1) = smS t c m := by
      simp only [smS, ← hq]; rw [if_neg c1]
    have e2 : ∀ p y, p ≠ r → ins t c (m + 1) p y = ins t c m p y := fun p y h => by
      simp only [ins, ← hq, hr]; rw [if_neg (by omega)]
    have e2' : ∀ y, ins t c (m + 1) r y = lst (fun b => pl (ins t c m r (y - b)) (pl (ins t c m q b) (c q b))) (y.toNat + 1) := fun y => by
      simp only [ins, ← hq, hr, if_true]
    obtain ⟨S, hS⟩ : ∃ S, S = sP (fun p => if p = r then some 0 else ins t c m p (w p - pcs t w p q)) q := ⟨_, rfl⟩
    obtain ⟨yr, hyr⟩ : ∃ yr, yr = w r - pcs t w r q := ⟨_, rfl⟩
    have e3 : sP (fun p => ins t c (m + 1) p (w p - pcs t w p q)) q = pl (ins t c (m + 1) r yr) S := by
      rw [sP_split hrq, hS, hyr]
      congr 1
      refine sP_congr fun i hi => ?_
      split
      · rfl
      · rw [e2 _ _ (by assumption)]
    have e4 : ∀ b, sP (fun p => ins t c m p (upd w q b p - pcs t (upd w q b) p (q + 1))) (q + 1) = pl (pl (ins t c m r (yr - b)) S) (ins t c m q b) := fun b => by
      simp only [sP, upd_same, pz, Int.sub_zero]
      congr 1
      rw [sP_split hrq, hS]
      congr 1
      · rw [upd_ne (by omega), upd_pcs, hr, if_pos rfl, hyr]
        congr 1; omega
      · refine sP_congr fun i hi => ?_
        split
        · rfl
        · rw [upd_ne (by omega), upd_pcs, hr, if_neg (by omega), Int.add_zero]
    have L := lst_lea (f := fun b => pl (ins t c m r (yr - b)) (pl (ins t c m q b) (c q b))) (yr.toNat + 1)
    have hp0 : 0 ≤ pcs t w r q := by
      have := pcs_mono (t := t) (u := w) (p := r) (n := q) (fun k hk => (hw k hk).1) (j := 0) (k := q) (by omega) (by omega)
      simpa [pcs] using this
    have hwr := hw r hrq
    simp only [e1, e3, e4, e2']
    constructor
    · intro v hv
      obtain ⟨x, z, hx, hz, rfl⟩ := pl_some.1 hv
      obtain ⟨l, s, hl, hs, rfl⟩ := pl_some.1 hz
      obtain ⟨b, hb, h3⟩ := L.1 l hl
      obtain ⟨y1, y2, h4, h5, rfl⟩ := pl_some.1 h3
      obtain ⟨y3, y4, h6, h7, rfl⟩ := pl_some.1 h5
      refine ⟨b, x + (y1 + s + y3), y4, by omega, ?_, by rw [hx, h4, hs, h6]; simp [pl], h7, by omega⟩
      by_cases cy : yr < 0
      · have := ins_neg (c := c) T hrt (y := yr - b) (by omega) m
        rw [this] at h4; cases h4
      · omega
    · rintro v ⟨b, x, y, hb0, hb1, hx, hy, rfl⟩
      obtain ⟨x1, x2, h1, h2, rfl⟩ := pl_some.1 hx
      obtain ⟨z1, z2, h3, h4, rfl⟩ := pl_some.1 h2
      obtain ⟨u1, u2, h5, h6, rfl⟩ := pl_some.1 h3
      have hyb : b ≤ yr := by
        by_cases cy : yr < b
        · have := ins_neg (c := c) T hrt (y := yr - b) (by omega) m
          rw [this] at h5; cases h5
        · omega
      obtain ⟨l, hl, hle⟩ := L.2 (u1 + (z2 + y)) ⟨b.toNat, by omega, by
        have : ((b.toNat : Nat) : Int) = b := by omega
        simp only [this, h5, h4, hy, pl]⟩
      exact ⟨x1 + (l + u2), by rw [h1, hl, h6]; simp [pl], by omega⟩

theorem tot_lea {t : List Pt} {c : Nat → Int → Option Int} (T : TG t) : ∀ {m : Nat}, m ≤ t.length → ∀ {w : Nat → Int}, (∀ p, p < t.length - m → 0 ≤ w p ∧ w p ≤ 30) →
    Lea (tot t c m w) (fun v => ∃ u, (∀ k, k < t.length - m → u k = w k) ∧ PartF t u ∧ cB t c u m = some v)
  | 0, _, w, hw => by
    simp only [tot, smS, zero_pl, cB, Nat.sub_zero] at hw ⊢
    have key : ∀ k, k ≤ t.length → (sP (fun p => ins t c 0 p (w p - pcs t w p t.length)) k = some 0 ∧ ∀ i, i < k → (wst t i).lo ≤ w i - pcs t w i t.length ∧ w i - pcs t w i t.length ≤ (wst t i).hi) ∨
        (sP (fun p => ins t c 0 p (w p - pcs t w p t.length)) k = none ∧ ∃ i, i < k ∧ ¬ ((wst t i).lo ≤ w i - pcs t w i t.length ∧ w i - pcs t w i t.length ≤ (wst t i).hi)) := by
      intro k
      induction k with
      | zero => exact fun _ => .inl ⟨rfl, fun i h => by omega⟩
      | succ k ih =>
        intro hk
        rcases ih (by omega) with ⟨h1, h2⟩ | ⟨h1, i, hi, h2⟩
        · by_cases cc : (wst t k).lo ≤ w k - pcs t w k t.length ∧ w k - pcs t w k t.length ≤ (wst t k).hi
          · refine .inl ⟨by rw [sP, h1]; simp only [ins]; rw [if_pos cc]; rfl, fun i hi => ?_⟩
            by_cases e : i = k
            · subst e; exact cc
            · exact h2 i (by omega)
          · exact .inr ⟨by rw [sP, h1]; simp only [ins]; rw [if_neg cc]; rfl, k, by omega, cc⟩
        · exact .inr ⟨by rw [sP, h1, none_pl], i, by omega, h2⟩
    rcases key t.length (Nat.le_refl _) with ⟨h1, h2⟩ | ⟨h1, i, hi, h2⟩
    · rw [h1]
      refine ⟨fun v hv => ⟨w, fun _ _ => rfl, fun i hi => ⟨hw i hi, h2 i hi⟩, hv⟩, fun v ⟨u, _, _, e⟩ => ⟨0, rfl, by cases e; omega⟩⟩
    · rw [h1]
      refine ⟨(fun v hv => by cases hv), fun v ⟨u, h3, h4, _⟩ => ?_⟩
      have h5 := (h4 i hi).2
      rw [pcs_congr h3, h3 i hi] at h5
      exact absurd h5 h2
  | m + 1, hm, w, hw => by
    have hqt : t.length - (m + 1) < t.length := by omega
    have hq1 : t.length - m = t.length - (m + 1) + 1 := by omega
    obtain ⟨q, hq⟩ : ∃ q, q = t.length - (m + 1) := ⟨_, rfl⟩
    have st := tot_step (c := c) T hm hw
    rw [← hq] at st hw hq1 hqt
    rw [hq.symm]
    have hu : ∀ b, 0 ≤ b → b ≤ 30 → ∀ p, p < t.length - m → 0 ≤ upd w q b p ∧ upd w q b p ≤ 30 := fun b h0 h1 p hp => by
      by_cases e : p = q
      · subst e; rw [upd_same]; exact ⟨h0, h1⟩
      · rw [upd_ne e]; exact hw p (by omega)
    constructor
    · intro v hv
      obtain ⟨b, x, y, hb0, hb1, hx, hy, rfl⟩ := st.1 v hv
      obtain ⟨u, h1, h2, h3⟩ := (tot_lea (c := c) T (m := m) (by omega) (hu b hb0 hb1)).1 x hx
      have uq : u q = b := by rw [h1 q (by omega), upd_same]
      refine ⟨u, fun k hk => by rw [h1 k (by omega), upd_ne (by omega)], h2, ?_⟩
      simp only [cB, ← hq, uq, hy, h3, pl, Option.some.injEq]; omega
    · rintro v ⟨u, h1, h2, h3⟩
      simp only [cB, ← hq] at h3
      obtain ⟨y, x0, h4, h5, rfl⟩ := pl_some.1 h3
      have hb := (h2 q hqt).1
      obtain ⟨x, h6, h7⟩ := (tot_lea (c := c) T (m := m) (by omega) (hu (u q) hb.1 hb.2)).2 x0 ⟨u, fun k hk => by
        by_cases e : k = q
        · subst e; rw [upd_same]
        · rw [upd_ne e]; exact h1 k (by omega), h2, h5⟩
      obtain ⟨z, h8, h9⟩ := st.2 (x + y) ⟨u q, x, y, hb.1, hb.2, h6, h4, rfl⟩
      exact ⟨z, h8, by omega⟩

/-- THE LEAST COST is that of a parting -/
theorem Lst_lea {t : List Pt} {c : Nat → Int → Option Int} (T : TG t) : Lea (Lst t c) (fun v => ∃ u, PartF t u ∧ cF c u t.length = some v) := by
  have h := tot_lea (c := c) T (m := t.length) (Nat.le_refl _) (w := fun _ => 0) (fun p hp => by omega)
  simp only [tot, Nat.sub_self, sP, pl_zero] at h
  refine h.congr fun v => ?_
  have e : ∀ u, cB t c u t.length = cF c u t.length := fun u => by
    rw [← cB_eq (c := c) (u := u) (Nat.le_refl t.length), Nat.sub_self]
    simp only [cF, sP, zero_pl]
  constructor
  · rintro ⟨u, _, h1, h2⟩; exact ⟨u, h1, by rw [← e]; exact h2⟩
  · rintro ⟨u, h1, h2⟩; exact ⟨u, fun k hk => by omega, h1, by rw [e]; exact h2⟩

/-! bounds, for what the program reckons -/
theorem ins_bd {t : List Pt} {c : Nat → Int → Option Int} {K : Int} (hK : 0 ≤ K) (hc : ∀ i b x, c i b = some x → -K ≤ x ∧ x ≤ K) : ∀ (m p : Nat) (y v : Int), ins t c m p y = some v → -((2 ^ m - 1) * K) ≤ v ∧ v ≤ (2 ^ m - 1) * K
  | 0, p, y, v, h => by
    simp only [ins] at h
    split at h
    · cases h; simp
    · cases h
  | m + 1, p, y, v, h => by
    have e : ((2 : Int) ^ (m + 1) - 1) * K = (2 ^ m - 1) * K + ((2 ^ m - 1) * K + K) := by
      rw [show (2 : Int) ^ (m + 1) - 1 = (2 ^ m - 1) + ((2 ^ m - 1) + 1) by rw [Int.pow_succ]; omega, Int.add_mul, Int.add_mul, Int.one_mul]
    have p0 : 0 ≤ ((2 : Int) ^ m - 1) * K := Int.mul_nonneg (by have := Int.pow_pos (n := 2) (m := m) (by decide); omega) hK
    rw [e]
    simp only [ins] at h
    split at h
    · obtain ⟨b, _, h1⟩ := (lst_lea _).1 v h
      obtain ⟨x, z, h2, h3, rfl⟩ := pl_some.1 h1
      obtain ⟨x', z', h4, h5, rfl⟩ := pl_some.1 h3
      have := ins_bd hK hc m _ _ _ h2
      have := ins_bd hK hc m _ _ _ h4
      have := hc _ _ _ h5
      omega
    · have := ins_bd hK hc m _ _ _ h
      omega
theorem smS_bd {t : List Pt} {c : Nat → Int → Option Int} {K : Int} (hK : 0 ≤ K) (hc : ∀ i b x, c i b = some x → -K ≤ x ∧ x ≤ K) : ∀ (m : Nat) (v : Int), smS t c m = some v → -((2 ^ m - 1) * K) ≤ v ∧ v ≤ (2 ^ m - 1) * K
  | 0, v, h => by simp only [smS, Option.some.injEq] at h; subst h; simp
  | m + 1, v, h => by
    have e : ((2 : Int) ^ (m + 1) - 1) * K = (2 ^ m - 1) * K + ((2 ^ m - 1) * K + K) := by
      rw [show (2 : Int) ^ (m + 1) - 1 = (2 ^ m - 1) + ((2 ^ m - 1) + 1) by rw [Int.pow_succ]; omega, Int.add_mul, Int.add_mul, Int.one_mul]
    have p0 : 0 ≤ ((2 : Int) ^ m - 1) * K := Int.mul_nonneg (by have := Int.pow_pos (n := 2) (m := m) (by decide); omega) hK
    rw [e]
    simp only [smS] at h
    split at h
    · obtain ⟨x, z, h2, h3, rfl⟩ := pl_some.1 h
      obtain ⟨b, _, h1⟩ := (lst_lea _).1 z h3
      obtain ⟨x', z', h4, h5, rfl⟩ := pl_some.1 h1
      have := smS_bd hK hc m _ h2
      have := ins_bd hK hc m _ _ _ h4
      have := hc _ _ _ h5
      omega
    · have := smS_bd hK hc m _ h
      omega
theorem pow2_le {m : Nat} (h : m ≤ 8) : (2 : Int) ^ m - 1 ≤ 255 ∧ 0 ≤ (2 : Int) ^ m - 1 := by
  match m, h with
  | 0, _ | 1, _ | 2, _ | 3, _ | 4, _ | 5, _ | 6, _ | 7, _ | 8, _ => decide
end Go.Proofs.Ytokhneffambgmaa.S

/-
The pieces of a part in either order; truths, changes, and what follows of the least cost.
-/
namespace Go.Proofs.Ytokhneffambgmaa.S
set_option linter.unusedVariables false
set_option linter.unusedSimpArgs false

section
variable {t : List Pt} {c : Nat → Int → Option Int}
/-- sums either way round -/
theorem lst_rev {f g : Int → Option Int} {y : Int} (hy : 0 ≤ y) : lst (fun b => pl (f (y - b)) (g b)) (y.toNat + 1) = lst (fun a => pl (f a) (g (y - a))) (y.toNat + 1) := by
  refine (lst_lea _).uniq ((lst_lea _).congr fun v => ?_)
  constructor
  · rintro ⟨a, ha, h⟩
    refine ⟨(y - a).toNat, by omega, ?_⟩
    have : (((y - a).toNat : Nat) : Int) = y - a := by omega
    simp only [this, show y - (y - (a : Int)) = a by omega]; exact h
  · rintro ⟨a, ha, h⟩
    refine ⟨(y - a).toNat, by omega, ?_⟩
    have : (((y - a).toNat : Nat) : Int) = y - a := by omega
    simp only [this, show y - (y - (a : Int)) = a by omega]; exact h
end

/-! truths -/
def lin (r u : Nat → Int) : Nat → Int
  | 0 => 0
  | k + 1 => lin r u k + r k * u k
def cT (t : List Pt) (r : Nat → Int) : Nat → Int → Option Int := fun i w => if (t.getD i default).w.lo ≤ w ∧ w ≤ (t.getD i default).w.hi then some (r i * w) else none
def TruF (t : List Pt) (u : Nat → Int) : Prop := PartF t u ∧ ∀ i, i < t.length → (t.getD i default).w.lo ≤ u i ∧ u i ≤ (t.getD i default).w.hi
def awy (s : Spn) (w : Int) : Int := mx (mx (s.lo - w) (w - s.hi)) 0
theorem awy_nn {s : Spn} {w : Int} : 0 ≤ awy s w := le_mx2
theorem awy_zero {s : Spn} {w : Int} : awy s w = 0 ↔ s.lo ≤ w ∧ w ≤ s.hi := by
  unfold awy mx; split <;> split <;> omega
def chg (t : List Pt) (u : Nat → Int) : Nat → Int
  | 0 => 0
  | k + 1 => chg t u k + awy (t.getD k default).w (u k)
theorem cF_T {t : List Pt} {r u : Nat → Int} : ∀ {k : Nat}, (∀ v, cF (cT t r) u k = some v ↔ (∀ i, i < k → (t.getD i default).w.lo ≤ u i ∧ u i ≤ (t.getD i default).w.hi) ∧ v = lin r u k)
  | 0, v => by
    simp only [cF, sP, lin, Option.some.injEq]
    exact ⟨fun h => ⟨fun i hi => by omega, h.symm⟩, fun h => h.2.symm⟩
  | k + 1, v => by
    have ih := cF_T (t := t) (r := r) (u := u) (k := k)
    show pl (cF (cT t r) u k) (cT t r k (u k)) = some v ↔ _
    rw [pl_some]
    constructor
    · rintro ⟨x, y, h1, h2, rfl⟩
      obtain ⟨h3, rfl⟩ := (ih x).1 h1
      simp only [cT] at h2
      split at h2
      · rename_i hc
        cases h2
        refine ⟨fun i hi => ?_, rfl⟩
        by_cases e : i = k
        · subst e; exact hc
        · exact h3 i (by omega)
      · cases h2
    · rintro ⟨h1, rfl⟩
      exact ⟨lin r u k, r k * u k, (ih _).2 ⟨fun i hi => h1 i (by omega), rfl⟩, if_pos (h1 k (by omega)), rfl⟩
section
variable {t : List Pt}
theorem LstT {r : Nat → Int} (T : TG t) : Lea (Lst t (cT t r)) (fun v => ∃ u, TruF t u ∧ v = lin r u t.length) := by
  refine (Lst_lea T).congr fun v => ?_
  constructor
  · rintro ⟨u, h1, h2⟩; exact ⟨u, ⟨h1, (cF_T v).1 h2 |>.1⟩, ((cF_T v).1 h2).2⟩
  · rintro ⟨u, ⟨h1, h2⟩, h3⟩; exact ⟨u, h1, (cF_T v).2 ⟨h2, h3⟩⟩
def is1 (t : List Pt) : Bool := (Lst t (cT t fun _ => 0)).isSome
theorem is1_iff (T : TG t) : is1 t = true ↔ ∃ u, TruF t u := by
  unfold is1
  have L := LstT (r := fun _ => 0) T
  cases h : Lst t (cT t fun _ => 0) with
  | none =>
    simp only [Option.isSome_none, Bool.false_eq_true, false_iff]
    rintro ⟨u, hu⟩
    exact L.none_iff.1 h _ ⟨u, hu, rfl⟩
  | some v =>
    simp only [Option.isSome_some, true_iff]
    obtain ⟨u, hu, _⟩ := L.1 v h
    exact ⟨u, hu⟩
theorem LstT_isSome {r : Nat → Int} (T : TG t) : (Lst t (cT t r)).isSome = is1 t := by
  have L := LstT (r := r) T
  rw [Bool.eq_iff_iff, is1_iff T]
  cases h : Lst t (cT t r) with
  | none =>
    simp only [Option.isSome_none, Bool.false_eq_true, false_iff]
    rintro ⟨u, hu⟩; exact L.none_iff.1 h _ ⟨u, hu, rfl⟩
  | some v =>
    simp only [Option.isSome_some, true_iff]
    obtain ⟨u, hu, _⟩ := L.1 v h; exact ⟨u, hu⟩
theorem LstT_none {r : Nat → Int} (T : TG t) (h : is1 t = false) : Lst t (cT t r) = none := by
  have := LstT_isSome (r := r) T
  rw [h] at this
  cases h' : Lst t (cT t r) with
  | none => rfl
  | some v => rw [h'] at this; cases this
theorem LstT_some {r : Nat → Int} (T : TG t) (h : is1 t = true) : ∃ v, Lst t (cT t r) = some v := by
  have := LstT_isSome (r := r) T
  rw [h] at this
  exact Option.isSome_iff_exists.1 this
/-- the least and the greatest sum of weights, each times a number -/
def loV (t : List Pt) (r : Nat → Int) : Int := (Lst t (cT t r)).getD 0
def hiV (t : List Pt) (r : Nat → Int) : Int := 0 - (Lst t (cT t fun i => 0 - r i)).getD 0
theorem lin_neg {r u : Nat → Int} : ∀ {k : Nat}, lin (fun i => 0 - r i) u k = 0 - lin r u k
  | 0 => rfl
  | k + 1 => by simp only [lin, lin_neg (k := k)]; rw [Int.sub_mul]; omega
theorem loV_spec {r : Nat → Int} (T : TG t) (h : is1 t = true) : (∃ u, TruF t u ∧ lin r u t.length = loV t r) ∧ ∀ u, TruF t u → loV t r ≤ lin r u t.length := by
  obtain ⟨v, hv⟩ := LstT_some (r := r) T h
  have L := LstT (r := r) T
  simp only [loV, hv, Option.getD_some]
  obtain ⟨u, hu, e⟩ := L.1 v hv
  refine ⟨⟨u, hu, e.symm⟩, fun w hw => ?_⟩
  obtain ⟨x, hx, hl⟩ := L.2 _ ⟨w, hw, rfl⟩
  rw [hv] at hx; cases hx; exact hl
theorem hiV_spec {r : Nat → Int} (T : TG t) (h : is1 t = true) : (∃ u, TruF t u ∧ lin r u t.length = hiV t r) ∧ ∀ u, TruF t u → lin r u t.length ≤ hiV t r := by
  obtain ⟨⟨u, hu, e⟩, h2⟩ := loV_spec (r := fun i => 0 - r i) T h
  simp only [lin_neg] at e h2
  have e3 : hiV t r = 0 - loV t (fun i => 0 - r i) := rfl
  exact ⟨⟨u, hu, by omega⟩, fun w hw => by have := h2 w hw; omega⟩
theorem lin_congr {r r' u u' : Nat → Int} : ∀ {k : Nat}, (∀ i, i < k → r i = r' i) → (∀ i, i < k → u i = u' i) → lin r u k = lin r' u' k
  | 0, _, _ => rfl
  | k + 1, h, h' => by simp only [lin]; rw [lin_congr (fun i hi => h i (by omega)) (fun i hi => h' i (by omega)), h k (by omega), h' k (by omega)]
end
end Go.Proofs.Ytokhneffambgmaa.S

/-
Lists in heaps, copies, appends: what the functions of lifts needed and those of mesh need, too.
-/
namespace Go.Proofs.Ytokhneffambgmaa.S
open Go Go.Am Go.Proofs.Ytokhneffambgmaa.T
set_option maxRecDepth 100000
set_option linter.unusedSimpArgs false
set_option linter.unusedVariables false

abbrev intL (n : Int) : List AV := [I n]
theorem intE (n : Int) : (intL n).length = 1 := rfl
theorem intSc (n : Int) : (intL n).all AV.scalar = true := rfl
def slV {α : Type} (esz : Nat) (enc : α → List AV) (l : List α) : AV := .cs esz l.length (l.flatMap enc)
theorem slV_is {α : Type} {esz : Nat} {enc : α → List AV} {l : List α} : IsSl esz enc l (slV esz enc l) := .inl rfl
theorem elem_in {l : List Int} {v : AV} (h : IsSl 1 intL l v) : ∀ i : Int, 0 ≤ i → i < l.length → elemAt 1 v (I i) = some (.cptr [I (l.getD i.toNat 0)]) := elem_sl intE h
theorem gUn {X : Cx} {base : Nat} {k : List KF} {ts : List AV} {h : List AO} {mk : List Nat} {r : List AOper} {d : Option Nat} {w : Bool} {op : AOp} {sl : Option Nat} {m : List Nat} {x : Option (Nat × Bool)} : GG X base .undef w ⟨d, op, x, sl, m⟩ r k ts h mk = GO X base r k (putT ts d .undef) h mk := id rfl
theorem s30 (n lo hi : Int) (st : Bool) : Iso E 17 [I n, I lo, I hi] st = some (Bo (inR n lo hi)) := by
  refine Iso_of (es _ _ _ _) e17 ?_
  simp only [f17, inR]
  simp (disch := first | assumption | omega | (simp only [az]; done)) only [ru, eq_self, if_true, if_false, BEq.rfl, binI, AO.row?, splice, fillL, mmAll, loadV, storeV, zeros, Am.rowAt, Am.part, addOff, Nat.reduceAdd, Nat.reduceMul, Nat.reduceLeDiff, Nat.reduceSub, Nat.reduceLT, Int.reduceEq, Int.reduceLT, Int.reduceLE, Int.reduceGT, Int.reduceGE, Int.reduceAdd, Int.reduceSub, Int.reduceMul, Int.reduceNeg, Int.reduceToNat, reduceCtorEq, reduceIte]
  by_cases h1 : lo ≤ n
  · simp (disch := first | assumption | omega | (simp only [az]; done)) only [ru, eq_self, if_true, if_false, BEq.rfl, binI, AO.row?, splice, fillL, mmAll, loadV, storeV, zeros, Am.rowAt, Am.part, addOff, Nat.reduceAdd, Nat.reduceMul, Nat.reduceLeDiff, Nat.reduceSub, Nat.reduceLT, Int.reduceEq, Int.reduceLT, Int.reduceLE, Int.reduceGT, Int.reduceGE, Int.reduceAdd, Int.reduceSub, Int.reduceMul, Int.reduceNeg, Int.reduceToNat, reduceCtorEq, reduceIte, h1]
  · simp (disch := first | assumption | omega | (simp only [az]; done)) only [ru, eq_self, if_true, if_false, BEq.rfl, binI, AO.row?, splice, fillL, mmAll, loadV, storeV, zeros, Am.rowAt, Am.part, addOff, Nat.reduceAdd, Nat.reduceMul, Nat.reduceLeDiff, Nat.reduceSub, Nat.reduceLT, Int.reduceEq, Int.reduceLT, Int.reduceLE, Int.reduceGT, Int.reduceGE, Int.reduceAdd, Int.reduceSub, Int.reduceMul, Int.reduceNeg, Int.reduceToNat, reduceCtorEq, reduceIte, h1]
theorem range_all_succ {p : Nat → Bool} {i : Nat} (h : (List.range i).all p = true) (hp : p i = true) : (List.range (i + 1)).all p = true := by
  rw [List.range_succ, List.all_append, h]; simpa using hp
theorem range_not {p : Nat → Bool} {i N : Nat} (hi : i < N) (hp : p i = false) : (List.range N).all p = false := by
  rw [List.all_eq_false]; exact ⟨i, List.mem_range.2 hi, by simp [hp]⟩

section
/-! the program's -/
end

section
theorem Ro_ex {E : Env} {f : Nat} {fn : AFn} {vs : List AV} {h : List AO} (P : AV → Prop) (hu : ∀ v, P v → v.under h.length = true) (hs : E.spec f vs h h.length = none) (hf : E.fn f = some fn)
    (hg : G ⟨E, h.length, none, f, Done h.length fn.results fun r h' => P r⟩ fn.body [] (vs ++ List.replicate (fn.ntmps - vs.length) .undef) h []) : ∃ v, Ro E f vs h = some v ∧ P v := by
  obtain ⟨r, h', h1, h2⟩ := R_of (fun r _ => P r) hs hf hg
  exact ⟨r, by simp only [Ro, h1, hu r h2, if_true], h2⟩
end

section
end

section
/-! what a place has -/
end

theorem mapM_view {st : Bool} {h : List AO} {n : Nat} : ∀ {c : List AV}, (∀ x ∈ c, view st h n x = some x) → c.mapM (view st h n) = some c
  | [], _ => rfl
  | a :: c, hc => by
    simp only [List.mapM_cons, hc a (by simp), mapM_view (c := c) (fun x hx => hc x (by simp [hx])), Option.bind_eq_bind, Option.bind_some, Option.pure_def]
theorem flat_view {α : Type} {enc : α → List AV} {st : Bool} {h : List AO} {n : Nat} (hi : ∀ a, ∀ x ∈ enc a, ∃ k i, x = .int k i) (l : List α) : (l.flatMap enc).mapM (view st h n) = some (l.flatMap enc) :=
  mapM_view fun x hx => by
    obtain ⟨a, _, hx⟩ := List.mem_flatMap.1 hx
    obtain ⟨k, i, rfl⟩ := hi a x hx
    exact view_int
theorem flat_take {α : Type} {enc : α → List AV} {l : List α} {k : Nat} (he : ∀ a, (enc a).length = k) : (l.flatMap enc).take (l.length * k) = l.flatMap enc := List.take_of_length_le (by rw [flat_len he]; omega)
theorem flat1 (l : List Int) : (l.flatMap fun n => [I n]).length = l.length := by
  have := flat_len (enc := fun n : Int => [I n]) (esz := 1) (fun _ => rfl) l
  omega
theorem intIv (n : Int) : ∀ x ∈ intL n, ∃ k i, x = .int k i := by simp
/-- one heap came out of another: what was there is as it was -/
structure Fr (h h' : List AO) : Prop where
  l : h.length ≤ h'.length
  k : ∀ j, j < h.length → h'[j]? = h[j]?
theorem Fr.trans {a b c : List AO} (h : Fr a b) (h' : Fr b c) : Fr a c := ⟨Nat.le_trans h.l h'.l, fun j hj => (h'.k j (Nat.lt_of_lt_of_le hj h.l)).trans (h.k j hj)⟩
theorem Fr.app (h J : List AO) : Fr h (h ++ J) := ⟨by simp, fun j hj => List.getElem?_append_left hj⟩
theorem Fr.at {h h' : List AO} (F : Fr h h') {j : Nat} {x : AO} (hx : h[j]? = some x) : h'[j]? = some x := by rw [F.k j (List.getElem?_eq_some_iff.1 hx).1]; exact hx
section
variable {α : Type} {l m : List α} {j : Nat} {x : α}
theorem setT : (l ++ m).set (l.length + j) x = l ++ m.set j x := by rw [List.set_append_right _ _ (by omega), Nat.add_sub_cancel_left]
theorem setT0 : (l ++ m).set l.length x = l ++ m.set 0 x := setT (j := 0)
theorem getT : (l ++ m).getD (l.length + j) x = m.getD j x := by simp [List.getD_eq_getElem?_getD, List.getElem?_append_right]
theorem getT0 : (l ++ m).getD l.length x = m.getD 0 x := getT (j := 0)
theorem atT : (l ++ m)[l.length + j]? = m[j]? := by rw [List.getElem?_append_right (by omega), Nat.add_sub_cancel_left]
theorem atT0 : (l ++ m)[l.length]? = m[0]? := atT (j := 0)
end

/-! a list of lists that is being made -/
/-! appends in a region of open order -/
noncomputable def appG (keep : Bool) (lim p esz eb : Nat) (h : List AO) (s x : AV) : Option (AV × List AO) := exOp (fun _ _ _ _ => none) lim (some p) (fun o => match o with | .t 0 => s | _ => x) h (.append keep esz eb (.t 0) (.t 1))
theorem appG_zero {keep : Bool} {lim p esz eb sl : Nat} {h : List AO} {s x : AV} (hs : lenOf s = some sl) (hx : lenOf x = some 0) (hr : Am.rowOf h x = some []) : appG keep lim p esz eb h s x = some (s, h) := by
  simp only [appG, exOp, hs, hx, hr, List.length_nil, Nat.zero_mul, if_true]
theorem appG_ms {keep : Bool} {lim p esz eb n o len : Nat} {h : List AO} {x : AV} {c xs : List AV} (hn : n ≠ 0) (ho : h[o]? = some (.cells c false)) (hc : len * esz = c.length) (hx : lenOf x = some n) (hr : Am.rowOf h x = some xs) (hl : xs.length = n * esz) (hs : xs.all AV.scalar = true)
    (hb : (len + n) * eb ≤ 140737488355328) (heb : 1 ≤ eb) (hlim : lim ≤ o) :
    appG keep lim p esz eb h (.ms esz o 0 len) x = some (.ms esz p 0 (len + n), (h.set o (if keep then .ro c else .tomb)).set p (.cells (c ++ xs) (keep && len != 0))) := by
  simp only [appG, exOp, lenOf_ms, hx, hr, hl, hn, hs, hb, heb, ho, hc, hlim, if_true, if_false, and_self, true_and, true_or, newObj', Option.getD_some, List.take_length, Bool.or_false]
theorem GO_mapp {X : Cx} {base : Nat} {k : List KF} {ts : List AV} {h : List AO} {mk : List Nat} {r : List AOper} {d : Option Nat} {kp : Bool} {e eb s : Nat} {a x : Opd} {m : List Nat} :
    GO X base (⟨d, .append kp e eb a x, none, some s, m⟩ :: r) k ts h mk = GX X base ((appG kp X.lim (base + s) e eb (hide base m h) (a.ev ts) (x.ev ts)).map fun y => (y.1, unhide base h m y.2)) d r k ts mk := by
  rw [GO_slot]
  congr 1
  show exMask (R X.E) X.lim base (some (base + s)) (Opd.ev ts) h (.append kp e eb a x) m = _
  rw [exMask_eq]; rfl
theorem unhN {b : Nat} {h g : List AO} : unhide b h [] g = g := id rfl
theorem unhC {b s : Nat} {r : List Nat} {h g : List AO} : unhide b h (s :: r) g = (unhide b h r g).set (b + s) (h.getD (b + s) .tomb) := id rfl
theorem at_ap {α : Type} {l m : List α} {k : Nat} (h : k < l.length) : (l ++ m)[k]? = l[k]? := List.getElem?_append_left h
/-- a list that is being made, of whatever -/
def OutE {α : Type} (enc : α → List AV) (esz b : Nat) (h : List AO) (v : AV) (l : List α) : Prop := (l = [] ∧ v = .nils) ∨ (l ≠ [] ∧ ∃ o, b ≤ o ∧ v = .ms esz o 0 l.length ∧ h[o]? = some (.cells (l.flatMap enc) false))
where
  mapM_fix {f : AV → Option AV} : ∀ {c : List AV}, c.mapM f = some c → ∀ x ∈ c, f x = some x
    | [], _, x, hx => by simp at hx
    | a :: c, h, x, hx => by
      simp only [List.mapM_cons, Option.bind_eq_bind, Option.bind_eq_some_iff, Option.pure_def, Option.some.injEq, List.cons.injEq] at h
      obtain ⟨y, h1, ys, h2, rfl, rfl⟩ := h
      rcases List.mem_cons.1 hx with rfl | hx
      · exact h1
      · exact mapM_fix h2 x hx


theorem finC2 {lim i j s : Nat} {a : Bool} {P : AV → List AO → Prop} {ts : List AV} {h : List AO} : Done lim [.cell a s i, .tmp j] P .ret ⟨ts, h, []⟩ = ∃ v, getRes ts h (.cell a s i) = some v ∧ P (.tup [v, ts.getD j .undef]) h := by
  simp only [Done, finish, takeMarks, List.all_nil, if_true, List.mapM_cons, List.mapM_nil, Option.bind_eq_bind, Option.pure_def]
  cases getRes ts h (.cell a s i) <;> simp [getRes]
section
/-! Share, Load, Need -/
end

/-- a list that lies in the heap, in an object of its own -/
def RdC {α : Type} (enc : α → List AV) (esz : Nat) (h : List AO) (w : AV) (l : List α) : Prop := ∃ o, w = .ms esz o 0 l.length ∧ h[o]? = some (.cells (l.flatMap enc) false)
section
variable {α : Type} {enc : α → List AV} {esz eb : Nat} {l : List α}
theorem RdC.fr {h h' : List AO} {w : AV} (H : RdC enc esz h w l) (F : Fr h h') : RdC enc esz h' w l := by
  obtain ⟨o, e, hc⟩ := H; exact ⟨o, e, F.at hc⟩
theorem RdC.view {h : List AO} {w : AV} (H : RdC enc esz h w l) (he : ∀ a, (enc a).length = esz) (hi : ∀ a, ∀ x ∈ enc a, ∃ k i, x = .int k i) {st : Bool} {k : Nat} : Am.view st h (k + 1) w = some (slV esz enc l) := by
  obtain ⟨o, rfl, hc⟩ := H
  have e := flat_take (l := l) he
  simp only [view_ms, rowOf_ms, Am.rowAt, hc, Option.bind_some, AO.row?, List.drop_zero, e, flat_len he, if_true, flat_view hi]
  rfl
theorem RdC.sc {h : List AO} {w : AV} (H : RdC enc esz h w l) : w.cells = [w] ∧ w.scalar = true ∧ lenV w = some (I l.length) := by
  obtain ⟨o, rfl, hc⟩ := H; exact ⟨rfl, rfl, rfl⟩
theorem cpyV {v : AV} {h : List AO} {lim : Nat} (hv : IsSl esz enc l v) (he : ∀ a, (enc a).length = esz) (hs : ∀ a, (enc a).all AV.scalar = true) (hb : l.length * eb ≤ 140737488355328) (heb : 1 ≤ eb) (hlim : lim ≤ h.length) :
    ∃ w h', appV lim (h ++ [.cells [] false]) esz eb (.ms esz h.length 0 0) v = some (w, h') ∧ Fr h h' ∧ RdC enc esz h' w l := by
  rw [appV_new hv he hs hb heb _ _ _ atE hlim]
  by_cases hz : l.length = 0
  · rw [if_pos hz]
    refine ⟨_, _, rfl, Fr.app _ _, h.length, by rw [hz], ?_⟩
    rw [List.eq_nil_of_length_eq_zero hz]; exact atE
  · rw [if_neg hz]
    refine ⟨_, _, rfl, ⟨by simp, fun j hj => ?_⟩, (h ++ [AO.cells [] false]).length, rfl, ?_⟩
    · rw [List.getElem?_append_left (by simp; omega), List.getElem?_set_ne (by omega), List.getElem?_append_left hj]
    · rw [List.getElem?_append_right (by simp)]; simp
theorem cpyG {v : AV} {h J : List AO} {lim : Nat} (hv : IsSl esz enc l v) (he : ∀ a, (enc a).length = esz) (hs : ∀ a, (enc a).all AV.scalar = true) (hb : l.length * eb ≤ 140737488355328) (heb : 1 ≤ eb) (hlim : lim ≤ h.length) :
    ∃ w x0 x1, appG true lim (h.length + 1) esz eb (h ++ .cells [] false :: .tomb :: J) (.ms esz h.length 0 0) v = some (w, h ++ x0 :: x1 :: J) ∧ ∀ K, RdC enc esz (h ++ x0 :: x1 :: K) w l := by
  by_cases hz : l.length = 0
  · have e : l = [] := List.eq_nil_of_length_eq_zero hz
    subst e
    refine ⟨.ms esz h.length 0 0, .cells [] false, .tomb, ?_, fun K => ⟨h.length, rfl, by rw [atT0]; rfl⟩⟩
    have hr : Am.rowOf (h ++ .cells [] false :: .tomb :: J) v = some [] := rowOf_sl hv _
    rw [appG_zero (sl := 0) rfl (lenOf_sl hv) hr]
  · refine ⟨.ms esz (h.length + 1) 0 l.length, .ro [], .cells (l.flatMap enc) false, ?_, fun K => ⟨h.length + 1, rfl, by rw [atT]; rfl⟩⟩
    rw [appG_ms (c := []) hz atA0 (by simp) (lenOf_sl hv) (rowOf_sl hv _) (flat_len he l) (scal_sl hs l) (by simpa using hb) heb hlim, setT0, setT]
    simp
end
section
/-! of a crew -/
end

theorem rmap_at {f : Nat → Int} {n i : Nat} (h : i < n) : ((List.range n).map f).getD i 0 = f i := by
  simp [List.getD_eq_getElem?_getD, h]
/-! the program's -/
theorem flat_head {F : List Int} {i : Nat} (hi : i < F.length) : ((F.flatMap fun n => [I n]).drop i).head? = some (I (F.getD i 0)) := by
  induction F generalizing i with
  | nil => simp at hi
  | cons a F ih =>
    cases i with
    | zero => rfl
    | succ i => simpa using ih (i := i) (by simpa using hi)
/-! the cheapest crew -/

section
end

/-! calls that lay what they make behind the caller's heap -/
/-! a copy of a sea -/
theorem cpyO {α : Type} {enc : α → List AV} {esz eb : Nat} {l : List α} {v : AV} {h : List AO} {lim : Nat} (hv : IsSl esz enc l v) (he : ∀ a, (enc a).length = esz) (hs : ∀ a, (enc a).all AV.scalar = true) (hb : l.length * eb ≤ 140737488355328) (heb : 1 ≤ eb) (hlim : lim ≤ h.length) :
    ∃ o h', appV lim (h ++ [.cells [] false]) esz eb (.ms esz h.length 0 0) v = some (.ms esz o 0 l.length, h') ∧ Fr h h' ∧ h.length ≤ o ∧ h'[o]? = some (.cells (l.flatMap enc) false) := by
  rw [appV_new hv he hs hb heb _ _ _ atE hlim]
  by_cases hz : l.length = 0
  · rw [if_pos hz]
    refine ⟨h.length, _, by rw [hz], Fr.app _ _, Nat.le_refl _, ?_⟩
    rw [List.eq_nil_of_length_eq_zero hz]; exact atE
  · rw [if_neg hz]
    refine ⟨(h ++ [AO.cells [] false]).length, _, rfl, ⟨by simp, fun j hj => ?_⟩, by simp, ?_⟩
    · rw [List.getElem?_append_left (by simp; omega), List.getElem?_set_ne (by omega), List.getElem?_append_left hj]
    · rw [List.getElem?_append_right (by simp)]; simp
theorem int_put {l : List Int} {i : Nat} (hi : i < l.length) (x : Int) : (l.flatMap intL).take i ++ [I x] ++ (l.flatMap intL).drop (i + 1) = (l.set i x).flatMap intL := by
  induction l generalizing i with
  | nil => simp at hi
  | cons a l ih =>
    cases i with
    | zero => rfl
    | succ i =>
      have := ih (i := i) (by simpa using hi)
      show I a :: ((l.flatMap intL).take i ++ [I x] ++ (l.flatMap intL).drop (i + 1)) = _
      rw [this]; rfl

end Go.Proofs.Ytokhneffambgmaa.S

/-
Tables as values, and the small functions of both sides.
-/
namespace Go.Proofs.Ytokhneffambgmaa.S
open Go Go.Am Go.Proofs.Ytokhneffambgmaa.T
set_option maxRecDepth 100000
set_option linter.unusedSimpArgs false
set_option linter.unusedVariables false

def Pt.e (x : Pt) : List AV := [I x.of, I x.w.lo, I x.w.hi, I x.s.lo, I x.s.hi, I x.p]
theorem Pt.el (x : Pt) : x.e.length = 6 := rfl
theorem Pt.sc (x : Pt) : x.e.all AV.scalar = true := rfl
theorem Pt.iv (x : Pt) : ∀ y ∈ x.e, ∃ k i, y = .int k i := by simp [Pt.e]
theorem elem_pt {l : List Pt} {v : AV} (h : IsSl 6 Pt.e l v) : ∀ i : Int, 0 ≤ i → i < l.length → elemAt 6 v (I i) = some (.cptr [I (l.getD i.toNat default).of, I (l.getD i.toNat default).w.lo, I (l.getD i.toNat default).w.hi, I (l.getD i.toNat default).s.lo, I (l.getD i.toNat default).s.hi, I (l.getD i.toNat default).p]) := elem_sl Pt.el h
structure TbOk (t : List Pt) (v : AV) : Prop where
  i : IsSl 6 Pt.e t v
  n : t.length ≤ 41

def spanOk (s : Spn) : Bool := inR s.hi 0 30 && inR s.lo 0 s.hi
theorem spanOk_iff {s : Spn} : spanOk s = true ↔ 0 ≤ s.lo ∧ s.lo ≤ s.hi ∧ s.hi ≤ 30 := by
  simp only [spanOk, Bool.and_eq_true, inR_iff]; omega
def pOk (i : Nat) (x : Pt) : Bool := inR x.of (-1) ((i : Int) - 1) && spanOk x.w && spanOk x.s && inR x.p 0 99
def tval (t : List Pt) : Bool := decide (t.length ≤ 8) && (List.range t.length).all fun i => pOk i (t.getD i default)
/-- what the program may work on: pence may be 100, too -/
structure TW (t : List Pt) : Prop extends TG t where
  w : ∀ i, i < t.length → 0 ≤ (t.getD i default).w.lo ∧ (t.getD i default).w.lo ≤ (t.getD i default).w.hi ∧ (t.getD i default).w.hi ≤ 30
  p : ∀ i, i < t.length → 0 ≤ (t.getD i default).p ∧ (t.getD i default).p ≤ 100
theorem tval_iff {t : List Pt} : tval t = true ↔ TW t ∧ ∀ i, i < t.length → (t.getD i default).p ≤ 99 := by
  simp only [tval, Bool.and_eq_true, decide_eq_true_eq, List.all_eq_true, List.mem_range, pOk, spanOk_iff, inR_iff]
  constructor
  · rintro ⟨h1, h2⟩
    exact ⟨⟨⟨h1, fun i hi => by have := h2 i hi; omega, fun i hi => (h2 i hi).1.2⟩, fun i hi => (h2 i hi).1.1.2, fun i hi => by have := h2 i hi; omega⟩, fun i hi => by have := h2 i hi; omega⟩
  · rintro ⟨T, h2⟩
    refine ⟨T.n, fun i hi => ?_⟩
    have := T.of i hi; have := T.s i hi; have := T.w i hi; have := T.p i hi; have := h2 i hi
    omega
theorem tval_W {t : List Pt} (h : tval t = true) : TW t := (tval_iff.1 h).1

theorem s76 (n lo hi : Int) (st : Bool) : Iso E 18 [I n, I lo, I hi] st = some (Bo (inR n lo hi)) := by
  refine Iso_of (es _ _ _ _) e18 ?_
  simp only [f18]
  simp (disch := first | assumption | omega | (simp only [az]; done)) only [ru, eq_self, if_true, if_false, BEq.rfl, binI, AO.row?, splice, fillL, mmAll, loadV, storeV, zeros, Am.rowAt, Am.part, addOff, Nat.reduceAdd, Nat.reduceMul, Nat.reduceLeDiff, Nat.reduceSub, Nat.reduceLT, Int.reduceEq, Int.reduceLT, Int.reduceLE, Int.reduceGT, Int.reduceGE, Int.reduceAdd, Int.reduceSub, Int.reduceMul, Int.reduceNeg, Int.reduceToNat, reduceCtorEq, reduceIte, s30]
theorem s106 (n lo hi : Int) (st : Bool) : Iso E 69 [.agg [I lo, I hi], I n] st = some (Bo (inR n lo hi)) := by
  refine Iso_of (es _ _ _ _) e69 ?_
  simp only [f69, inR]
  simp (disch := first | assumption | omega | (simp only [az]; done)) only [ru, eq_self, if_true, if_false, BEq.rfl, binI, AO.row?, splice, fillL, mmAll, loadV, storeV, zeros, Am.rowAt, Am.part, addOff, Nat.reduceAdd, Nat.reduceMul, Nat.reduceLeDiff, Nat.reduceSub, Nat.reduceLT, Int.reduceEq, Int.reduceLT, Int.reduceLE, Int.reduceGT, Int.reduceGE, Int.reduceAdd, Int.reduceSub, Int.reduceMul, Int.reduceNeg, Int.reduceToNat, reduceCtorEq, reduceIte]
  by_cases h1 : lo ≤ n
  · simp (disch := first | assumption | omega | (simp only [az]; done)) only [ru, eq_self, if_true, if_false, BEq.rfl, binI, AO.row?, splice, fillL, mmAll, loadV, storeV, zeros, Am.rowAt, Am.part, addOff, Nat.reduceAdd, Nat.reduceMul, Nat.reduceLeDiff, Nat.reduceSub, Nat.reduceLT, Int.reduceEq, Int.reduceLT, Int.reduceLE, Int.reduceGT, Int.reduceGE, Int.reduceAdd, Int.reduceSub, Int.reduceMul, Int.reduceNeg, Int.reduceToNat, reduceCtorEq, reduceIte, h1]
  · simp (disch := first | assumption | omega | (simp only [az]; done)) only [ru, eq_self, if_true, if_false, BEq.rfl, binI, AO.row?, splice, fillL, mmAll, loadV, storeV, zeros, Am.rowAt, Am.part, addOff, Nat.reduceAdd, Nat.reduceMul, Nat.reduceLeDiff, Nat.reduceSub, Nat.reduceLT, Int.reduceEq, Int.reduceLT, Int.reduceLE, Int.reduceGT, Int.reduceGE, Int.reduceAdd, Int.reduceSub, Int.reduceMul, Int.reduceNeg, Int.reduceToNat, reduceCtorEq, reduceIte, h1]
theorem s90 (lo hi : Int) (st : Bool) : Iso E 19 [.agg [I lo, I hi]] st = some (Bo (spanOk ⟨lo, hi⟩)) := by
  refine Iso_of (es _ _ _ _) e19 ?_
  simp only [f19, spanOk]
  cases h1 : inR hi 0 30 <;> simp (disch := first | assumption | omega | (simp only [az]; done)) only [ru, eq_self, if_true, if_false, BEq.rfl, binI, AO.row?, splice, fillL, mmAll, loadV, storeV, zeros, Am.rowAt, Am.part, addOff, Nat.reduceAdd, Nat.reduceMul, Nat.reduceLeDiff, Nat.reduceSub, Nat.reduceLT, Int.reduceEq, Int.reduceLT, Int.reduceLE, Int.reduceGT, Int.reduceGE, Int.reduceAdd, Int.reduceSub, Int.reduceMul, Int.reduceNeg, Int.reduceToNat, reduceCtorEq, reduceIte, s76, h1, gUn]
theorem s122 (lo hi : Int) (st : Bool) : Iso E 53 [.agg [I lo, I hi]] st = some (Bo (spanOk ⟨lo, hi⟩)) := by
  have e : spanOk ⟨lo, hi⟩ = (decide (0 ≤ lo) && decide (lo ≤ hi) && decide (hi ≤ 30)) := by
    rw [Bool.eq_iff_iff, spanOk_iff]; simp only [Bool.and_eq_true, decide_eq_true_eq]; omega
  rw [e]
  refine Iso_of (es _ _ _ _) e53 ?_
  simp only [f53]
  simp (disch := first | assumption | omega | (simp only [az]; done)) only [ru, eq_self, if_true, if_false, BEq.rfl, binI, AO.row?, splice, fillL, mmAll, loadV, storeV, zeros, Am.rowAt, Am.part, addOff, Nat.reduceAdd, Nat.reduceMul, Nat.reduceLeDiff, Nat.reduceSub, Nat.reduceLT, Int.reduceEq, Int.reduceLT, Int.reduceLE, Int.reduceGT, Int.reduceGE, Int.reduceAdd, Int.reduceSub, Int.reduceMul, Int.reduceNeg, Int.reduceToNat, reduceCtorEq, reduceIte]
  by_cases h1 : 0 ≤ lo <;> by_cases h2 : lo ≤ hi <;> simp (disch := first | assumption | omega | (simp only [az]; done)) only [ru, eq_self, if_true, if_false, BEq.rfl, binI, AO.row?, splice, fillL, mmAll, loadV, storeV, zeros, Am.rowAt, Am.part, addOff, Nat.reduceAdd, Nat.reduceMul, Nat.reduceLeDiff, Nat.reduceSub, Nat.reduceLT, Int.reduceEq, Int.reduceLT, Int.reduceLE, Int.reduceGT, Int.reduceGE, Int.reduceAdd, Int.reduceSub, Int.reduceMul, Int.reduceNeg, Int.reduceToNat, reduceCtorEq, reduceIte, h1, h2]
theorem s82 (lo hi w : Int) (h1 : 0 ≤ lo ∧ lo ≤ 30) (h2 : 0 ≤ hi ∧ hi ≤ 30) (h3 : 0 ≤ w ∧ w ≤ 30) (st : Bool) : Iso E 41 [.agg [I lo, I hi], I w] st = some (I (awy ⟨lo, hi⟩ w)) := by
  have e : awy ⟨lo, hi⟩ w = mmx true (mmx true 0 (lo - w)) (w - hi) := by
    simp only [awy, mx, mmx]; split <;> split <;> split <;> split <;> simp_all <;> omega
  rw [e]
  refine Iso_of (es _ _ _ _) e41 ?_
  simp only [f41]
  simp (disch := first | assumption | omega | (simp only [az]; done)) only [ru, eq_self, if_true, if_false, BEq.rfl, binI, AO.row?, splice, fillL, mmAll, loadV, storeV, zeros, Am.rowAt, Am.part, addOff, Nat.reduceAdd, Nat.reduceMul, Nat.reduceLeDiff, Nat.reduceSub, Nat.reduceLT, Int.reduceEq, Int.reduceLT, Int.reduceLE, Int.reduceGT, Int.reduceGE, Int.reduceAdd, Int.reduceSub, Int.reduceMul, Int.reduceNeg, Int.reduceToNat, reduceCtorEq, reduceIte]
theorem s128 (a b : Int) (h : a ≠ 9223372036854775807 → b ≠ 9223372036854775807 → -9223372036854775808 ≤ a + b ∧ a + b ≤ 9223372036854775807) (st : Bool) : Iso E 58 [I a, I b] st = some (I (if a = 9223372036854775807 ∨ b = 9223372036854775807 then 9223372036854775807 else a + b)) := by
  refine Iso_of (es _ _ _ _) e58 ?_
  simp only [f58]
  by_cases h1 : a = 9223372036854775807
  · rw [if_pos (.inl h1)]
    simp (disch := first | assumption | omega | (simp only [az]; done)) only [ru, eq_self, if_true, if_false, BEq.rfl, binI, AO.row?, splice, fillL, mmAll, loadV, storeV, zeros, Am.rowAt, Am.part, addOff, Nat.reduceAdd, Nat.reduceMul, Nat.reduceLeDiff, Nat.reduceSub, Nat.reduceLT, Int.reduceEq, Int.reduceLT, Int.reduceLE, Int.reduceGT, Int.reduceGE, Int.reduceAdd, Int.reduceSub, Int.reduceMul, Int.reduceNeg, Int.reduceToNat, reduceCtorEq, reduceIte, h1, gUn, decide_true]
  · by_cases h2 : b = 9223372036854775807
    · rw [if_pos (.inr h2)]
      simp (disch := first | assumption | omega | (simp only [az]; done)) only [ru, eq_self, if_true, if_false, BEq.rfl, binI, AO.row?, splice, fillL, mmAll, loadV, storeV, zeros, Am.rowAt, Am.part, addOff, Nat.reduceAdd, Nat.reduceMul, Nat.reduceLeDiff, Nat.reduceSub, Nat.reduceLT, Int.reduceEq, Int.reduceLT, Int.reduceLE, Int.reduceGT, Int.reduceGE, Int.reduceAdd, Int.reduceSub, Int.reduceMul, Int.reduceNeg, Int.reduceToNat, reduceCtorEq, reduceIte, h1, h2, gUn, decide_true, decide_false]
    · have := h h1 h2
      rw [if_neg (by simp [h1, h2])]
      simp (disch := first | assumption | omega | (simp only [az]; done)) only [ru, eq_self, if_true, if_false, BEq.rfl, binI, AO.row?, splice, fillL, mmAll, loadV, storeV, zeros, Am.rowAt, Am.part, addOff, Nat.reduceAdd, Nat.reduceMul, Nat.reduceLeDiff, Nat.reduceSub, Nat.reduceLT, Int.reduceEq, Int.reduceLT, Int.reduceLE, Int.reduceGT, Int.reduceGE, Int.reduceAdd, Int.reduceSub, Int.reduceMul, Int.reduceNeg, Int.reduceToNat, reduceCtorEq, reduceIte, h1, h2, gUn, decide_true, decide_false]

section
variable {t : List Pt} {v : AV}
theorem s118 (H : TbOk t v) (T : TW t) {i : Nat} (hi : i < t.length) (w : Int) (h3 : 0 ≤ w ∧ w ≤ 30) (st : Bool) : Iso E 62 [v, I i, I w] st = some (I (awy (t.getD i default).w w)) := by
  have := T.w i hi
  have hlt : (i : Int) < t.length := by omega
  obtain ⟨x, hx⟩ : ∃ x, x = t.getD i default := ⟨_, rfl⟩
  rw [← hx] at this ⊢
  have e : awy x.w w = mmx true (mmx true (x.w.lo - w) (w - x.w.hi)) 0 := rfl
  rw [e]
  refine Iso_of (es _ _ _ _) e62 ?_
  simp only [f62]
  simp (disch := first | assumption | omega | (simp only [az]; done)) only [ru, eq_self, if_true, if_false, BEq.rfl, binI, AO.row?, splice, fillL, mmAll, loadV, storeV, zeros, Am.rowAt, Am.part, addOff, Nat.reduceAdd, Nat.reduceMul, Nat.reduceLeDiff, Nat.reduceSub, Nat.reduceLT, Int.reduceEq, Int.reduceLT, Int.reduceLE, Int.reduceGT, Int.reduceGE, Int.reduceAdd, Int.reduceSub, Int.reduceMul, Int.reduceNeg, Int.reduceToNat, reduceCtorEq, reduceIte, lenV_sl H.i, elem_pt H.i, view_sl H.i, scalar_sl H.i, cells_sl H.i, pure_sl H.i, Int.toNat_natCast, hlt, ← hx]
theorem can_upto {p : Int} {k : Nat} (hk : k < t.length) (h : ((t.take k).any fun x => decide (x.of = p)) = false) (hq : ¬ (t.getD k default).of = p) : ((t.take (k + 1)).any fun x => decide (x.of = p)) = false := by
  rw [List.take_succ_eq_append_getElem hk, List.any_append, h]
  simp only [List.getD_eq_getElem?_getD, List.getElem?_eq_getElem hk, Option.getD_some] at hq
  simp [hq]
theorem can_at {p : Int} {k : Nat} (hk : k < t.length) (hq : (t.getD k default).of = p) : canC t p = true := List.any_eq_true.2 ⟨_, getD_mem hk, decide_eq_true hq⟩
theorem s24 (H : TbOk t v) (p : Int) (st : Bool) : Iso E 39 [v, I p] st = some (Bo (canC t p)) := by
  have sp := H.n
  refine Iso_of (es _ _ _ _) e39 ?_
  simp only [f39]
  simp (disch := first | assumption | omega | (simp only [az]; done)) only [ru, eq_self, if_true, if_false, BEq.rfl, binI, AO.row?, splice, fillL, mmAll, loadV, storeV, zeros, Am.rowAt, Am.part, addOff, Nat.reduceAdd, Nat.reduceMul, Nat.reduceLeDiff, Nat.reduceSub, Nat.reduceLT, Int.reduceEq, Int.reduceLT, Int.reduceLE, Int.reduceGT, Int.reduceGE, Int.reduceAdd, Int.reduceSub, Int.reduceMul, Int.reduceNeg, Int.reduceToNat, reduceCtorEq, reduceIte]
  refine G_loop_ind (fun m ts hh mk => ∃ i : Nat, i ≤ t.length ∧ m = t.length - i ∧ ((t.take i).any fun x => decide (x.of = p)) = false ∧ ts.length = 19 ∧ ts.getD 0 .undef = v ∧ ts.getD 1 .undef = I p ∧ ts.getD 5 .undef = I i ∧ hh = [] ∧ mk = []) ?_ _ _ _ _
    ⟨0, Nat.zero_le _, rfl, rfl, rfl, rfl, rfl, rfl, rfl, rfl⟩
  rintro m ts hh mk ih ⟨i, hi, rfl, hall, hl', q0, q1, q5, rfl, rfl⟩
  rw [lit_all hl']
  simp only [lit0, litS, Nat.reduceAdd, q0, q1, q5]
  by_cases hlt : (i : Int) < t.length
  case neg =>
    obtain rfl : i = t.length := by omega
    rw [List.take_length] at hall
    have hc : canC t p = false := hall
    simp (disch := first | assumption | omega | (simp only [az]; done)) only [ru, eq_self, if_true, if_false, BEq.rfl, binI, AO.row?, splice, fillL, mmAll, loadV, storeV, zeros, Am.rowAt, Am.part, addOff, Nat.reduceAdd, Nat.reduceMul, Nat.reduceLeDiff, Nat.reduceSub, Nat.reduceLT, Int.reduceEq, Int.reduceLT, Int.reduceLE, Int.reduceGT, Int.reduceGE, Int.reduceAdd, Int.reduceSub, Int.reduceMul, Int.reduceNeg, Int.reduceToNat, reduceCtorEq, reduceIte, lenV_sl H.i, elem_pt H.i, view_sl H.i, scalar_sl H.i, cells_sl H.i, pure_sl H.i, Int.toNat_natCast, hlt, hc]
  have hi' : i < t.length := by omega
  obtain ⟨x, hx⟩ : ∃ x, x = t.getD i default := ⟨_, rfl⟩
  by_cases hc : x.of = p
  · have := can_at (p := p) hi' (by rw [← hx]; exact hc)
    simp (disch := first | assumption | omega | (simp only [az]; done)) only [ru, eq_self, if_true, if_false, BEq.rfl, binI, AO.row?, splice, fillL, mmAll, loadV, storeV, zeros, Am.rowAt, Am.part, addOff, Nat.reduceAdd, Nat.reduceMul, Nat.reduceLeDiff, Nat.reduceSub, Nat.reduceLT, Int.reduceEq, Int.reduceLT, Int.reduceLE, Int.reduceGT, Int.reduceGE, Int.reduceAdd, Int.reduceSub, Int.reduceMul, Int.reduceNeg, Int.reduceToNat, reduceCtorEq, reduceIte, lenV_sl H.i, elem_pt H.i, view_sl H.i, scalar_sl H.i, cells_sl H.i, pure_sl H.i, Int.toNat_natCast, hlt, ← hx, hc, this, decide_true]
  · simp (disch := first | assumption | omega | (simp only [az]; done)) only [ru, eq_self, if_true, if_false, BEq.rfl, binI, AO.row?, splice, fillL, mmAll, loadV, storeV, zeros, Am.rowAt, Am.part, addOff, Nat.reduceAdd, Nat.reduceMul, Nat.reduceLeDiff, Nat.reduceSub, Nat.reduceLT, Int.reduceEq, Int.reduceLT, Int.reduceLE, Int.reduceGT, Int.reduceGE, Int.reduceAdd, Int.reduceSub, Int.reduceMul, Int.reduceNeg, Int.reduceToNat, reduceCtorEq, reduceIte, lenV_sl H.i, elem_pt H.i, view_sl H.i, scalar_sl H.i, cells_sl H.i, pure_sl H.i, Int.toNat_natCast, hlt, ← hx, hc, decide_true, decide_false]
    exact ih (t.length - (i + 1)) _ _ _ (by omega) ⟨i + 1, by omega, rfl, can_upto hi' hall (by rw [← hx]; exact hc), rfl, rfl, rfl, rfl, rfl, rfl⟩
theorem s110 (x : Pt) {p : Int} {o : Nat} {h : List AO} (ho : h[o]? = some (.cells [I p] false)) : Ro E 81 [.agg [I x.of, I x.w.lo, I x.w.hi, I x.s.lo, I x.s.hi, I x.p], .ptr o 0] h = some (Bo (decide (x.of = p))) := by
  have ol := (List.getElem?_eq_some_iff.1 ho).1
  refine Ro_of (es _ _ _ _) e81 ?_
  simp only [f81]
  have e : ∀ X : AO, (h ++ [X])[o]? = some (.cells [I p] false) := fun X => by rw [List.getElem?_append_left ol]; exact ho
  simp (disch := first | assumption | omega | (simp only [az]; done)) only [ru, eq_self, if_true, if_false, BEq.rfl, binI, AO.row?, splice, fillL, mmAll, loadV, storeV, zeros, Am.rowAt, Am.part, addOff, Nat.reduceAdd, Nat.reduceMul, Nat.reduceLeDiff, Nat.reduceSub, Nat.reduceLT, Int.reduceEq, Int.reduceLT, Int.reduceLE, Int.reduceGT, Int.reduceGE, Int.reduceAdd, Int.reduceSub, Int.reduceMul, Int.reduceNeg, Int.reduceToNat, reduceCtorEq, reduceIte, atE, lenE, e]
  rfl
theorem s132 (H : TbOk t v) {p : Int} {o : Nat} {h : List AO} (ho : h[o]? = some (.cells [I p] false)) :
    ∃ k : Int, Ro E 86 [v, .fn 81 [] [.ptr o 0]] h = some (I k) ∧ decide (k ≥ 0) = canC t p := by
  have sp := H.n
  refine (fun x => ?_ : (∃ w, Ro E 86 [v, .fn 81 [] [.ptr o 0]] h = some w ∧ ∃ k : Int, w = I k ∧ decide (k ≥ 0) = canC t p) → _) (Ro_ex (fun r => ∃ k : Int, r = I k ∧ decide (k ≥ 0) = canC t p) (by rintro _ ⟨k, rfl, _⟩; rfl) (es _ _ _ _) e86 ?_)
  · obtain ⟨w, hv, k, rfl, hk⟩ := x; exact ⟨k, hv, hk⟩
  simp only [f86]
  simp (disch := first | assumption | omega | (simp only [az]; done)) only [ru, eq_self, if_true, if_false, BEq.rfl, binI, AO.row?, splice, fillL, mmAll, loadV, storeV, zeros, Am.rowAt, Am.part, addOff, Nat.reduceAdd, Nat.reduceMul, Nat.reduceLeDiff, Nat.reduceSub, Nat.reduceLT, Int.reduceEq, Int.reduceLT, Int.reduceLE, Int.reduceGT, Int.reduceGE, Int.reduceAdd, Int.reduceSub, Int.reduceMul, Int.reduceNeg, Int.reduceToNat, reduceCtorEq, reduceIte, lenV_sl H.i, elem_pt H.i, view_sl H.i, scalar_sl H.i, cells_sl H.i, pure_sl H.i, Int.toNat_natCast]
  refine G_loop_ind (fun m ts hh mk => ∃ i : Nat, i ≤ t.length ∧ m = t.length - i ∧ ((t.take i).any fun x => decide (x.of = p)) = false ∧ ts.length = 19 ∧ ts.getD 0 .undef = v ∧ ts.getD 1 .undef = .fn 81 [] [.ptr o 0] ∧ ts.getD 7 .undef = I t.length ∧ ts.getD 8 .undef = I i ∧ hh = h ∧ mk = []) ?_ _ _ _ _
    ⟨0, Nat.zero_le _, rfl, rfl, rfl, rfl, rfl, rfl, rfl, rfl, rfl⟩
  rintro m ts hh mk ih ⟨i, hi, rfl, hall, hl', q0, q1, q7, q8, rfl, rfl⟩
  rw [lit_all hl']
  simp only [lit0, litS, Nat.reduceAdd, q0, q1, q7, q8]
  simp (disch := first | assumption | omega | (simp only [az]; done)) only [ru, eq_self, if_true, if_false, BEq.rfl, binI, AO.row?, splice, fillL, mmAll, loadV, storeV, zeros, Am.rowAt, Am.part, addOff, Nat.reduceAdd, Nat.reduceMul, Nat.reduceLeDiff, Nat.reduceSub, Nat.reduceLT, Int.reduceEq, Int.reduceLT, Int.reduceLE, Int.reduceGT, Int.reduceGE, Int.reduceAdd, Int.reduceSub, Int.reduceMul, Int.reduceNeg, Int.reduceToNat, reduceCtorEq, reduceIte]
  by_cases hlt : (i : Int) < t.length
  case pos =>
    have hi' : i < t.length := by omega
    obtain ⟨x, hx⟩ : ∃ x, x = t.getD i default := ⟨_, rfl⟩
    have hr := s110 x ho
    by_cases hc : x.of = p
    · have ev := can_at (p := p) hi' (by rw [← hx]; exact hc)
      rw [decide_eq_true hc] at hr
      simp (disch := first | assumption | omega | (simp only [az]; done)) only [ru, eq_self, if_true, if_false, BEq.rfl, binI, AO.row?, splice, fillL, mmAll, loadV, storeV, zeros, Am.rowAt, Am.part, addOff, Nat.reduceAdd, Nat.reduceMul, Nat.reduceLeDiff, Nat.reduceSub, Nat.reduceLT, Int.reduceEq, Int.reduceLT, Int.reduceLE, Int.reduceGT, Int.reduceGE, Int.reduceAdd, Int.reduceSub, Int.reduceMul, Int.reduceNeg, Int.reduceToNat, reduceCtorEq, reduceIte, hlt, lenV_sl H.i, elem_pt H.i, view_sl H.i, scalar_sl H.i, cells_sl H.i, pure_sl H.i, Int.toNat_natCast, ← hx, exOp_callv1, hr]
      exact ⟨i, rfl, by rw [ev]; simp⟩
    · rw [decide_eq_false hc] at hr
      simp (disch := first | assumption | omega | (simp only [az]; done)) only [ru, eq_self, if_true, if_false, BEq.rfl, binI, AO.row?, splice, fillL, mmAll, loadV, storeV, zeros, Am.rowAt, Am.part, addOff, Nat.reduceAdd, Nat.reduceMul, Nat.reduceLeDiff, Nat.reduceSub, Nat.reduceLT, Int.reduceEq, Int.reduceLT, Int.reduceLE, Int.reduceGT, Int.reduceGE, Int.reduceAdd, Int.reduceSub, Int.reduceMul, Int.reduceNeg, Int.reduceToNat, reduceCtorEq, reduceIte, hlt, lenV_sl H.i, elem_pt H.i, view_sl H.i, scalar_sl H.i, cells_sl H.i, pure_sl H.i, Int.toNat_natCast, ← hx, exOp_callv1, hr]
      exact ih (t.length - (i + 1)) _ _ _ (by omega) ⟨i + 1, by omega, rfl, can_upto hi' hall (by rw [← hx]; exact hc), rfl, rfl, rfl, rfl, rfl, rfl, rfl⟩
  obtain rfl : i = t.length := by omega
  rw [List.take_length] at hall
  have hc : canC t p = false := hall
  simp (disch := first | assumption | omega | (simp only [az]; done)) only [ru, eq_self, if_true, if_false, BEq.rfl, binI, AO.row?, splice, fillL, mmAll, loadV, storeV, zeros, Am.rowAt, Am.part, addOff, Nat.reduceAdd, Nat.reduceMul, Nat.reduceLeDiff, Nat.reduceSub, Nat.reduceLT, Int.reduceEq, Int.reduceLT, Int.reduceLE, Int.reduceGT, Int.reduceGE, Int.reduceAdd, Int.reduceSub, Int.reduceMul, Int.reduceNeg, Int.reduceToNat, reduceCtorEq, reduceIte, hlt]
  exact ⟨-1, rfl, by rw [hc]; decide⟩
theorem s109 (H : TbOk t v) {p : Int} {o : Nat} {h : List AO} (ho : h[o]? = some (.cells [I p] false)) : Ro E 80 [v, .fn 81 [] [.ptr o 0]] h = some (Bo (canC t p)) := by
  obtain ⟨k, hr, hk⟩ := s132 H ho
  refine Ro_of (es _ _ _ _) e80 ?_
  simp only [f80]
  simp (disch := first | assumption | omega | (simp only [az]; done)) only [ru, eq_self, if_true, if_false, BEq.rfl, binI, AO.row?, splice, fillL, mmAll, loadV, storeV, zeros, Am.rowAt, Am.part, addOff, Nat.reduceAdd, Nat.reduceMul, Nat.reduceLeDiff, Nat.reduceSub, Nat.reduceLT, Int.reduceEq, Int.reduceLT, Int.reduceLE, Int.reduceGT, Int.reduceGE, Int.reduceAdd, Int.reduceSub, Int.reduceMul, Int.reduceNeg, Int.reduceToNat, reduceCtorEq, reduceIte, hr]
  rw [hk]; exact ⟨rfl, rfl⟩
theorem s70 (H : TbOk t v) (p : Int) (st : Bool) : Iso E 70 [v, I p] st = some (Bo (canC t p)) := by
  have hr := s109 H (o := 0) (p := p) (h := [.cells [I p] false]) rfl
  refine Iso_of (es _ _ _ _) e70 ?_
  simp only [f70]
  simp (disch := first | assumption | omega | (simp only [az]; done)) only [ru, eq_self, if_true, if_false, BEq.rfl, binI, AO.row?, splice, fillL, mmAll, loadV, storeV, zeros, Am.rowAt, Am.part, addOff, Nat.reduceAdd, Nat.reduceMul, Nat.reduceLeDiff, Nat.reduceSub, Nat.reduceLT, Int.reduceEq, Int.reduceLT, Int.reduceLE, Int.reduceGT, Int.reduceGE, Int.reduceAdd, Int.reduceSub, Int.reduceMul, Int.reduceNeg, Int.reduceToNat, reduceCtorEq, reduceIte, hr]
theorem s107 (H : TbOk t v) {i : Nat} (hi : i < t.length) (st : Bool) : Iso E 55 [v, I i] st = some (.agg [I (wst t i).lo, I (wst t i).hi]) := by
  have hlt : (i : Int) < t.length := by omega
  obtain ⟨x, hx⟩ : ∃ x, x = t.getD i default := ⟨_, rfl⟩
  refine Iso_of (es _ _ _ _) e55 ?_
  simp only [f55, wst, ← hx]
  cases hc : canC t i
  · simp (disch := first | assumption | omega | (simp only [az]; done)) only [ru, eq_self, if_true, if_false, BEq.rfl, binI, AO.row?, splice, fillL, mmAll, loadV, storeV, zeros, Am.rowAt, Am.part, addOff, Nat.reduceAdd, Nat.reduceMul, Nat.reduceLeDiff, Nat.reduceSub, Nat.reduceLT, Int.reduceEq, Int.reduceLT, Int.reduceLE, Int.reduceGT, Int.reduceGE, Int.reduceAdd, Int.reduceSub, Int.reduceMul, Int.reduceNeg, Int.reduceToNat, reduceCtorEq, reduceIte, lenV_sl H.i, elem_pt H.i, view_sl H.i, scalar_sl H.i, cells_sl H.i, pure_sl H.i, Int.toNat_natCast, s70, hc, finC, getRes, Option.some.injEq, exists_eq_left']
  · simp (disch := first | assumption | omega | (simp only [az]; done)) only [ru, eq_self, if_true, if_false, BEq.rfl, binI, AO.row?, splice, fillL, mmAll, loadV, storeV, zeros, Am.rowAt, Am.part, addOff, Nat.reduceAdd, Nat.reduceMul, Nat.reduceLeDiff, Nat.reduceSub, Nat.reduceLT, Int.reduceEq, Int.reduceLT, Int.reduceLE, Int.reduceGT, Int.reduceGE, Int.reduceAdd, Int.reduceSub, Int.reduceMul, Int.reduceNeg, Int.reduceToNat, reduceCtorEq, reduceIte, lenV_sl H.i, elem_pt H.i, view_sl H.i, scalar_sl H.i, cells_sl H.i, pure_sl H.i, Int.toNat_natCast, s70, hc, hlt, ← hx, finC, getRes, Option.some.injEq, exists_eq_left']
theorem s53 (H : TbOk t v) (st : Bool) : Iso E 4 [v] st = some (I (if tval t then 0 else 70)) := by
  have sp := H.n
  refine Iso_of (es _ _ _ _) e4 ?_
  simp only [f4]
  by_cases h1 : (t.length : Int) > 8
  · have ev : tval t = false := by simp only [tval, Bool.and_eq_false_iff, decide_eq_false_iff_not]; left; omega
    simp (disch := first | assumption | omega | (simp only [az]; done)) only [ru, eq_self, if_true, if_false, BEq.rfl, binI, AO.row?, splice, fillL, mmAll, loadV, storeV, zeros, Am.rowAt, Am.part, addOff, Nat.reduceAdd, Nat.reduceMul, Nat.reduceLeDiff, Nat.reduceSub, Nat.reduceLT, Int.reduceEq, Int.reduceLT, Int.reduceLE, Int.reduceGT, Int.reduceGE, Int.reduceAdd, Int.reduceSub, Int.reduceMul, Int.reduceNeg, Int.reduceToNat, reduceCtorEq, reduceIte, lenV_sl H.i, elem_pt H.i, view_sl H.i, scalar_sl H.i, cells_sl H.i, pure_sl H.i, Int.toNat_natCast, h1, ev, decide_true]
  have g1 : t.length ≤ 8 := by omega
  simp (disch := first | assumption | omega | (simp only [az]; done)) only [ru, eq_self, if_true, if_false, BEq.rfl, binI, AO.row?, splice, fillL, mmAll, loadV, storeV, zeros, Am.rowAt, Am.part, addOff, Nat.reduceAdd, Nat.reduceMul, Nat.reduceLeDiff, Nat.reduceSub, Nat.reduceLT, Int.reduceEq, Int.reduceLT, Int.reduceLE, Int.reduceGT, Int.reduceGE, Int.reduceAdd, Int.reduceSub, Int.reduceMul, Int.reduceNeg, Int.reduceToNat, reduceCtorEq, reduceIte, lenV_sl H.i, elem_pt H.i, view_sl H.i, scalar_sl H.i, cells_sl H.i, pure_sl H.i, Int.toNat_natCast, h1, decide_false]
  refine G_loop_ind (fun m ts hh mk => ∃ (i : Nat) (J : List AO), i ≤ t.length ∧ m = t.length - i ∧ ((List.range i).all fun i => pOk i (t.getD i default)) = true ∧ ts.length = 42 ∧ ts.getD 0 .undef = v ∧ ts.getD 3 .undef = I i ∧ hh = J ∧ mk = []) ?_ _ _ _ _
    ⟨0, [], Nat.zero_le _, rfl, rfl, rfl, rfl, rfl, rfl, rfl⟩
  rintro m ts hh mk ih ⟨i, J, hi, rfl, hall, hl', q0, q3, rfl, rfl⟩
  rw [lit_all hl']
  simp only [lit0, litS, Nat.reduceAdd, q0, q3]
  by_cases hlt : (i : Int) < t.length
  case neg =>
    obtain rfl : i = t.length := by omega
    have ev : tval t = true := by simp only [tval, hall, g1, decide_true, Bool.true_and]
    simp (disch := first | assumption | omega | (simp only [az]; done)) only [ru, eq_self, if_true, if_false, BEq.rfl, binI, AO.row?, splice, fillL, mmAll, loadV, storeV, zeros, Am.rowAt, Am.part, addOff, Nat.reduceAdd, Nat.reduceMul, Nat.reduceLeDiff, Nat.reduceSub, Nat.reduceLT, Int.reduceEq, Int.reduceLT, Int.reduceLE, Int.reduceGT, Int.reduceGE, Int.reduceAdd, Int.reduceSub, Int.reduceMul, Int.reduceNeg, Int.reduceToNat, reduceCtorEq, reduceIte, lenV_sl H.i, elem_pt H.i, view_sl H.i, scalar_sl H.i, cells_sl H.i, pure_sl H.i, Int.toNat_natCast, hlt, ev, decide_false]
  have hi' : i < t.length := by omega
  obtain ⟨x, hx⟩ : ∃ x, x = t.getD i default := ⟨_, rfl⟩
  cases hp : pOk i x
  · have ev : tval t = false := by
      have := range_not (p := fun i => pOk i (t.getD i default)) hi' (by rw [← hx]; exact hp)
      simp only [tval, this, Bool.and_false]
    simp only [pOk] at hp
    cases c1 : inR x.of (-1) ((i : Int) - 1)
    · simp (disch := first | assumption | omega | (simp only [az]; done)) only [ru, eq_self, if_true, if_false, BEq.rfl, binI, AO.row?, splice, fillL, mmAll, loadV, storeV, zeros, Am.rowAt, Am.part, addOff, Nat.reduceAdd, Nat.reduceMul, Nat.reduceLeDiff, Nat.reduceSub, Nat.reduceLT, Int.reduceEq, Int.reduceLT, Int.reduceLE, Int.reduceGT, Int.reduceGE, Int.reduceAdd, Int.reduceSub, Int.reduceMul, Int.reduceNeg, Int.reduceToNat, reduceCtorEq, reduceIte, lenV_sl H.i, elem_pt H.i, view_sl H.i, scalar_sl H.i, cells_sl H.i, pure_sl H.i, Int.toNat_natCast, hlt, ← hx, c1, s76, ev, gUn, atE, setE, decide_true, Bool.not_false]
    rw [c1, Bool.true_and] at hp
    cases c2 : spanOk x.w
    · have c2' : spanOk ⟨x.w.lo, x.w.hi⟩ = false := c2
      simp (disch := first | assumption | omega | (simp only [az]; done)) only [ru, eq_self, if_true, if_false, BEq.rfl, binI, AO.row?, splice, fillL, mmAll, loadV, storeV, zeros, Am.rowAt, Am.part, addOff, Nat.reduceAdd, Nat.reduceMul, Nat.reduceLeDiff, Nat.reduceSub, Nat.reduceLT, Int.reduceEq, Int.reduceLT, Int.reduceLE, Int.reduceGT, Int.reduceGE, Int.reduceAdd, Int.reduceSub, Int.reduceMul, Int.reduceNeg, Int.reduceToNat, reduceCtorEq, reduceIte, lenV_sl H.i, elem_pt H.i, view_sl H.i, scalar_sl H.i, cells_sl H.i, pure_sl H.i, Int.toNat_natCast, hlt, ← hx, c1, c2', s76, s90, ev, gUn, atE, setE, decide_true, Bool.not_false, Bool.not_true]
    have c2' : spanOk ⟨x.w.lo, x.w.hi⟩ = true := c2
    rw [c2, Bool.true_and] at hp
    cases c3 : spanOk x.s
    · have c3' : spanOk ⟨x.s.lo, x.s.hi⟩ = false := c3
      simp (disch := first | assumption | omega | (simp only [az]; done)) only [ru, eq_self, if_true, if_false, BEq.rfl, binI, AO.row?, splice, fillL, mmAll, loadV, storeV, zeros, Am.rowAt, Am.part, addOff, Nat.reduceAdd, Nat.reduceMul, Nat.reduceLeDiff, Nat.reduceSub, Nat.reduceLT, Int.reduceEq, Int.reduceLT, Int.reduceLE, Int.reduceGT, Int.reduceGE, Int.reduceAdd, Int.reduceSub, Int.reduceMul, Int.reduceNeg, Int.reduceToNat, reduceCtorEq, reduceIte, lenV_sl H.i, elem_pt H.i, view_sl H.i, scalar_sl H.i, cells_sl H.i, pure_sl H.i, Int.toNat_natCast, hlt, ← hx, c1, c2', c3', s76, s90, ev, gUn, atE, setE, decide_true, Bool.not_false, Bool.not_true]
    have c3' : spanOk ⟨x.s.lo, x.s.hi⟩ = true := c3
    rw [c3, Bool.true_and] at hp
    simp (disch := first | assumption | omega | (simp only [az]; done)) only [ru, eq_self, if_true, if_false, BEq.rfl, binI, AO.row?, splice, fillL, mmAll, loadV, storeV, zeros, Am.rowAt, Am.part, addOff, Nat.reduceAdd, Nat.reduceMul, Nat.reduceLeDiff, Nat.reduceSub, Nat.reduceLT, Int.reduceEq, Int.reduceLT, Int.reduceLE, Int.reduceGT, Int.reduceGE, Int.reduceAdd, Int.reduceSub, Int.reduceMul, Int.reduceNeg, Int.reduceToNat, reduceCtorEq, reduceIte, lenV_sl H.i, elem_pt H.i, view_sl H.i, scalar_sl H.i, cells_sl H.i, pure_sl H.i, Int.toNat_natCast, hlt, ← hx, c1, c2', c3', hp, s76, s90, ev, gUn, atE, setE, decide_true, Bool.not_false, Bool.not_true]
  · have hp2 := hp
    simp only [pOk, Bool.and_eq_true] at hp2
    obtain ⟨⟨⟨c1, c2⟩, c3⟩, c4⟩ := hp2
    have c2' : spanOk ⟨x.w.lo, x.w.hi⟩ = true := c2
    have c3' : spanOk ⟨x.s.lo, x.s.hi⟩ = true := c3
    simp (disch := first | assumption | omega | (simp only [az]; done)) only [ru, eq_self, if_true, if_false, BEq.rfl, binI, AO.row?, splice, fillL, mmAll, loadV, storeV, zeros, Am.rowAt, Am.part, addOff, Nat.reduceAdd, Nat.reduceMul, Nat.reduceLeDiff, Nat.reduceSub, Nat.reduceLT, Int.reduceEq, Int.reduceLT, Int.reduceLE, Int.reduceGT, Int.reduceGE, Int.reduceAdd, Int.reduceSub, Int.reduceMul, Int.reduceNeg, Int.reduceToNat, reduceCtorEq, reduceIte, lenV_sl H.i, elem_pt H.i, view_sl H.i, scalar_sl H.i, cells_sl H.i, pure_sl H.i, Int.toNat_natCast, hlt, ← hx, c1, c2', c3', c4, s76, s90, gUn, atE, setE, decide_true, Bool.not_false, Bool.not_true]
    exact ih (t.length - (i + 1)) _ _ _ (by omega) ⟨i + 1, _, by omega, rfl, range_all_succ hall (by rw [← hx]; exact hp), rfl, rfl, rfl, rfl, rfl⟩
theorem of_ok {i : Nat} {x : Int} : inR x (-1) ((i : Int) - 1) = (decide (x = -1) || (decide (0 ≤ x) && decide (x < i))) := by
  rw [Bool.eq_iff_iff, inR_iff]; simp only [Bool.or_eq_true, Bool.and_eq_true, decide_eq_true_eq]; omega
theorem pence_ok {x : Int} : inR x 0 99 = !(decide (x < 0) || decide (x > 99)) := by
  rw [Bool.eq_iff_iff, inR_iff]; simp only [Bool.not_eq_true', Bool.or_eq_false_iff, decide_eq_false_iff_not]; omega
theorem s89 (H : TbOk t v) (st : Bool) : Iso E 43 [v] st = some (Bo (tval t)) := by
  have sp := H.n
  refine Iso_of (es _ _ _ _) e43 ?_
  simp only [f43]
  by_cases h1 : (t.length : Int) > 8
  · have ev : tval t = false := by simp only [tval, Bool.and_eq_false_iff, decide_eq_false_iff_not]; left; omega
    simp (disch := first | assumption | omega | (simp only [az]; done)) only [ru, eq_self, if_true, if_false, BEq.rfl, binI, AO.row?, splice, fillL, mmAll, loadV, storeV, zeros, Am.rowAt, Am.part, addOff, Nat.reduceAdd, Nat.reduceMul, Nat.reduceLeDiff, Nat.reduceSub, Nat.reduceLT, Int.reduceEq, Int.reduceLT, Int.reduceLE, Int.reduceGT, Int.reduceGE, Int.reduceAdd, Int.reduceSub, Int.reduceMul, Int.reduceNeg, Int.reduceToNat, reduceCtorEq, reduceIte, lenV_sl H.i, elem_pt H.i, view_sl H.i, scalar_sl H.i, cells_sl H.i, pure_sl H.i, Int.toNat_natCast, h1, ev, decide_true]
  have g1 : t.length ≤ 8 := by omega
  simp (disch := first | assumption | omega | (simp only [az]; done)) only [ru, eq_self, if_true, if_false, BEq.rfl, binI, AO.row?, splice, fillL, mmAll, loadV, storeV, zeros, Am.rowAt, Am.part, addOff, Nat.reduceAdd, Nat.reduceMul, Nat.reduceLeDiff, Nat.reduceSub, Nat.reduceLT, Int.reduceEq, Int.reduceLT, Int.reduceLE, Int.reduceGT, Int.reduceGE, Int.reduceAdd, Int.reduceSub, Int.reduceMul, Int.reduceNeg, Int.reduceToNat, reduceCtorEq, reduceIte, lenV_sl H.i, elem_pt H.i, view_sl H.i, scalar_sl H.i, cells_sl H.i, pure_sl H.i, Int.toNat_natCast, h1, decide_false]
  refine G_loop_ind (fun m ts hh mk => ∃ (i : Nat) (J : List AO), i ≤ t.length ∧ m = t.length - i ∧ ((List.range i).all fun i => pOk i (t.getD i default)) = true ∧ ts.length = 55 ∧ ts.getD 9 .undef = v ∧ ts.getD 10 .undef = I t.length ∧ ts.getD 11 .undef = I i ∧ hh = J ∧ mk = []) ?_ _ _ _ _
    ⟨0, [], Nat.zero_le _, rfl, rfl, rfl, rfl, rfl, rfl, rfl, rfl⟩
  rintro m ts hh mk ih ⟨i, J, hi, rfl, hall, hl', q9, q10, q11, rfl, rfl⟩
  rw [lit_all hl']
  simp only [lit0, litS, Nat.reduceAdd, q9, q10, q11]
  by_cases hlt : (i : Int) < t.length
  case neg =>
    obtain rfl : i = t.length := by omega
    have ev : tval t = true := by simp only [tval, hall, g1, decide_true, Bool.true_and]
    simp (disch := first | assumption | omega | (simp only [az]; done)) only [ru, eq_self, if_true, if_false, BEq.rfl, binI, AO.row?, splice, fillL, mmAll, loadV, storeV, zeros, Am.rowAt, Am.part, addOff, Nat.reduceAdd, Nat.reduceMul, Nat.reduceLeDiff, Nat.reduceSub, Nat.reduceLT, Int.reduceEq, Int.reduceLT, Int.reduceLE, Int.reduceGT, Int.reduceGE, Int.reduceAdd, Int.reduceSub, Int.reduceMul, Int.reduceNeg, Int.reduceToNat, reduceCtorEq, reduceIte, lenV_sl H.i, elem_pt H.i, view_sl H.i, scalar_sl H.i, cells_sl H.i, pure_sl H.i, Int.toNat_natCast, hlt, ev, decide_false]
  have hi' : i < t.length := by omega
  obtain ⟨x, hx⟩ : ∃ x, x = t.getD i default := ⟨_, rfl⟩
  have hpe : pOk i x = ((decide (x.of = -1) || (decide (0 ≤ x.of) && decide (x.of < i))) && spanOk ⟨x.w.lo, x.w.hi⟩ && spanOk ⟨x.s.lo, x.s.hi⟩ && !(decide (x.p < 0) || decide (x.p > 99))) := by
    rw [pOk, of_ok, pence_ok]
  have ev : pOk i x = false → tval t = false := fun hp => by
      have := range_not (p := fun i => pOk i (t.getD i default)) hi' (by rw [← hx]; exact hp)
      simp only [tval, this, Bool.and_false]
  have nx : pOk i x = true → ((List.range (i + 1)).all fun i => pOk i (t.getD i default)) = true := fun hp => range_all_succ hall (by rw [← hx]; exact hp)
  by_cases c0 : x.of = -1
  · cases c2 : spanOk ⟨x.w.lo, x.w.hi⟩
    · have ev := ev (by rw [hpe, c2]; simp)
      simp (disch := first | assumption | omega | (simp only [az]; done)) only [ru, eq_self, if_true, if_false, BEq.rfl, binI, AO.row?, splice, fillL, mmAll, loadV, storeV, zeros, Am.rowAt, Am.part, addOff, Nat.reduceAdd, Nat.reduceMul, Nat.reduceLeDiff, Nat.reduceSub, Nat.reduceLT, Int.reduceEq, Int.reduceLT, Int.reduceLE, Int.reduceGT, Int.reduceGE, Int.reduceAdd, Int.reduceSub, Int.reduceMul, Int.reduceNeg, Int.reduceToNat, reduceCtorEq, reduceIte, lenV_sl H.i, elem_pt H.i, view_sl H.i, scalar_sl H.i, cells_sl H.i, pure_sl H.i, Int.toNat_natCast, hlt, ← hx, c0, c2, s122, ev, gUn, atE, setE, decide_true, Bool.not_false, Bool.not_true]
    cases c3 : spanOk ⟨x.s.lo, x.s.hi⟩
    · have ev := ev (by rw [hpe, c3]; simp)
      simp (disch := first | assumption | omega | (simp only [az]; done)) only [ru, eq_self, if_true, if_false, BEq.rfl, binI, AO.row?, splice, fillL, mmAll, loadV, storeV, zeros, Am.rowAt, Am.part, addOff, Nat.reduceAdd, Nat.reduceMul, Nat.reduceLeDiff, Nat.reduceSub, Nat.reduceLT, Int.reduceEq, Int.reduceLT, Int.reduceLE, Int.reduceGT, Int.reduceGE, Int.reduceAdd, Int.reduceSub, Int.reduceMul, Int.reduceNeg, Int.reduceToNat, reduceCtorEq, reduceIte, lenV_sl H.i, elem_pt H.i, view_sl H.i, scalar_sl H.i, cells_sl H.i, pure_sl H.i, Int.toNat_natCast, hlt, ← hx, c0, c2, c3, s122, ev, gUn, atE, setE, decide_true, Bool.not_false, Bool.not_true]
    by_cases c4 : x.p < 0
    · have ev := ev (by rw [hpe, decide_eq_true c4]; simp)
      simp (disch := first | assumption | omega | (simp only [az]; done)) only [ru, eq_self, if_true, if_false, BEq.rfl, binI, AO.row?, splice, fillL, mmAll, loadV, storeV, zeros, Am.rowAt, Am.part, addOff, Nat.reduceAdd, Nat.reduceMul, Nat.reduceLeDiff, Nat.reduceSub, Nat.reduceLT, Int.reduceEq, Int.reduceLT, Int.reduceLE, Int.reduceGT, Int.reduceGE, Int.reduceAdd, Int.reduceSub, Int.reduceMul, Int.reduceNeg, Int.reduceToNat, reduceCtorEq, reduceIte, lenV_sl H.i, elem_pt H.i, view_sl H.i, scalar_sl H.i, cells_sl H.i, pure_sl H.i, Int.toNat_natCast, hlt, ← hx, c0, c2, c3, c4, s122, ev, gUn, atE, setE, decide_true, Bool.not_false, Bool.not_true]
    by_cases c5 : x.p > 99
    · have ev := ev (by rw [hpe, decide_eq_true c5]; simp)
      simp (disch := first | assumption | omega | (simp only [az]; done)) only [ru, eq_self, if_true, if_false, BEq.rfl, binI, AO.row?, splice, fillL, mmAll, loadV, storeV, zeros, Am.rowAt, Am.part, addOff, Nat.reduceAdd, Nat.reduceMul, Nat.reduceLeDiff, Nat.reduceSub, Nat.reduceLT, Int.reduceEq, Int.reduceLT, Int.reduceLE, Int.reduceGT, Int.reduceGE, Int.reduceAdd, Int.reduceSub, Int.reduceMul, Int.reduceNeg, Int.reduceToNat, reduceCtorEq, reduceIte, lenV_sl H.i, elem_pt H.i, view_sl H.i, scalar_sl H.i, cells_sl H.i, pure_sl H.i, Int.toNat_natCast, hlt, ← hx, c0, c2, c3, c4, c5, s122, ev, gUn, atE, setE, decide_true, decide_false, Bool.not_false, Bool.not_true]
    have nx := nx (by rw [hpe, c0, c2, c3, decide_eq_false c4, decide_eq_false c5]; simp)
    simp (disch := first | assumption | omega | (simp only [az]; done)) only [ru, eq_self, if_true, if_false, BEq.rfl, binI, AO.row?, splice, fillL, mmAll, loadV, storeV, zeros, Am.rowAt, Am.part, addOff, Nat.reduceAdd, Nat.reduceMul, Nat.reduceLeDiff, Nat.reduceSub, Nat.reduceLT, Int.reduceEq, Int.reduceLT, Int.reduceLE, Int.reduceGT, Int.reduceGE, Int.reduceAdd, Int.reduceSub, Int.reduceMul, Int.reduceNeg, Int.reduceToNat, reduceCtorEq, reduceIte, lenV_sl H.i, elem_pt H.i, view_sl H.i, scalar_sl H.i, cells_sl H.i, pure_sl H.i, Int.toNat_natCast, hlt, ← hx, c0, c2, c3, c4, c5, s122, gUn, atE, setE, decide_true, decide_false, Bool.not_false, Bool.not_true]
    exact ih (t.length - (i + 1)) _ _ _ (by omega) ⟨i + 1, _, by omega, rfl, nx, rfl, rfl, rfl, rfl, rfl, rfl⟩
  · by_cases c1 : 0 ≤ x.of
    case neg =>
      have ev := ev (by rw [hpe, decide_eq_false c0, decide_eq_false c1]; simp)
      simp (disch := first | assumption | omega | (simp only [az]; done)) only [ru, eq_self, if_true, if_false, BEq.rfl, binI, AO.row?, splice, fillL, mmAll, loadV, storeV, zeros, Am.rowAt, Am.part, addOff, Nat.reduceAdd, Nat.reduceMul, Nat.reduceLeDiff, Nat.reduceSub, Nat.reduceLT, Int.reduceEq, Int.reduceLT, Int.reduceLE, Int.reduceGT, Int.reduceGE, Int.reduceAdd, Int.reduceSub, Int.reduceMul, Int.reduceNeg, Int.reduceToNat, reduceCtorEq, reduceIte, lenV_sl H.i, elem_pt H.i, view_sl H.i, scalar_sl H.i, cells_sl H.i, pure_sl H.i, Int.toNat_natCast, hlt, ← hx, c0, c1, s122, ev, gUn, atE, setE, decide_true, decide_false, Bool.not_false, Bool.not_true]
    by_cases c6 : x.of < i
    case neg =>
      have ev := ev (by rw [hpe, decide_eq_false c0, decide_eq_false c6]; simp)
      simp (disch := first | assumption | omega | (simp only [az]; done)) only [ru, eq_self, if_true, if_false, BEq.rfl, binI, AO.row?, splice, fillL, mmAll, loadV, storeV, zeros, Am.rowAt, Am.part, addOff, Nat.reduceAdd, Nat.reduceMul, Nat.reduceLeDiff, Nat.reduceSub, Nat.reduceLT, Int.reduceEq, Int.reduceLT, Int.reduceLE, Int.reduceGT, Int.reduceGE, Int.reduceAdd, Int.reduceSub, Int.reduceMul, Int.reduceNeg, Int.reduceToNat, reduceCtorEq, reduceIte, lenV_sl H.i, elem_pt H.i, view_sl H.i, scalar_sl H.i, cells_sl H.i, pure_sl H.i, Int.toNat_natCast, hlt, ← hx, c0, c1, c6, s122, ev, gUn, atE, setE, decide_true, decide_false, Bool.not_false, Bool.not_true]
    cases c2 : spanOk ⟨x.w.lo, x.w.hi⟩
    · have ev := ev (by rw [hpe, c2]; simp)
      simp (disch := first | assumption | omega | (simp only [az]; done)) only [ru, eq_self, if_true, if_false, BEq.rfl, binI, AO.row?, splice, fillL, mmAll, loadV, storeV, zeros, Am.rowAt, Am.part, addOff, Nat.reduceAdd, Nat.reduceMul, Nat.reduceLeDiff, Nat.reduceSub, Nat.reduceLT, Int.reduceEq, Int.reduceLT, Int.reduceLE, Int.reduceGT, Int.reduceGE, Int.reduceAdd, Int.reduceSub, Int.reduceMul, Int.reduceNeg, Int.reduceToNat, reduceCtorEq, reduceIte, lenV_sl H.i, elem_pt H.i, view_sl H.i, scalar_sl H.i, cells_sl H.i, pure_sl H.i, Int.toNat_natCast, hlt, ← hx, c0, c1, c6, c2, s122, ev, gUn, atE, setE, decide_true, decide_false, Bool.not_false, Bool.not_true]
    cases c3 : spanOk ⟨x.s.lo, x.s.hi⟩
    · have ev := ev (by rw [hpe, c3]; simp)
      simp (disch := first | assumption | omega | (simp only [az]; done)) only [ru, eq_self, if_true, if_false, BEq.rfl, binI, AO.row?, splice, fillL, mmAll, loadV, storeV, zeros, Am.rowAt, Am.part, addOff, Nat.reduceAdd, Nat.reduceMul, Nat.reduceLeDiff, Nat.reduceSub, Nat.reduceLT, Int.reduceEq, Int.reduceLT, Int.reduceLE, Int.reduceGT, Int.reduceGE, Int.reduceAdd, Int.reduceSub, Int.reduceMul, Int.reduceNeg, Int.reduceToNat, reduceCtorEq, reduceIte, lenV_sl H.i, elem_pt H.i, view_sl H.i, scalar_sl H.i, cells_sl H.i, pure_sl H.i, Int.toNat_natCast, hlt, ← hx, c0, c1, c6, c2, c3, s122, ev, gUn, atE, setE, decide_true, decide_false, Bool.not_false, Bool.not_true]
    by_cases c4 : x.p < 0
    · have ev := ev (by rw [hpe, decide_eq_true c4]; simp)
      simp (disch := first | assumption | omega | (simp only [az]; done)) only [ru, eq_self, if_true, if_false, BEq.rfl, binI, AO.row?, splice, fillL, mmAll, loadV, storeV, zeros, Am.rowAt, Am.part, addOff, Nat.reduceAdd, Nat.reduceMul, Nat.reduceLeDiff, Nat.reduceSub, Nat.reduceLT, Int.reduceEq, Int.reduceLT, Int.reduceLE, Int.reduceGT, Int.reduceGE, Int.reduceAdd, Int.reduceSub, Int.reduceMul, Int.reduceNeg, Int.reduceToNat, reduceCtorEq, reduceIte, lenV_sl H.i, elem_pt H.i, view_sl H.i, scalar_sl H.i, cells_sl H.i, pure_sl H.i, Int.toNat_natCast, hlt, ← hx, c0, c1, c6, c2, c3, c4, s122, ev, gUn, atE, setE, decide_true, decide_false, Bool.not_false, Bool.not_true]
    by_cases c5 : x.p > 99
    · have ev := ev (by rw [hpe, decide_eq_true c5]; simp)
      simp (disch := first | assumption | omega | (simp only [az]; done)) only [ru, eq_self, if_true, if_false, BEq.rfl, binI, AO.row?, splice, fillL, mmAll, loadV, storeV, zeros, Am.rowAt, Am.part, addOff, Nat.reduceAdd, Nat.reduceMul, Nat.reduceLeDiff, Nat.reduceSub, Nat.reduceLT, Int.reduceEq, Int.reduceLT, Int.reduceLE, Int.reduceGT, Int.reduceGE, Int.reduceAdd, Int.reduceSub, Int.reduceMul, Int.reduceNeg, Int.reduceToNat, reduceCtorEq, reduceIte, lenV_sl H.i, elem_pt H.i, view_sl H.i, scalar_sl H.i, cells_sl H.i, pure_sl H.i, Int.toNat_natCast, hlt, ← hx, c0, c1, c6, c2, c3, c4, c5, s122, ev, gUn, atE, setE, decide_true, decide_false, Bool.not_false, Bool.not_true]
    have nx := nx (by rw [hpe, decide_eq_true c1, decide_eq_true c6, c2, c3, decide_eq_false c4, decide_eq_false c5]; simp)
    simp (disch := first | assumption | omega | (simp only [az]; done)) only [ru, eq_self, if_true, if_false, BEq.rfl, binI, AO.row?, splice, fillL, mmAll, loadV, storeV, zeros, Am.rowAt, Am.part, addOff, Nat.reduceAdd, Nat.reduceMul, Nat.reduceLeDiff, Nat.reduceSub, Nat.reduceLT, Int.reduceEq, Int.reduceLT, Int.reduceLE, Int.reduceGT, Int.reduceGE, Int.reduceAdd, Int.reduceSub, Int.reduceMul, Int.reduceNeg, Int.reduceToNat, reduceCtorEq, reduceIte, lenV_sl H.i, elem_pt H.i, view_sl H.i, scalar_sl H.i, cells_sl H.i, pure_sl H.i, Int.toNat_natCast, hlt, ← hx, c0, c1, c6, c2, c3, c4, c5, s122, gUn, atE, setE, decide_true, decide_false, Bool.not_false, Bool.not_true]
    exact ih (t.length - (i + 1)) _ _ _ (by omega) ⟨i + 1, _, by omega, rfl, nx, rfl, rfl, rfl, rfl, rfl, rfl⟩
theorem s52 (H : TbOk t v) (st : Bool) : Iso E 26 [v] st = some (I (if tval t then 0 else 70)) := by
  refine Iso_of (es _ _ _ _) e26 ?_
  simp only [f26]
  cases hv : tval t <;> simp (disch := first | assumption | omega | (simp only [az]; done)) only [ru, eq_self, if_true, if_false, BEq.rfl, binI, AO.row?, splice, fillL, mmAll, loadV, storeV, zeros, Am.rowAt, Am.part, addOff, Nat.reduceAdd, Nat.reduceMul, Nat.reduceLeDiff, Nat.reduceSub, Nat.reduceLT, Int.reduceEq, Int.reduceLT, Int.reduceLE, Int.reduceGT, Int.reduceGE, Int.reduceAdd, Int.reduceSub, Int.reduceMul, Int.reduceNeg, Int.reduceToNat, reduceCtorEq, reduceIte, lenV_sl H.i, elem_pt H.i, view_sl H.i, scalar_sl H.i, cells_sl H.i, pure_sl H.i, Int.toNat_natCast, s89, hv, Bool.not_false, Bool.not_true, Bool.false_eq_true]
end
end Go.Proofs.Ytokhneffambgmaa.S

/-
Cuts, partings and truths, on both sides.
-/
namespace Go.Proofs.Ytokhneffambgmaa.S
open Go Go.Am Go.Proofs.Ytokhneffambgmaa.T
set_option maxRecDepth 100000
set_option linter.unusedSimpArgs false
set_option linter.unusedVariables false

abbrev fu (l : List Int) : Nat → Int := fun i => l.getD i 0
section
variable {t : List Pt} {v w : AV} {l : List Int}
end

/-! partings -/
def parB (t : List Pt) (l : List Int) : Bool := decide (l.length = t.length) && (List.range t.length).all (fun i => inR (l.getD i 0) 0 30) && (List.range t.length).all fun i => !canC t i || inR (l.getD i 0 - pcs t (fu l) i t.length) (t.getD i default).s.lo (t.getD i default).s.hi
def truB (t : List Pt) (l : List Int) : Bool := decide (l.length = t.length) && (List.range t.length).all (fun i => inR (l.getD i 0) (t.getD i default).w.lo (t.getD i default).w.hi) && (List.range t.length).all fun i => inR (l.getD i 0 - pcs t (fu l) i t.length) (wst t i).lo (wst t i).hi
theorem pcs_leaf {t : List Pt} {u : Nat → Int} {i : Nat} (hc : canC t i = false) : ∀ {j : Nat}, j ≤ t.length → pcs t u i j = 0
  | 0, _ => rfl
  | j + 1, h => by
    have : ¬ (t.getD j default).of = i := fun e => by rw [can_at h e] at hc; cases hc
    simp only [pcs]; rw [if_neg this, pcs_leaf hc (by omega)]; rfl
theorem parB_iff {t : List Pt} {l : List Int} : parB t l = true ↔ l.length = t.length ∧ PartF t (fu l) := by
  simp only [parB, Bool.and_eq_true, decide_eq_true_eq, List.all_eq_true, List.mem_range, Bool.or_eq_true, Bool.not_eq_true', inR_iff]
  constructor
  · rintro ⟨⟨h1, h2⟩, h3⟩
    refine ⟨h1, fun i hi => ⟨h2 i hi, ?_⟩⟩
    have h4 := h3 i hi
    unfold wst
    cases hc : canC t i
    · rw [pcs_leaf hc (Nat.le_refl _)]
      have := h2 i hi
      simp only [Bool.false_eq_true, if_false]; show _ ≤ l.getD i 0 - 0 ∧ l.getD i 0 - 0 ≤ _; omega
    · rcases h4 with h4 | h4
      · rw [hc] at h4; cases h4
      · simp only [if_true]; exact h4
  · rintro ⟨h1, h2⟩
    refine ⟨⟨h1, fun i hi => (h2 i hi).1⟩, fun i hi => ?_⟩
    have h4 := (h2 i hi).2
    unfold wst at h4
    cases hc : canC t i
    · exact .inl rfl
    · rw [hc, if_pos rfl] at h4; exact .inr h4
theorem truB_iff {t : List Pt} (T : TW t) {l : List Int} : truB t l = true ↔ l.length = t.length ∧ TruF t (fu l) := by
  simp only [truB, Bool.and_eq_true, decide_eq_true_eq, List.all_eq_true, List.mem_range, inR_iff]
  constructor
  · rintro ⟨⟨h1, h2⟩, h3⟩
    refine ⟨h1, fun i hi => ⟨?_, h3 i hi⟩, h2⟩
    have := h2 i hi; have := T.w i hi
    show 0 ≤ l.getD i 0 ∧ l.getD i 0 ≤ 30; omega
  · rintro ⟨h1, h2, h3⟩
    exact ⟨⟨h1, h3⟩, fun i hi => (h2 i hi).2⟩
theorem chg_nn {t : List Pt} {u : Nat → Int} : ∀ {k : Nat}, 0 ≤ chg t u k
  | 0 => Int.le_refl _
  | k + 1 => by have := chg_nn (t := t) (u := u) (k := k); have := @awy_nn (t.getD k default).w (u k); simp only [chg]; omega
theorem chg_zero {t : List Pt} {u : Nat → Int} : ∀ {k : Nat}, chg t u k = 0 ↔ ∀ i, i < k → (t.getD i default).w.lo ≤ u i ∧ u i ≤ (t.getD i default).w.hi
  | 0 => ⟨fun _ i hi => by omega, fun _ => rfl⟩
  | k + 1 => by
    have h1 := chg_nn (t := t) (u := u) (k := k); have h2 := @awy_nn (t.getD k default).w (u k)
    have ih := chg_zero (t := t) (u := u) (k := k)
    simp only [chg]
    constructor
    · intro h i hi
      by_cases e : i = k
      · subst e; exact awy_zero.1 (by omega)
      · exact ih.1 (by omega) i (by omega)
    · intro h
      have := ih.2 fun i hi => h i (by omega)
      have := awy_zero.2 (h k (by omega))
      omega
theorem tru_par {t : List Pt} {u : Nat → Int} : TruF t u ↔ PartF t u ∧ chg t u t.length = 0 := by rw [chg_zero]; rfl
theorem chg_le {t : List Pt} (T : TW t) {u : Nat → Int} (hu : ∀ i, i < t.length → 0 ≤ u i ∧ u i ≤ 30) : ∀ {k : Nat}, k ≤ t.length → chg t u k ≤ 30 * k
  | 0, _ => Int.le_refl _
  | k + 1, h => by
    have := chg_le T hu (k := k) (by omega)
    have := T.w k (by omega); have := hu k (by omega)
    have : awy (t.getD k default).w (u k) ≤ 30 := by unfold awy mx; split <;> split <;> omega
    simp only [chg]; omega
theorem pcs_rng {t : List Pt} {u : Nat → Int} {p : Nat} {n : Nat} (hu : ∀ i, i < n → 0 ≤ u i ∧ u i ≤ 30) : ∀ {j : Nat}, j ≤ n → 0 ≤ pcs t u p j ∧ pcs t u p j ≤ 30 * j
  | 0, _ => by simp [pcs]
  | j + 1, h => by
    have := pcs_rng (t := t) (p := p) hu (j := j) (by omega)
    have := hu j (by omega)
    simp only [pcs]; split <;> omega

section
variable {t : List Pt} {v w : AV} {l : List Int}
theorem s25 (H : TbOk t w) (V : IsSl 1 intL l v) (hl : l.length = t.length) (hb : ∀ i, i < t.length → 0 ≤ l.getD i 0 ∧ l.getD i 0 ≤ 30) {p : Nat} (hp : p < t.length) (st : Bool) : Iso E 40 [w, v, I p] st = some (I (l.getD p 0 - pcs t (fu l) p t.length)) := by
  have sp := H.n
  refine Iso_of (es _ _ _ _) e40 ?_
  simp only [f40]
  have hplt : (p : Int) < l.length := by omega
  obtain ⟨a, ha⟩ : ∃ a, a = l.getD p 0 := ⟨_, rfl⟩
  have hba := hb p hp
  rw [← ha] at hba ⊢
  simp (disch := first | assumption | omega | (simp only [az]; done)) only [ru, eq_self, if_true, if_false, BEq.rfl, binI, AO.row?, splice, fillL, mmAll, loadV, storeV, zeros, Am.rowAt, Am.part, addOff, Nat.reduceAdd, Nat.reduceMul, Nat.reduceLeDiff, Nat.reduceSub, Nat.reduceLT, Int.reduceEq, Int.reduceLT, Int.reduceLE, Int.reduceGT, Int.reduceGE, Int.reduceAdd, Int.reduceSub, Int.reduceMul, Int.reduceNeg, Int.reduceToNat, reduceCtorEq, reduceIte, lenV_sl V, elem_in V, view_sl V, scalar_sl V, cells_sl V, pure_sl V, Int.toNat_natCast, hplt, ← ha]
  refine G_loop_ind (fun m ts h mk => ∃ i : Nat, i ≤ t.length ∧ m = t.length - i ∧ ts.length = 33 ∧ ts.getD 0 .undef = w ∧ ts.getD 1 .undef = v ∧ ts.getD 2 .undef = I p ∧ ts.getD 7 .undef = I (a - pcs t (fu l) p i) ∧ ts.getD 8 .undef = I i ∧ h = [] ∧ mk = []) ?_ _ _ _ _ ⟨0, Nat.zero_le _, rfl, rfl, rfl, rfl, rfl, by simp [pcs], rfl, rfl, rfl⟩
  rintro m ts h mk ih ⟨i, hi', rfl, hl', q0, q1, q2, q7, q8, rfl, rfl⟩
  rw [lit_all hl']
  simp only [lit0, litS, Nat.reduceAdd, q0, q1, q2, q7, q8]
  by_cases hlt : (i : Int) < t.length
  case neg =>
    obtain rfl : i = t.length := by omega
    simp (disch := first | assumption | omega | (simp only [az]; done)) only [ru, eq_self, if_true, if_false, BEq.rfl, binI, AO.row?, splice, fillL, mmAll, loadV, storeV, zeros, Am.rowAt, Am.part, addOff, Nat.reduceAdd, Nat.reduceMul, Nat.reduceLeDiff, Nat.reduceSub, Nat.reduceLT, Int.reduceEq, Int.reduceLT, Int.reduceLE, Int.reduceGT, Int.reduceGE, Int.reduceAdd, Int.reduceSub, Int.reduceMul, Int.reduceNeg, Int.reduceToNat, reduceCtorEq, reduceIte, lenV_sl H.i, elem_pt H.i, view_sl H.i, scalar_sl H.i, cells_sl H.i, pure_sl H.i, Int.toNat_natCast, hlt]
  have hi2 : i < t.length := by omega
  have hlt2 : (i : Int) < l.length := by omega
  obtain ⟨x, hx⟩ : ∃ x, x = t.getD i default := ⟨_, rfl⟩
  obtain ⟨b, hbb⟩ : ∃ b, b = l.getD i 0 := ⟨_, rfl⟩
  have hbi := hb i hi2
  rw [← hbb] at hbi
  have pr := pcs_rng (t := t) (p := p) (u := fu l) hb (j := i) hi'
  have ps : pcs t (fu l) p (i + 1) = pcs t (fu l) p i + if x.of = p then b else 0 := by simp only [pcs, ← hx, fu, ← hbb]
  obtain ⟨z, hz⟩ : ∃ z, z = pcs t (fu l) p i := ⟨_, rfl⟩
  rw [← hz] at pr ps
  by_cases hc : x.of = p
  · rw [if_pos hc] at ps
    simp (disch := first | assumption | omega | (simp only [az]; done)) only [ru, eq_self, if_true, if_false, BEq.rfl, binI, AO.row?, splice, fillL, mmAll, loadV, storeV, zeros, Am.rowAt, Am.part, addOff, Nat.reduceAdd, Nat.reduceMul, Nat.reduceLeDiff, Nat.reduceSub, Nat.reduceLT, Int.reduceEq, Int.reduceLT, Int.reduceLE, Int.reduceGT, Int.reduceGE, Int.reduceAdd, Int.reduceSub, Int.reduceMul, Int.reduceNeg, Int.reduceToNat, reduceCtorEq, reduceIte, lenV_sl H.i, elem_pt H.i, view_sl H.i, scalar_sl H.i, cells_sl H.i, pure_sl H.i, Int.toNat_natCast, lenV_sl V, elem_in V, view_sl V, scalar_sl V, cells_sl V, pure_sl V, Int.toNat_natCast, hlt, hlt2, ← hx, ← hbb, ← hz, hc, decide_true]
    exact ih (t.length - (i + 1)) _ _ _ (by omega) ⟨i + 1, by omega, rfl, rfl, rfl, rfl, rfl, by rw [ps]; show I _ = I _; congr 1; omega, rfl, rfl, rfl⟩
  · rw [if_neg hc] at ps
    simp (disch := first | assumption | omega | (simp only [az]; done)) only [ru, eq_self, if_true, if_false, BEq.rfl, binI, AO.row?, splice, fillL, mmAll, loadV, storeV, zeros, Am.rowAt, Am.part, addOff, Nat.reduceAdd, Nat.reduceMul, Nat.reduceLeDiff, Nat.reduceSub, Nat.reduceLT, Int.reduceEq, Int.reduceLT, Int.reduceLE, Int.reduceGT, Int.reduceGE, Int.reduceAdd, Int.reduceSub, Int.reduceMul, Int.reduceNeg, Int.reduceToNat, reduceCtorEq, reduceIte, lenV_sl H.i, elem_pt H.i, view_sl H.i, scalar_sl H.i, cells_sl H.i, pure_sl H.i, Int.toNat_natCast, lenV_sl V, elem_in V, view_sl V, scalar_sl V, cells_sl V, pure_sl V, Int.toNat_natCast, hlt, hlt2, ← hx, ← hbb, ← hz, hc, decide_true, decide_false]
    exact ih (t.length - (i + 1)) _ _ _ (by omega) ⟨i + 1, by omega, rfl, rfl, rfl, rfl, rfl, by rw [ps]; show I _ = I _; congr 1; omega, rfl, rfl, rfl⟩
theorem s41 (H : TbOk t w) (T : TW t) (V : IsSl 1 intL l v) (hl : l.length = t.length) (hb : ∀ i, i < t.length → 0 ≤ l.getD i 0 ∧ l.getD i 0 ≤ 30) (st : Bool) : Iso E 23 [w, v] st = some (I (chg t (fu l) t.length)) := by
  have sp := H.n
  refine Iso_of (es _ _ _ _) e23 ?_
  simp only [f23]
  simp (disch := first | assumption | omega | (simp only [az]; done)) only [ru, eq_self, if_true, if_false, BEq.rfl, binI, AO.row?, splice, fillL, mmAll, loadV, storeV, zeros, Am.rowAt, Am.part, addOff, Nat.reduceAdd, Nat.reduceMul, Nat.reduceLeDiff, Nat.reduceSub, Nat.reduceLT, Int.reduceEq, Int.reduceLT, Int.reduceLE, Int.reduceGT, Int.reduceGE, Int.reduceAdd, Int.reduceSub, Int.reduceMul, Int.reduceNeg, Int.reduceToNat, reduceCtorEq, reduceIte]
  refine G_loop_ind (fun m ts h mk => ∃ i : Nat, i ≤ t.length ∧ m = t.length - i ∧ ts.length = 26 ∧ ts.getD 0 .undef = w ∧ ts.getD 1 .undef = v ∧ ts.getD 5 .undef = I (chg t (fu l) i) ∧ ts.getD 6 .undef = I i ∧ h = [] ∧ mk = []) ?_ _ _ _ _ ⟨0, Nat.zero_le _, rfl, rfl, rfl, rfl, rfl, rfl, rfl, rfl⟩
  rintro m ts h mk ih ⟨i, hi', rfl, hl', q0, q1, q5, q6, rfl, rfl⟩
  rw [lit_all hl']
  simp only [lit0, litS, Nat.reduceAdd, q0, q1, q5, q6]
  by_cases hlt : (i : Int) < t.length
  case neg =>
    obtain rfl : i = t.length := by omega
    simp (disch := first | assumption | omega | (simp only [az]; done)) only [ru, eq_self, if_true, if_false, BEq.rfl, binI, AO.row?, splice, fillL, mmAll, loadV, storeV, zeros, Am.rowAt, Am.part, addOff, Nat.reduceAdd, Nat.reduceMul, Nat.reduceLeDiff, Nat.reduceSub, Nat.reduceLT, Int.reduceEq, Int.reduceLT, Int.reduceLE, Int.reduceGT, Int.reduceGE, Int.reduceAdd, Int.reduceSub, Int.reduceMul, Int.reduceNeg, Int.reduceToNat, reduceCtorEq, reduceIte, lenV_sl H.i, elem_pt H.i, view_sl H.i, scalar_sl H.i, cells_sl H.i, pure_sl H.i, Int.toNat_natCast, hlt]
  have hi2 : i < t.length := by omega
  have hlt2 : (i : Int) < l.length := by omega
  obtain ⟨x, hx⟩ : ∃ x, x = t.getD i default := ⟨_, rfl⟩
  obtain ⟨b, hbb⟩ : ∃ b, b = l.getD i 0 := ⟨_, rfl⟩
  have hbi := hb i hi2
  have hw := T.w i hi2
  rw [← hbb] at hbi
  rw [← hx] at hw
  have c1 := chg_nn (t := t) (u := fu l) (k := i)
  have c2 := chg_le T (u := fu l) hb (k := i) hi'
  have c3 := @awy_nn x.w b
  have c4 : awy x.w b ≤ 30 := by unfold awy mx; split <;> split <;> omega
  have ps : chg t (fu l) (i + 1) = chg t (fu l) i + awy x.w b := by simp only [chg, ← hx, fu, ← hbb]
  have g := fun st => s82 x.w.lo x.w.hi b (by omega) (by omega) hbi st
  obtain ⟨z, hz⟩ : ∃ z, z = chg t (fu l) i := ⟨_, rfl⟩
  rw [← hz] at c1 c2 ps
  have ea : awy ⟨x.w.lo, x.w.hi⟩ b = awy x.w b := rfl
  simp only [ea] at g
  simp (disch := first | assumption | omega | (simp only [az]; done)) only [ru, eq_self, if_true, if_false, BEq.rfl, binI, AO.row?, splice, fillL, mmAll, loadV, storeV, zeros, Am.rowAt, Am.part, addOff, Nat.reduceAdd, Nat.reduceMul, Nat.reduceLeDiff, Nat.reduceSub, Nat.reduceLT, Int.reduceEq, Int.reduceLT, Int.reduceLE, Int.reduceGT, Int.reduceGE, Int.reduceAdd, Int.reduceSub, Int.reduceMul, Int.reduceNeg, Int.reduceToNat, reduceCtorEq, reduceIte, lenV_sl H.i, elem_pt H.i, view_sl H.i, scalar_sl H.i, cells_sl H.i, pure_sl H.i, Int.toNat_natCast, lenV_sl V, elem_in V, view_sl V, scalar_sl V, cells_sl V, pure_sl V, Int.toNat_natCast, hlt, hlt2, ← hx, ← hbb, ← hz, g]
  exact ih (t.length - (i + 1)) _ _ _ (by omega) ⟨i + 1, by omega, rfl, rfl, rfl, rfl, by rw [ps]; rfl, rfl, rfl, rfl⟩
theorem s40 (H : TbOk t w) (V : IsSl 1 intL l v) (st : Bool) : Iso E 22 [w, v] st = some (Bo (parB t l)) := by
  have sp := H.n
  refine Iso_of (es _ _ _ _) e22 ?_
  simp only [f22]
  by_cases hll : (l.length : Int) = t.length
  case neg =>
    have ev : parB t l = false := by
      have : ¬ l.length = t.length := by omega
      simp only [parB, decide_eq_false this, Bool.false_and]
    simp (disch := first | assumption | omega | (simp only [az]; done)) only [ru, eq_self, if_true, if_false, BEq.rfl, binI, AO.row?, splice, fillL, mmAll, loadV, storeV, zeros, Am.rowAt, Am.part, addOff, Nat.reduceAdd, Nat.reduceMul, Nat.reduceLeDiff, Nat.reduceSub, Nat.reduceLT, Int.reduceEq, Int.reduceLT, Int.reduceLE, Int.reduceGT, Int.reduceGE, Int.reduceAdd, Int.reduceSub, Int.reduceMul, Int.reduceNeg, Int.reduceToNat, reduceCtorEq, reduceIte, lenV_sl H.i, elem_pt H.i, view_sl H.i, scalar_sl H.i, cells_sl H.i, pure_sl H.i, Int.toNat_natCast, lenV_sl V, elem_in V, view_sl V, scalar_sl V, cells_sl V, pure_sl V, Int.toNat_natCast, hll, ev, decide_false, Bool.not_false]
  have hl2 : l.length = t.length := by omega
  simp (disch := first | assumption | omega | (simp only [az]; done)) only [ru, eq_self, if_true, if_false, BEq.rfl, binI, AO.row?, splice, fillL, mmAll, loadV, storeV, zeros, Am.rowAt, Am.part, addOff, Nat.reduceAdd, Nat.reduceMul, Nat.reduceLeDiff, Nat.reduceSub, Nat.reduceLT, Int.reduceEq, Int.reduceLT, Int.reduceLE, Int.reduceGT, Int.reduceGE, Int.reduceAdd, Int.reduceSub, Int.reduceMul, Int.reduceNeg, Int.reduceToNat, reduceCtorEq, reduceIte, lenV_sl H.i, elem_pt H.i, view_sl H.i, scalar_sl H.i, cells_sl H.i, pure_sl H.i, Int.toNat_natCast, lenV_sl V, elem_in V, view_sl V, scalar_sl V, cells_sl V, pure_sl V, Int.toNat_natCast, hll, decide_true, Bool.not_true]
  refine G_loop_ind (fun m ts h mk => ∃ i : Nat, i ≤ t.length ∧ m = t.length - i ∧ (List.range i).all (fun i => inR (l.getD i 0) 0 30) = true ∧ ts.length = 53 ∧ ts.getD 0 .undef = w ∧ ts.getD 1 .undef = v ∧ ts.getD 5 .undef = I i ∧ h = [] ∧ mk = []) ?_ _ _ _ _ ⟨0, Nat.zero_le _, rfl, rfl, rfl, rfl, rfl, rfl, rfl, rfl⟩
  rintro m ts h mk ih ⟨i, hi', rfl, hall, hl', q0, q1, q5, rfl, rfl⟩
  rw [lit_all hl']
  simp only [lit0, litS, Nat.reduceAdd, q0, q1, q5]
  by_cases hlt : (i : Int) < t.length
  case pos =>
    have hi2 : i < t.length := by omega
    have hlt2 : (i : Int) < l.length := by omega
    cases hc : inR (l.getD i 0) 0 30
    · have ev : parB t l = false := by
        have := range_not (p := fun i => inR (l.getD i 0) 0 30) hi2 hc
        simp only [parB, this, Bool.and_false, Bool.false_and]
      simp (disch := first | assumption | omega | (simp only [az]; done)) only [ru, eq_self, if_true, if_false, BEq.rfl, binI, AO.row?, splice, fillL, mmAll, loadV, storeV, zeros, Am.rowAt, Am.part, addOff, Nat.reduceAdd, Nat.reduceMul, Nat.reduceLeDiff, Nat.reduceSub, Nat.reduceLT, Int.reduceEq, Int.reduceLT, Int.reduceLE, Int.reduceGT, Int.reduceGE, Int.reduceAdd, Int.reduceSub, Int.reduceMul, Int.reduceNeg, Int.reduceToNat, reduceCtorEq, reduceIte, lenV_sl H.i, elem_pt H.i, view_sl H.i, scalar_sl H.i, cells_sl H.i, pure_sl H.i, Int.toNat_natCast, lenV_sl V, elem_in V, view_sl V, scalar_sl V, cells_sl V, pure_sl V, Int.toNat_natCast, hlt2, s76, hc, ev, Bool.not_false]
    · simp (disch := first | assumption | omega | (simp only [az]; done)) only [ru, eq_self, if_true, if_false, BEq.rfl, binI, AO.row?, splice, fillL, mmAll, loadV, storeV, zeros, Am.rowAt, Am.part, addOff, Nat.reduceAdd, Nat.reduceMul, Nat.reduceLeDiff, Nat.reduceSub, Nat.reduceLT, Int.reduceEq, Int.reduceLT, Int.reduceLE, Int.reduceGT, Int.reduceGE, Int.reduceAdd, Int.reduceSub, Int.reduceMul, Int.reduceNeg, Int.reduceToNat, reduceCtorEq, reduceIte, lenV_sl H.i, elem_pt H.i, view_sl H.i, scalar_sl H.i, cells_sl H.i, pure_sl H.i, Int.toNat_natCast, lenV_sl V, elem_in V, view_sl V, scalar_sl V, cells_sl V, pure_sl V, Int.toNat_natCast, hlt2, s76, hc, Bool.not_true]
      exact ih (t.length - (i + 1)) _ _ _ (by omega) ⟨i + 1, by omega, rfl, range_all_succ hall hc, rfl, rfl, rfl, rfl, rfl, rfl⟩
  clear ih
  obtain rfl : i = t.length := by omega
  have hlt2 : ¬ ((t.length : Nat) : Int) < l.length := by omega
  have hb : ∀ i, i < t.length → 0 ≤ l.getD i 0 ∧ l.getD i 0 ≤ 30 := by
    have := hall
    simp only [List.all_eq_true, List.mem_range, inR_iff] at this; exact this
  simp (disch := first | assumption | omega | (simp only [az]; done)) only [ru, eq_self, if_true, if_false, BEq.rfl, binI, AO.row?, splice, fillL, mmAll, loadV, storeV, zeros, Am.rowAt, Am.part, addOff, Nat.reduceAdd, Nat.reduceMul, Nat.reduceLeDiff, Nat.reduceSub, Nat.reduceLT, Int.reduceEq, Int.reduceLT, Int.reduceLE, Int.reduceGT, Int.reduceGE, Int.reduceAdd, Int.reduceSub, Int.reduceMul, Int.reduceNeg, Int.reduceToNat, reduceCtorEq, reduceIte, lenV_sl H.i, elem_pt H.i, view_sl H.i, scalar_sl H.i, cells_sl H.i, pure_sl H.i, Int.toNat_natCast, lenV_sl V, elem_in V, view_sl V, scalar_sl V, cells_sl V, pure_sl V, Int.toNat_natCast, hlt2]
  refine G_loop_ind (fun m ts h mk => ∃ i : Nat, i ≤ t.length ∧ m = t.length - i ∧ (List.range i).all (fun i => !canC t i || inR (l.getD i 0 - pcs t (fu l) i t.length) (t.getD i default).s.lo (t.getD i default).s.hi) = true ∧ ts.length = 53 ∧ ts.getD 0 .undef = w ∧ ts.getD 1 .undef = v ∧ ts.getD 6 .undef = I i ∧ h = [] ∧ mk = []) ?_ _ _ _ _ ⟨0, Nat.zero_le _, rfl, rfl, rfl, rfl, rfl, rfl, rfl, rfl⟩
  rintro m ts h mk ih ⟨i, hi', rfl, hall2, hl', q0, q1, q6, rfl, rfl⟩
  rw [lit_all hl']
  simp only [lit0, litS, Nat.reduceAdd, q0, q1, q6]
  by_cases hlt : (i : Int) < t.length
  case neg =>
    obtain rfl : i = t.length := by omega
    have ev : parB t l = true := by simp only [parB, hl2, decide_true, hall, hall2, Bool.and_true]
    simp (disch := first | assumption | omega | (simp only [az]; done)) only [ru, eq_self, if_true, if_false, BEq.rfl, binI, AO.row?, splice, fillL, mmAll, loadV, storeV, zeros, Am.rowAt, Am.part, addOff, Nat.reduceAdd, Nat.reduceMul, Nat.reduceLeDiff, Nat.reduceSub, Nat.reduceLT, Int.reduceEq, Int.reduceLT, Int.reduceLE, Int.reduceGT, Int.reduceGE, Int.reduceAdd, Int.reduceSub, Int.reduceMul, Int.reduceNeg, Int.reduceToNat, reduceCtorEq, reduceIte, lenV_sl H.i, elem_pt H.i, view_sl H.i, scalar_sl H.i, cells_sl H.i, pure_sl H.i, Int.toNat_natCast, lenV_sl V, elem_in V, view_sl V, scalar_sl V, cells_sl V, pure_sl V, Int.toNat_natCast, hlt, ev]
  have hi2 : i < t.length := by omega
  obtain ⟨x, hx⟩ : ∃ x, x = t.getD i default := ⟨_, rfl⟩
  have no := fun hp => range_not (N := t.length) (p := fun i => !canC t i || inR (l.getD i 0 - pcs t (fu l) i t.length) (t.getD i default).s.lo (t.getD i default).s.hi) hi2 hp
  have nx := fun hp => range_all_succ (p := fun i => !canC t i || inR (l.getD i 0 - pcs t (fu l) i t.length) (t.getD i default).s.lo (t.getD i default).s.hi) hall2 hp
  have g := fun st => s25 H V hl2 hb hi2 st
  obtain ⟨z, hz⟩ : ∃ z, z = l.getD i 0 - pcs t (fu l) i t.length := ⟨_, rfl⟩
  rw [← hz] at g
  cases hc : canC t i
  · have nx := nx (by rw [hc]; rfl)
    simp (disch := first | assumption | omega | (simp only [az]; done)) only [ru, eq_self, if_true, if_false, BEq.rfl, binI, AO.row?, splice, fillL, mmAll, loadV, storeV, zeros, Am.rowAt, Am.part, addOff, Nat.reduceAdd, Nat.reduceMul, Nat.reduceLeDiff, Nat.reduceSub, Nat.reduceLT, Int.reduceEq, Int.reduceLT, Int.reduceLE, Int.reduceGT, Int.reduceGE, Int.reduceAdd, Int.reduceSub, Int.reduceMul, Int.reduceNeg, Int.reduceToNat, reduceCtorEq, reduceIte, lenV_sl H.i, elem_pt H.i, view_sl H.i, scalar_sl H.i, cells_sl H.i, pure_sl H.i, Int.toNat_natCast, lenV_sl V, elem_in V, view_sl V, scalar_sl V, cells_sl V, pure_sl V, Int.toNat_natCast, hlt, s24 H, hc, gUn]
    exact ih (t.length - (i + 1)) _ _ _ (by omega) ⟨i + 1, by omega, rfl, nx, rfl, rfl, rfl, rfl, rfl, rfl⟩
  cases hd : inR z x.s.lo x.s.hi
  · have ev : parB t l = false := by
      have := no (by rw [← hz, ← hx, hd, hc]; rfl)
      simp only [parB, this, Bool.and_false]
    simp (disch := first | assumption | omega | (simp only [az]; done)) only [ru, eq_self, if_true, if_false, BEq.rfl, binI, AO.row?, splice, fillL, mmAll, loadV, storeV, zeros, Am.rowAt, Am.part, addOff, Nat.reduceAdd, Nat.reduceMul, Nat.reduceLeDiff, Nat.reduceSub, Nat.reduceLT, Int.reduceEq, Int.reduceLT, Int.reduceLE, Int.reduceGT, Int.reduceGE, Int.reduceAdd, Int.reduceSub, Int.reduceMul, Int.reduceNeg, Int.reduceToNat, reduceCtorEq, reduceIte, lenV_sl H.i, elem_pt H.i, view_sl H.i, scalar_sl H.i, cells_sl H.i, pure_sl H.i, Int.toNat_natCast, lenV_sl V, elem_in V, view_sl V, scalar_sl V, cells_sl V, pure_sl V, Int.toNat_natCast, hlt, ← hx, s24 H, hc, g, s76, hd, ev, gUn, Bool.not_false]
  · have nx := nx (by rw [← hz, ← hx, hd, Bool.or_true])
    simp (disch := first | assumption | omega | (simp only [az]; done)) only [ru, eq_self, if_true, if_false, BEq.rfl, binI, AO.row?, splice, fillL, mmAll, loadV, storeV, zeros, Am.rowAt, Am.part, addOff, Nat.reduceAdd, Nat.reduceMul, Nat.reduceLeDiff, Nat.reduceSub, Nat.reduceLT, Int.reduceEq, Int.reduceLT, Int.reduceLE, Int.reduceGT, Int.reduceGE, Int.reduceAdd, Int.reduceSub, Int.reduceMul, Int.reduceNeg, Int.reduceToNat, reduceCtorEq, reduceIte, lenV_sl H.i, elem_pt H.i, view_sl H.i, scalar_sl H.i, cells_sl H.i, pure_sl H.i, Int.toNat_natCast, lenV_sl V, elem_in V, view_sl V, scalar_sl V, cells_sl V, pure_sl V, Int.toNat_natCast, hlt, ← hx, s24 H, hc, g, s76, hd, gUn, Bool.not_true]
    exact ih (t.length - (i + 1)) _ _ _ (by omega) ⟨i + 1, by omega, rfl, nx, rfl, rfl, rfl, rfl, rfl, rfl⟩
theorem tru_chg (T : TW t) (hp : parB t l = true) : truB t l = decide (chg t (fu l) t.length = 0) := by
  obtain ⟨h1, h2⟩ := parB_iff.1 hp
  rw [Bool.eq_iff_iff, truB_iff T, tru_par, decide_eq_true_eq]
  exact ⟨fun h => h.2.2, fun h => ⟨h1, h2, h⟩⟩
theorem tru_of (T : TW t) (h : truB t l = true) : parB t l = true := by
  obtain ⟨h1, h2⟩ := (truB_iff T).1 h
  exact parB_iff.2 ⟨h1, h2.1⟩
theorem s17 (H : TbOk t w) (T : TW t) (V : IsSl 1 intL l v) (st : Bool) : Iso E 7 [w, v] st = some (Bo (truB t l)) := by
  refine Iso_of (es _ _ _ _) e7 ?_
  simp only [f7]
  cases hc : parB t l
  · have ev : truB t l = false := by
      cases h : truB t l with
      | false => rfl
      | true => rw [tru_of T h] at hc; cases hc
    simp (disch := first | assumption | omega | (simp only [az]; done)) only [ru, eq_self, if_true, if_false, BEq.rfl, binI, AO.row?, splice, fillL, mmAll, loadV, storeV, zeros, Am.rowAt, Am.part, addOff, Nat.reduceAdd, Nat.reduceMul, Nat.reduceLeDiff, Nat.reduceSub, Nat.reduceLT, Int.reduceEq, Int.reduceLT, Int.reduceLE, Int.reduceGT, Int.reduceGE, Int.reduceAdd, Int.reduceSub, Int.reduceMul, Int.reduceNeg, Int.reduceToNat, reduceCtorEq, reduceIte, lenV_sl H.i, elem_pt H.i, view_sl H.i, scalar_sl H.i, cells_sl H.i, pure_sl H.i, Int.toNat_natCast, lenV_sl V, elem_in V, view_sl V, scalar_sl V, cells_sl V, pure_sl V, Int.toNat_natCast, s40 H V, hc, ev, gUn]
  · obtain ⟨h1, h2⟩ := parB_iff.1 hc
    have g := fun st => s41 H T V h1 (fun i hi => (h2 i hi).1) st
    rw [tru_chg T hc]
    simp (disch := first | assumption | omega | (simp only [az]; done)) only [ru, eq_self, if_true, if_false, BEq.rfl, binI, AO.row?, splice, fillL, mmAll, loadV, storeV, zeros, Am.rowAt, Am.part, addOff, Nat.reduceAdd, Nat.reduceMul, Nat.reduceLeDiff, Nat.reduceSub, Nat.reduceLT, Int.reduceEq, Int.reduceLT, Int.reduceLE, Int.reduceGT, Int.reduceGE, Int.reduceAdd, Int.reduceSub, Int.reduceMul, Int.reduceNeg, Int.reduceToNat, reduceCtorEq, reduceIte, lenV_sl H.i, elem_pt H.i, view_sl H.i, scalar_sl H.i, cells_sl H.i, pure_sl H.i, Int.toNat_natCast, lenV_sl V, elem_in V, view_sl V, scalar_sl V, cells_sl V, pure_sl V, Int.toNat_natCast, s40 H V, hc, g, gUn]

end
end Go.Proofs.Ytokhneffambgmaa.S

/-
Costs by weight: arrays of 31 numbers; what each part costs, all together, and the least of it (program).
-/
namespace Go.Proofs.Ytokhneffambgmaa.S
open Go Go.Am Go.Proofs.Ytokhneffambgmaa.T
set_option maxRecDepth 100000
set_option linter.unusedSimpArgs false
set_option linter.unusedVariables false

def Z31 : List AV := List.replicate 31 (I 0)
def Z248 : List AV := List.replicate 248 (I 0)
def g125 : AFn := ⟨16, [.cell true 31 2],
 .seq (.region 0 [oQ 1 (.box (.t 0)),
 oQ 2 (.alloc Z31)])
 (.seq (.region 0 [oQ 3 (.alloc Z31)])
 (.seq (.seq (.region 0 [oP 5 (.move (.c (.int .i64 0)))])
 (.block 0 (.loop (.seq (.region 0 [oP 6 (.bin .lss (.t 5) (.c (.int .i64 31)))])
 (.seq (.cond (.t 6) (.skip)
 (.exit 0))
 (.seq (.block 1 (.seq (.region 0 [oP 7 (.move (.t 5)),
 oP 4 (.move (.t 7))])
 (.seq (.region 0 [oQ 8 (.load true 2 (.t 1)),
 oP 9 (.move (.t 4)),
 oQ 10 (.call 1 69 [(.t 8), (.t 9)]),
 oP 11 (.un .not (.t 10))])
 (.cond (.t 11) (.region 0 [oP 12 (.move (.t 4)),
 oP 13 (.idxArr 31 1 (.t 3) (.t 12)),
 ⟨none, .store 1 (.t 13) (.c (.int .i64 9223372036854775807)), none, none, []⟩])
 (.skip)))))
 (.region 0 [oP 14 (.bin .add (.t 5) (.c (.int .i64 1))),
 oP 5 (.move (.t 14))])))))))
 (.seq (.region 0 [oQ 15 (.load true 31 (.t 3)),
 ⟨none, .store 31 (.t 2) (.t 15), none, none, []⟩])
 (.ret))))⟩
theorem fg125 : f54 = g125 := by kernel_rfl
def g127 : AFn := ⟨23, [.cell true 31 6],
 .seq (.region 0 [oQ 3 (.box (.t 0)),
 oQ 6 (.alloc Z31)])
 (.seq (.seq (.region 0 [oP 8 (.move (.c (.int .i64 0)))])
 (.block 0 (.loop (.seq (.region 0 [oP 9 (.bin .lss (.t 8) (.c (.int .i64 31)))])
 (.seq (.cond (.t 9) (.skip)
 (.exit 0))
 (.seq (.block 1 (.seq (.region 0 [oP 10 (.move (.t 8)),
 oP 7 (.move (.t 10))])
 (.region 0 [oP 11 (.move (.t 7)),
 oP 12 (.move (.t 7)),
 oP 13 (.idxArr 31 1 (.t 3) (.t 12)),
 oQ 14 (.load false 1 (.t 13)),
 oP 15 (.move (.t 2)),
 oP 16 (.move (.t 1)),
 oP 17 (.move (.t 7)),
 oQ 18 (.callv true (.t 15) [(.t 16), (.t 17)]),
 oQ 19 (.call 1 58 [(.t 14), (.t 18)]),
 oP 20 (.idxArr 31 1 (.t 3) (.t 11)),
 ⟨none, .store 1 (.t 20) (.t 19), none, none, []⟩])))
 (.region 0 [oP 21 (.bin .add (.t 8) (.c (.int .i64 1))),
 oP 8 (.move (.t 21))])))))))
 (.seq (.region 0 [oQ 22 (.load true 31 (.t 3)),
 ⟨none, .store 31 (.t 6) (.t 22), none, none, []⟩])
 (.ret)))⟩
theorem fg127 : f57 = g127 := by kernel_rfl
def g130 : AFn := ⟨42, [.cell true 31 4],
 .seq (.region 0 [oQ 2 (.box (.t 0)),
 oQ 3 (.box (.t 1)),
 oQ 4 (.alloc Z31)])
 (.seq (.region 0 [oP 10 (.build [.int .i64 0, .int .i64 0] [(1, 1, (.c (.int .i64 (-1))))]),
 oQ 11 (.call 1 54 [(.t 10)]),
 oQ 5 (.alloc Z31),
 ⟨none, .store 31 (.t 5) (.t 11), none, none, []⟩])
 (.seq (.seq (.region 0 [oQ 12 (.load true 31 (.t 2)),
 oP 13 (.move (.c (.int .i64 0)))])
 (.block 0 (.loop (.seq (.region 0 [oP 14 (.bin .lss (.t 13) (.c (.int .i64 31)))])
 (.seq (.cond (.t 14) (.skip)
 (.exit 0))
 (.seq (.block 1 (.seq (.region 0 [oP 15 (.move (.t 13)),
 oP 16 (.idx false 31 1 (.t 12) (.t 13)),
 oP 6 (.move (.t 15)),
 oP 7 (.move (.t 16))])
 (.seq (.region 0 [oP 17 (.move (.t 6)),
 oP 18 (.bin .sub (.c (.int .i64 31)) (.t 17)),
 oQ 19 (.sliceA 31 1 (.t 3) (some ((.t 18), none))),
 oP 20 (.lenS (.t 19)),
 oP 21 (.move (.c (.int .i64 0)))])
 (.block 2 (.loop (.seq (.region 0 [oP 22 (.bin .lss (.t 21) (.t 20))])
 (.seq (.cond (.t 22) (.skip)
 (.exit 2))
 (.seq (.block 3 (.seq (.region 0 [oP 23 (.move (.t 21)),
 oP 24 (.idxSl 1 (.t 19) (.t 21)),
 oQ 25 (.load false 1 (.t 24)),
 oP 8 (.move (.t 23)),
 oP 9 (.move (.t 25))])
 (.region 0 [oP 26 (.move (.t 6)),
 oP 27 (.move (.t 8)),
 oP 28 (.bin .add (.t 26) (.t 27)),
 oP 29 (.move (.t 6)),
 oP 30 (.move (.t 8)),
 oP 31 (.bin .add (.t 29) (.t 30)),
 oP 32 (.idxArr 31 1 (.t 5) (.t 31)),
 oQ 33 (.load false 1 (.t 32)),
 oP 34 (.move (.t 7)),
 oP 35 (.move (.t 9)),
 oQ 36 (.call 1 58 [(.t 34), (.t 35)]),
 oP 37 (.minmax false (.t 33) [(.t 36)]),
 oP 38 (.idxArr 31 1 (.t 5) (.t 28)),
 ⟨none, .store 1 (.t 38) (.t 37), none, none, []⟩])))
 (.region 0 [oP 39 (.bin .add (.t 21) (.c (.int .i64 1))),
 oP 21 (.move (.t 39))])))))))))
 (.region 0 [oP 40 (.bin .add (.t 13) (.c (.int .i64 1))),
 oP 13 (.move (.t 40))])))))))
 (.seq (.region 0 [oQ 41 (.load true 31 (.t 5)),
 ⟨none, .store 31 (.t 4) (.t 41), none, none, []⟩])
 (.ret))))⟩
theorem fg130 : f60 = g130 := by kernel_rfl
def As102 : ACode := .seq (.region 0 [oP 8 (.move (.t 25))])
 (.region 0 [oQ 9 (.alloc [.int .i64 0, .int .i64 0, .int .i64 0, .int .i64 0, .int .i64 0, .int .i64 0]),
 ⟨none, .store 6 (.t 9) (.t 26), none, none, []⟩])
def Bd102 : ACode := .block 3 (.seq (.region 1 [oP 27 (.move (.t 8)),
 oP 28 (.idxArr 8 31 (.t 5) (.t 27)),
 ⟨(some 29), .load true 31 (.t 28), none, none, [0]⟩,
 oP 30 (.move (.t 8)),
 ⟨(some 31), .load false 1 (.t 3), none, none, [0]⟩,
 ⟨(some 32), .call 3 57 [(.t 29), (.t 30), (.t 31)], none, none, [0]⟩,
 ⟨(some 10), .alloc Z31, none, (some 0), []⟩,
 ⟨none, .store 31 (.t 10) (.t 32), none, (some 0), []⟩])
 (.seq (.region 0 [oP 33 (.fieldAddr 0 (.t 9)),
 oQ 34 (.load false 1 (.t 33)),
 oP 35 (.bin .eql (.t 34) (.c (.int .i64 (-1))))])
 (.cond (.t 35) (.region 0 [oQ 36 (.load false 1 (.t 7)),
 oQ 37 (.sliceA 31 1 (.t 10) none),
 oQ 38 (.call 1 59 [(.t 37)]),
 oQ 39 (.call 1 58 [(.t 36), (.t 38)]),
 ⟨none, .store 1 (.t 7) (.t 39), none, none, []⟩])
 (.region 0 [oP 40 (.fieldAddr 0 (.t 9)),
 oQ 41 (.load false 1 (.t 40)),
 oP 42 (.fieldAddr 0 (.t 9)),
 oQ 43 (.load false 1 (.t 42)),
 oP 44 (.idxArr 8 31 (.t 5) (.t 43)),
 oQ 45 (.load true 31 (.t 44)),
 oQ 46 (.load true 31 (.t 10)),
 oQ 47 (.call 1 60 [(.t 45), (.t 46)]),
 oP 48 (.idxArr 8 31 (.t 5) (.t 41)),
 ⟨none, .store 31 (.t 48) (.t 47), none, none, []⟩]))))
def g102 : AFn := ⟨50, [.tmp 4],
 .seq (.region 0 [oQ 3 (.box (.t 1)),
 oP 4 (.move (.c (.int .i64 0)))])
 (.seq (.region 0 [oQ 5 (.alloc Z248)])
 (.seq (.seq (.region 0 [oP 11 (.move (.t 0)),
 oP 12 (.lenS (.t 11)),
 oP 13 (.move (.c (.int .i64 0)))])
 (.block 0 (.loop (.seq (.region 0 [oP 14 (.bin .lss (.t 13) (.t 12))])
 (.seq (.cond (.t 14) (.skip)
 (.exit 0))
 (.seq (.block 1 (.seq (.region 0 [oP 15 (.move (.t 13)),
 oP 6 (.move (.t 15))])
 (.region 0 [oP 16 (.move (.t 6)),
 oP 17 (.move (.t 0)),
 oP 18 (.move (.t 6)),
 oQ 19 (.call 1 55 [(.t 17), (.t 18)]),
 oQ 20 (.call 1 54 [(.t 19)]),
 oP 21 (.idxArr 8 31 (.t 5) (.t 16)),
 ⟨none, .store 31 (.t 21) (.t 20), none, none, []⟩])))
 (.region 0 [oP 22 (.bin .add (.t 13) (.c (.int .i64 1))),
 oP 13 (.move (.t 22))])))))))
 (.seq (.region 0 [oQ 7 (.alloc [.int .i64 0]),
 ⟨none, .store 1 (.t 7) (.c (.int .i64 0)), none, none, []⟩])
 (.seq (.seq (.region 0 [oP 23 (.move (.t 0)),
 oQ 24 (.call 0 56 [(.t 23)])])
 (.block 2 (.rangeFunc (.t 24) [25, 26] As102
 Bd102)))
 (.seq (.region 0 [oQ 49 (.load false 1 (.t 7)),
 oP 4 (.move (.t 49))])
 (.ret))))))⟩
theorem fg102 : f44 = g102 := by kernel_rfl


/-! rows of numbers -/
def rng (n : Nat) (f : Nat → Int) : List Int := (List.range n).map f
def rw_ (n : Nat) (f : Nat → Int) : List AV := (rng n f).flatMap intL
theorem rng_len {n : Nat} {f : Nat → Int} : (rng n f).length = n := by simp [rng]
theorem rng_at {n : Nat} {f : Nat → Int} {i : Nat} (h : i < n) : (rng n f).getD i 0 = f i := rmap_at h
theorem rng_set {n : Nat} {f : Nat → Int} {i : Nat} {x : Int} : (rng n f).set i x = rng n fun b => if b = i then x else f b := by
  refine List.ext_getElem (by simp [rng]) fun k h1 h2 => ?_
  simp only [rng, List.getElem_set, List.getElem_map, List.getElem_range]
  by_cases e : i = k
  · subst e; simp
  · rw [if_neg e, if_neg (fun h => e h.symm)]
theorem rng_congr {n : Nat} {f g : Nat → Int} (h : ∀ i, i < n → f i = g i) : rng n f = rng n g := List.map_congr_left fun i hi => h i (List.mem_range.1 hi)
theorem rw_len {n : Nat} {f : Nat → Int} : (rw_ n f).length = n := by rw [rw_, flat_len intE, rng_len, Nat.mul_one]
theorem rw_congr {n : Nat} {f g : Nat → Int} (h : ∀ i, i < n → f i = g i) : rw_ n f = rw_ n g := by rw [rw_, rng_congr h]; rfl
theorem rw_head {n : Nat} {f : Nat → Int} {i : Nat} (h : i < n) : ((rw_ n f).drop i).head? = some (I (f i)) := by
  rw [rw_, flat_head (by rw [rng_len]; exact h), rng_at h]
theorem rw_put {n : Nat} {f : Nat → Int} {i : Nat} (h : i < n) {x : Int} {g : Nat → Int} (hg : ∀ b, b < n → g b = if b = i then x else f b) : (rw_ n f).take i ++ [I x] ++ (rw_ n f).drop (i + 1) = rw_ n g := by
  rw [rw_, int_put (by rw [rng_len]; exact h), rng_set]
  exact (rw_congr hg).symm
theorem rw_take {n : Nat} {f : Nat → Int} : (rw_ n f).take n = rw_ n f := List.take_of_length_le (by rw [rw_len]; exact Nat.le_refl _)
theorem rw_sc {n : Nat} {f : Nat → Int} : (rw_ n f).all AV.scalar = true := scal_sl intSc _
theorem rw_view {n : Nat} {f : Nat → Int} {st : Bool} {h : List AO} {k : Nat} : (rw_ n f).mapM (view st h k) = some (rw_ n f) := flat_view intIv _
theorem rw_pure {n : Nat} {f : Nat → Int} : AV.pureV.go (rw_ n f) = true := by
  unfold rw_
  induction rng n f with
  | nil => rfl
  | cons a l ih => simp only [List.flatMap_cons, List.cons_append, List.nil_append, AV.pureV.go, AV.pureV, ih, Bool.and_true]
theorem rw_under {n : Nat} {f : Nat → Int} {k : Nat} : AV.under.go k (rw_ n f) = true := by
  unfold rw_
  induction rng n f with
  | nil => rfl
  | cons a l ih => simp only [List.flatMap_cons, List.cons_append, List.nil_append, AV.under.go, AV.under, ih, Bool.and_true]
theorem z31 : Z31 = rw_ 31 fun _ => 0 := by kernel_rfl

theorem nn (i : Nat) : (0 : Int) ≤ i := Int.natCast_nonneg i
/-- costs as numbers -/
def En : Option Int → Int
  | none => 9223372036854775807
  | some v => v
def Bd (B : Int) (a : Option Int) : Prop := ∀ v, a = some v → -B ≤ v ∧ v ≤ B
theorem Bd.mo {B : Int} {a b : Option Int} (h : Bd B a) (h' : Bd B b) : Bd B (mo a b) := by
  cases a <;> cases b <;> intro v hv <;> simp only [S.mo, Option.some.injEq, reduceCtorEq] at hv
  · subst hv; exact h' _ rfl
  · subst hv; exact h _ rfl
  · subst hv
    rename_i x y
    rcases mn_or (x := x) (y := y) with e | e <;> rw [e]
    · exact h _ rfl
    · exact h' _ rfl
theorem Bd.lst {B : Int} {f : Nat → Option Int} : ∀ {k : Nat}, (∀ i, i < k → Bd B (f i)) → Bd B (lst f k)
  | 0, _ => fun v hv => by cases hv
  | k + 1, h => Bd.mo (Bd.lst fun i hi => h i (by omega)) (h k (by omega))
theorem Bd.pl {B C : Int} {a b : Option Int} (h : Bd B a) (h' : Bd C b) : Bd (B + C) (pl a b) := by
  intro v hv
  obtain ⟨x, y, rfl, rfl, rfl⟩ := pl_some.1 hv
  have := h _ rfl; have := h' _ rfl; omega
theorem Bd.up {B C : Int} {a : Option Int} (h : Bd B a) (hc : B ≤ C) : Bd C a := fun v hv => by have := h v hv; omega
theorem En_mo {B : Int} {a b : Option Int} (hB : B ≤ 1000000000) (h : Bd B a) (h' : Bd B b) : En (mo a b) = mn (En a) (En b) := by
  cases a with
  | none =>
    cases b with
    | none => rfl
    | some y => have := h' _ rfl; exact (if_pos (by simp only [En]; omega)).symm
  | some x =>
    cases b with
    | none => have := h _ rfl; exact (if_neg (by simp only [En]; omega)).symm
    | some y => rfl
theorem sPl {B C : Int} {a b : Option Int} (hB : B ≤ 1000000000) (hC : C ≤ 1000000000) (h : Bd B a) (h' : Bd C b) (st : Bool) : Iso E 58 [I (En a), I (En b)] st = some (I (En (pl a b))) := by
  rw [s128 _ _ (by
    intro h1 h2
    cases a with
    | none => exact absurd rfl h1
    | some x => cases b with
      | none => exact absurd rfl h2
      | some y => have := h _ rfl; have := h' _ rfl; simp only [En]; omega) st]
  congr 2
  cases a with
  | none => rw [if_pos (.inl rfl), none_pl]; rfl
  | some x => cases b with
    | none => rw [if_pos (.inr rfl), pl_none]; rfl
    | some y =>
      have := h _ rfl; have := h' _ rfl
      rw [if_neg (by simp only [En]; omega)]; rfl
/-- an array of costs -/
abbrev rwE (f : Int → Option Int) : List AV := rw_ 31 fun b => En (f b)
abbrev agE (f : Int → Option Int) : AV := .agg (rwE f)
theorem rwE_congr {f g : Int → Option Int} (h : ∀ i : Nat, i < 31 → f i = g i) : rwE f = rwE g := rw_congr fun i hi => by rw [h i hi]

set_option maxHeartbeats 1000000 in
theorem s125 (lo hi : Int) (st : Bool) : Iso E 54 [.agg [I lo, I hi]] st = some (agE fun y => if lo ≤ y ∧ y ≤ hi then some 0 else none) := by
  obtain ⟨f, hf⟩ : ∃ f : Int → Option Int, f = fun y => if lo ≤ y ∧ y ≤ hi then some 0 else none := ⟨_, rfl⟩
  rw [← hf]
  refine Iso_of (es _ _ _ _) e54 ?_
  simp only [fg125, g125]
  simp (disch := first | assumption | omega | (simp only [az]; done)) only [ru, eq_self, if_true, if_false, BEq.rfl, binI, AO.row?, splice, fillL, mmAll, loadV, storeV, zeros, Am.rowAt, Am.part, addOff, Nat.reduceAdd, Nat.reduceMul, Nat.reduceLeDiff, Nat.reduceSub, Nat.reduceLT, Int.reduceEq, Int.reduceLT, Int.reduceLE, Int.reduceGT, Int.reduceGE, Int.reduceAdd, Int.reduceSub, Int.reduceMul, Int.reduceNeg, Int.reduceToNat, reduceCtorEq, reduceIte]
  refine G_loop_ind (fun m ts hh mk => ∃ i : Nat, i ≤ 31 ∧ m = 31 - i ∧ ts.length = 16 ∧ ts.getD 1 .undef = .ptr 0 0 ∧ ts.getD 2 .undef = .ptr 1 0 ∧ ts.getD 3 .undef = .ptr 2 0 ∧ ts.getD 5 .undef = I i ∧ hh = [.cells [I lo, I hi] false, .cells Z31 false, .cells (rw_ 31 fun b => if b < i then En (f b) else 0) false] ∧ mk = []) ?_ _ _ _ _
    ⟨0, by omega, rfl, rfl, rfl, rfl, rfl, rfl, by rw [z31]; rfl, rfl⟩
  rintro m ts hh mk ih ⟨i, hi', rfl, hl', q1, q2, q3, q5, rfl, rfl⟩
  rw [lit_all hl']
  simp only [lit0, litS, Nat.reduceAdd, q1, q2, q3, q5]
  by_cases hlt : (i : Int) < 31
  case neg =>
    obtain rfl : i = 31 := by omega
    have e : (rw_ 31 fun b => if b < 31 then En (f b) else 0) = rwE f := rw_congr fun b hb => by rw [if_pos hb]
    have zl : 31 ≤ Z31.length := by rw [z31, rw_len]; exact Nat.le_refl _
    have zd : Z31.drop 31 = [] := by rw [z31]; exact List.drop_of_length_le (by rw [rw_len]; exact Nat.le_refl _)
    rw [e]
    have vt := rw_take (n := 31) (f := fun b => En (f b))
    have vl := rw_len (n := 31) (f := fun b => En (f b))
    have vs := rw_sc (n := 31) (f := fun b => En (f b))
    have vv := fun st h k => rw_view (n := 31) (f := fun b => En (f b)) (st := st) (h := h) (k := k)
    simp (disch := first | assumption | omega | (simp only [az]; done)) only [ru, eq_self, if_true, if_false, BEq.rfl, binI, AO.row?, splice, fillL, mmAll, loadV, storeV, zeros, Am.rowAt, Am.part, addOff, Nat.reduceAdd, Nat.reduceMul, Nat.reduceLeDiff, Nat.reduceSub, Nat.reduceLT, Int.reduceEq, Int.reduceLT, Int.reduceLE, Int.reduceGT, Int.reduceGE, Int.reduceAdd, Int.reduceSub, Int.reduceMul, Int.reduceNeg, Int.reduceToNat, reduceCtorEq, reduceIte, hlt, decide_false, vt, vl, vs, zl, zd, List.append_nil, finC, getRes, Option.some.injEq, exists_eq_left', view_agg, vv, Option.map_some]
  have hi2 : i < 31 := by omega
  have ef : f i = if inR i lo hi then some 0 else none := by rw [hf]; simp only [inR, Bool.and_eq_true, decide_eq_true_eq]
  cases hc : inR i lo hi
  · have fi : f i = none := by rw [ef, hc]; rfl
    obtain ⟨R, hR⟩ : ∃ R, R = rw_ 31 fun b => if b < i then En (f b) else 0 := ⟨_, rfl⟩
    have rp : R.take i ++ [I 9223372036854775807] ++ R.drop (i + 1) = rw_ 31 fun b => if b < i + 1 then En (f b) else 0 := by
      rw [hR]
      refine rw_put hi2 fun b hb => ?_
      by_cases e : b = i
      · subst e; rw [if_pos rfl, if_pos (by omega), fi]; rfl
      · rw [if_neg e]; by_cases e2 : b < i
        · rw [if_pos e2, if_pos (by omega)]
        · rw [if_neg e2, if_neg (by omega)]
    have rl : R.length = 31 := by rw [hR, rw_len]
    have fit : i + 1 ≤ R.length := by omega
    rw [← hR]
    simp (disch := first | assumption | omega | (simp only [az]; done)) only [ru, eq_self, if_true, if_false, BEq.rfl, binI, AO.row?, splice, fillL, mmAll, loadV, storeV, zeros, Am.rowAt, Am.part, addOff, Nat.reduceAdd, Nat.reduceMul, Nat.reduceLeDiff, Nat.reduceSub, Nat.reduceLT, Int.reduceEq, Int.reduceLT, Int.reduceLE, Int.reduceGT, Int.reduceGE, Int.reduceAdd, Int.reduceSub, Int.reduceMul, Int.reduceNeg, Int.reduceToNat, reduceCtorEq, reduceIte, hlt, decide_true, s106, hc, Bool.not_false, nn, Int.toNat_natCast, Nat.mul_one, Nat.zero_add, fit, rp]
    exact ih (31 - (i + 1)) _ _ _ (by omega) ⟨i + 1, by omega, rfl, rfl, rfl, rfl, rfl, rfl, rfl, rfl⟩
  · have fi : f i = some 0 := by rw [ef, hc]; rfl
    have rp : (rw_ 31 fun b => if b < i then En (f b) else 0) = rw_ 31 fun b => if b < i + 1 then En (f b) else 0 := by
      refine rw_congr fun b hb => ?_
      by_cases e : b = i
      · subst e; rw [if_neg (by omega), if_pos (by omega), fi]; rfl
      · by_cases e2 : b < i
        · rw [if_pos e2, if_pos (by omega)]
        · rw [if_neg e2, if_neg (by omega)]
    rw [rp]
    simp (disch := first | assumption | omega | (simp only [az]; done)) only [ru, eq_self, if_true, if_false, BEq.rfl, binI, AO.row?, splice, fillL, mmAll, loadV, storeV, zeros, Am.rowAt, Am.part, addOff, Nat.reduceAdd, Nat.reduceMul, Nat.reduceLeDiff, Nat.reduceSub, Nat.reduceLT, Int.reduceEq, Int.reduceLT, Int.reduceLE, Int.reduceGT, Int.reduceGE, Int.reduceAdd, Int.reduceSub, Int.reduceMul, Int.reduceNeg, Int.reduceToNat, reduceCtorEq, reduceIte, hlt, decide_true, s106, hc, Bool.not_true]
    exact ih (31 - (i + 1)) _ _ _ (by omega) ⟨i + 1, by omega, rfl, rfl, rfl, rfl, rfl, rfl, rfl, rfl⟩

/-- what a value that is called says that parts cost, in a heap and all that are more -/
def Cost (h : List AO) (fv : AV) (n : Nat) (c : Nat → Int → Option Int) : Prop := ∃ g first cap, fv = .fn g first cap ∧ ∀ h', Fr h h' → ∀ i : Nat, i < n → ∀ w : Nat, w < 31 → Ro E g (first ++ I i :: I w :: cap) h' = some (I (En (c i w)))

set_option maxHeartbeats 1000000 in
theorem s127 {h : List AO} {fv : AV} {n : Nat} {c : Nat → Int → Option Int} (hC : Cost h fv n c) {i : Nat} (hi : i < n) {f : Int → Option Int} (hf : ∀ b, Bd 500000000 (f b)) (hc : ∀ b, Bd 500000000 (c i b)) :
    Ro E 57 [agE f, I i, fv] h = some (agE fun y => pl (f y) (c i y)) := by
  obtain ⟨g, first, cap, rfl, hg⟩ := hC
  refine Ro_of (es _ _ _ _) e57 ?_
  simp only [fg127, g127]
  simp (disch := first | assumption | omega | (simp only [az]; done)) only [ru, eq_self, if_true, if_false, BEq.rfl, binI, AO.row?, splice, fillL, mmAll, loadV, storeV, zeros, Am.rowAt, Am.part, addOff, Nat.reduceAdd, Nat.reduceMul, Nat.reduceLeDiff, Nat.reduceSub, Nat.reduceLT, Int.reduceEq, Int.reduceLT, Int.reduceLE, Int.reduceGT, Int.reduceGE, Int.reduceAdd, Int.reduceSub, Int.reduceMul, Int.reduceNeg, Int.reduceToNat, reduceCtorEq, reduceIte]
  refine G_loop_ind (fun m ts hh mk => ∃ j : Nat, j ≤ 31 ∧ m = 31 - j ∧ ts.length = 23 ∧ ts.getD 1 .undef = I i ∧ ts.getD 2 .undef = .fn g first cap ∧ ts.getD 3 .undef = .ptr h.length 0 ∧ ts.getD 6 .undef = .ptr (h.length + 1) 0 ∧ ts.getD 8 .undef = I j ∧ hh = h ++ [.cells (rw_ 31 fun b => if b < j then En (pl (f b) (c i b)) else En (f b)) false, .cells Z31 false] ∧ mk = []) ?_ _ _ _ _
    ⟨0, by omega, rfl, rfl, rfl, rfl, rfl, by simp (disch := first | assumption | omega | (simp only [az]; done)) only [ru, eq_self, if_true, if_false, BEq.rfl, binI, AO.row?, splice, fillL, mmAll, loadV, storeV, zeros, Am.rowAt, Am.part, addOff, Nat.reduceAdd, Nat.reduceMul, Nat.reduceLeDiff, Nat.reduceSub, Nat.reduceLT, Int.reduceEq, Int.reduceLT, Int.reduceLE, Int.reduceGT, Int.reduceGE, Int.reduceAdd, Int.reduceSub, Int.reduceMul, Int.reduceNeg, Int.reduceToNat, reduceCtorEq, reduceIte, lenE], rfl, by simp (disch := first | assumption | omega | (simp only [az]; done)) only [ru, eq_self, if_true, if_false, BEq.rfl, binI, AO.row?, splice, fillL, mmAll, loadV, storeV, zeros, Am.rowAt, Am.part, addOff, Nat.reduceAdd, Nat.reduceMul, Nat.reduceLeDiff, Nat.reduceSub, Nat.reduceLT, Int.reduceEq, Int.reduceLT, Int.reduceLE, Int.reduceGT, Int.reduceGE, Int.reduceAdd, Int.reduceSub, Int.reduceMul, Int.reduceNeg, Int.reduceToNat, reduceCtorEq, reduceIte, List.append_assoc] ; rfl, rfl⟩
  rintro m ts hh mk ih ⟨j, hj', rfl, hl', q1, q2, q3, q6, q8, rfl, rfl⟩
  rw [lit_all hl']
  simp only [lit0, litS, Nat.reduceAdd, q1, q2, q3, q6, q8]
  by_cases hlt : (j : Int) < 31
  case neg =>
    obtain rfl : j = 31 := by omega
    have e : (rw_ 31 fun b => if b < 31 then En (pl (f b) (c i b)) else En (f b)) = rwE fun y => pl (f y) (c i y) := rw_congr fun b hb => by rw [if_pos hb]
    have zl : 31 ≤ Z31.length := by rw [z31, rw_len]; exact Nat.le_refl _
    have zd : Z31.drop 31 = [] := by rw [z31]; exact List.drop_of_length_le (by rw [rw_len]; exact Nat.le_refl _)
    rw [e]
    obtain ⟨R, hR⟩ : ∃ R, R = rwE fun y => pl (f y) (c i y) := ⟨_, rfl⟩
    have vt : R.take 31 = R := by rw [hR]; exact rw_take
    have vl : R.length = 31 := by rw [hR]; exact rw_len
    have vs : R.all AV.scalar = true := by rw [hR]; exact rw_sc
    have vu : (AV.agg R).under h.length = true := by rw [hR]; exact rw_under
    rw [← hR]
    have hle : h.length ≤ h.length + 1 := by omega
    simp (disch := first | assumption | omega | (simp only [az]; done)) only [ru, eq_self, if_true, if_false, BEq.rfl, binI, AO.row?, splice, fillL, mmAll, loadV, storeV, zeros, Am.rowAt, Am.part, addOff, Nat.reduceAdd, Nat.reduceMul, Nat.reduceLeDiff, Nat.reduceSub, Nat.reduceLT, Int.reduceEq, Int.reduceLT, Int.reduceLE, Int.reduceGT, Int.reduceGE, Int.reduceAdd, Int.reduceSub, Int.reduceMul, Int.reduceNeg, Int.reduceToNat, reduceCtorEq, reduceIte, hlt, decide_false, vt, vl, vs, zl, zd, hle, List.append_nil, List.append_assoc, lenE, setT, setT0, atT, atT0, getT, getT0, finC, getRes, Option.some.injEq, exists_eq_left']
    exact ⟨by rw [hR], rw_under⟩
  have hj2 : j < 31 := by omega
  obtain ⟨R, hR⟩ : ∃ R, R = rw_ 31 fun b => if b < j then En (pl (f b) (c i b)) else En (f b) := ⟨_, rfl⟩
  have rh : (R.drop j).head? = some (I (En (f j))) := by rw [hR, rw_head hj2, if_neg (by omega)]
  have rp : R.take j ++ [I (En (pl (f j) (c i j)))] ++ R.drop (j + 1) = rw_ 31 fun b => if b < j + 1 then En (pl (f b) (c i b)) else En (f b) := by
    rw [hR]
    refine rw_put hj2 fun b hb => ?_
    by_cases e : b = j
    · subst e; rw [if_pos rfl, if_pos (by omega)]
    · rw [if_neg e]; by_cases e2 : b < j
      · rw [if_pos e2, if_pos (by omega)]
      · rw [if_neg e2, if_neg (by omega)]
  have rl : R.length = 31 := by rw [hR, rw_len]
  have fit : j + 1 ≤ R.length := by omega
  rw [← hR]
  have hcall := hg (h ++ [.cells R false, .cells Z31 false]) (Fr.app _ _) i hi j hj2
  have pp := fun st => sPl (by omega) (by omega) (hf j) (hc j) st
  simp only [List.append_assoc, apC, apN] at rp
  have hle : h.length ≤ h.length := Nat.le_refl _
  simp (disch := first | assumption | omega | (simp only [az]; done)) only [ru, eq_self, if_true, if_false, BEq.rfl, binI, AO.row?, splice, fillL, mmAll, loadV, storeV, zeros, Am.rowAt, Am.part, addOff, Nat.reduceAdd, Nat.reduceMul, Nat.reduceLeDiff, Nat.reduceSub, Nat.reduceLT, Int.reduceEq, Int.reduceLT, Int.reduceLE, Int.reduceGT, Int.reduceGE, Int.reduceAdd, Int.reduceSub, Int.reduceMul, Int.reduceNeg, Int.reduceToNat, reduceCtorEq, reduceIte, hlt, decide_true, List.append_assoc, lenE, setT, setT0, atT, atT0, getT, getT0, nn, Int.toNat_natCast, Nat.mul_one, Nat.zero_add, rh, exOp_callv1, hcall, pp, fit, rp, hle]
  exact ih (31 - (j + 1)) _ _ _ (by omega) ⟨j + 1, by omega, rfl, rfl, rfl, rfl, rfl, rfl, rfl, rfl, rfl⟩

theorem s129 {f : Nat → Option Int} {v : AV} (V : IsSl 1 intL (rng 31 fun b => En (f b)) v) {B : Int} (hB : B ≤ 1000000000) (hf : ∀ b, Bd B (f b)) (st : Bool) : Iso E 59 [v] st = some (I (En (lst f 31))) := by
  have ln := rng_len (n := 31) (f := fun b => En (f b))
  obtain ⟨L, hL⟩ : ∃ L, L = rng 31 fun b => En (f b) := ⟨_, rfl⟩
  rw [← hL] at V ln
  have at_ : ∀ i, i < 31 → L.getD i 0 = En (f i) := fun i hi => by rw [hL, rng_at hi]
  have a0 := at_ 0 (by omega)
  refine Iso_of (es _ _ _ _) e59 ?_
  simp only [f59]
  have n0 : ¬ (31 : Int) < 1 := by omega
  have n1 : (0 : Int) < L.length := by rw [ln]; decide
  have lL : (L.length : Int) = 31 := by rw [ln]; rfl
  obtain ⟨x0, hx0⟩ : ∃ x0, x0 = L.getD 0 0 := ⟨_, rfl⟩
  simp (disch := first | assumption | omega | (simp only [az]; done)) only [ru, eq_self, if_true, if_false, BEq.rfl, binI, AO.row?, splice, fillL, mmAll, loadV, storeV, zeros, Am.rowAt, Am.part, addOff, Nat.reduceAdd, Nat.reduceMul, Nat.reduceLeDiff, Nat.reduceSub, Nat.reduceLT, Int.reduceEq, Int.reduceLT, Int.reduceLE, Int.reduceGT, Int.reduceGE, Int.reduceAdd, Int.reduceSub, Int.reduceMul, Int.reduceNeg, Int.reduceToNat, reduceCtorEq, reduceIte, lenV_sl V, elem_in V, view_sl V, scalar_sl V, cells_sl V, pure_sl V, Int.toNat_natCast, lL, n0, n1, ← hx0, Int.toNat_zero, decide_false]
  refine G_loop_ind (fun m ts hh mk => ∃ j : Nat, 1 ≤ j ∧ j ≤ 31 ∧ m = 31 - j ∧ ts.length = 25 ∧ ts.getD 0 .undef = v ∧ ts.getD 3 .undef = I (En (lst f j)) ∧ ts.getD 4 .undef = I j ∧ hh = [] ∧ mk = []) ?_ _ _ _ _
    ⟨1, by omega, by omega, rfl, rfl, rfl, by rw [hx0, a0]; rfl, rfl, rfl, rfl⟩
  rintro m ts hh mk ih ⟨j, hj1, hj', rfl, hl', q0, q3, q4, rfl, rfl⟩
  rw [lit_all hl']
  simp only [lit0, litS, Nat.reduceAdd, q0, q3, q4]
  by_cases hlt : (j : Int) < 31
  case neg =>
    obtain rfl : j = 31 := by omega
    simp (disch := first | assumption | omega | (simp only [az]; done)) only [ru, eq_self, if_true, if_false, BEq.rfl, binI, AO.row?, splice, fillL, mmAll, loadV, storeV, zeros, Am.rowAt, Am.part, addOff, Nat.reduceAdd, Nat.reduceMul, Nat.reduceLeDiff, Nat.reduceSub, Nat.reduceLT, Int.reduceEq, Int.reduceLT, Int.reduceLE, Int.reduceGT, Int.reduceGE, Int.reduceAdd, Int.reduceSub, Int.reduceMul, Int.reduceNeg, Int.reduceToNat, reduceCtorEq, reduceIte, lenV_sl V, elem_in V, view_sl V, scalar_sl V, cells_sl V, pure_sl V, Int.toNat_natCast, lL, hlt, decide_false]
  have aj := at_ j (by omega)
  have hlt2 : (j : Int) < L.length := by omega
  have em : En (lst f (j + 1)) = mn (En (lst f j)) (En (f j)) := En_mo hB (Bd.lst fun i _ => hf i) (hf j)
  have em2 : mmx false (En (lst f j)) (En (f j)) = mn (En (lst f j)) (En (f j)) := rfl
  simp (disch := first | assumption | omega | (simp only [az]; done)) only [ru, eq_self, if_true, if_false, BEq.rfl, binI, AO.row?, splice, fillL, mmAll, loadV, storeV, zeros, Am.rowAt, Am.part, addOff, Nat.reduceAdd, Nat.reduceMul, Nat.reduceLeDiff, Nat.reduceSub, Nat.reduceLT, Int.reduceEq, Int.reduceLT, Int.reduceLE, Int.reduceGT, Int.reduceGE, Int.reduceAdd, Int.reduceSub, Int.reduceMul, Int.reduceNeg, Int.reduceToNat, reduceCtorEq, reduceIte, lenV_sl V, elem_in V, view_sl V, scalar_sl V, cells_sl V, pure_sl V, Int.toNat_natCast, lL, hlt, hlt2, aj, decide_true, em2, ← em]
  exact ih (31 - (j + 1)) _ _ _ (by omega) ⟨j + 1, by omega, by omega, rfl, rfl, rfl, rfl, rfl, rfl, rfl⟩

/-! two things together -/
def cnt (a b y : Nat) : Nat := if a ≤ y ∧ y < a + b then a + 1 else min a (y + 1)
def bsU (f g : Int → Option Int) (a b y : Nat) : Option Int := lst (fun x => pl (f x) (g ((y : Int) - x))) (cnt a b y)
theorem bsU_at {f g : Int → Option Int} {a b : Nat} : bsU f g a (b + 1) (a + b) = mo (bsU f g a b (a + b)) (pl (f a) (g b)) := by
  have e1 : cnt a (b + 1) (a + b) = a + 1 := by unfold cnt; rw [if_pos (by omega)]
  have e2 : cnt a b (a + b) = a := by unfold cnt; rw [if_neg (by omega)]; omega
  unfold bsU
  rw [e1, e2, lst]
  congr 2
  congr 1; omega
theorem bsU_ne {f g : Int → Option Int} {a b y : Nat} (h : y ≠ a + b) : bsU f g a (b + 1) y = bsU f g a b y := by
  have : cnt a (b + 1) y = cnt a b y := by unfold cnt; split <;> split <;> omega
  unfold bsU; rw [this]
theorem bsU_next {f g : Int → Option Int} {a y : Nat} (h : y < 31) (ha : a < 31) : bsU f g a (31 - a) y = bsU f g (a + 1) 0 y := by
  have : cnt a (31 - a) y = cnt (a + 1) 0 y := by unfold cnt; split <;> split <;> omega
  unfold bsU; rw [this]
theorem bsU_end {f g : Int → Option Int} {y : Nat} (h : y < 31) : bsU f g 31 0 y = lst (fun x => pl (f x) (g ((y : Int) - x))) ((y : Int).toNat + 1) := by
  have : cnt 31 0 y = (y : Int).toNat + 1 := by unfold cnt; rw [if_neg (by omega)]; omega
  unfold bsU; rw [this]
theorem bsU_zero {f g : Int → Option Int} {y : Nat} : bsU f g 0 0 y = none := by
  have : cnt 0 0 y = 0 := by unfold cnt; rw [if_neg (by omega)]; omega
  unfold bsU; rw [this]; rfl

set_option maxHeartbeats 2000000 in
theorem s130 {f g : Int → Option Int} {B : Int} (hB : B ≤ 400000000) (hf : ∀ b, Bd B (f b)) (hg : ∀ b, Bd B (g b)) (st : Bool) : Iso E 60 [agE f, agE g] st = some (agE fun y => lst (fun x => pl (f x) (g (y - x))) (y.toNat + 1)) := by
  have bU : ∀ a b y, Bd (B + B) (bsU f g a b y) := fun a b y => Bd.lst fun i _ => (hf _).pl (hg _)
  obtain ⟨F, hF⟩ : ∃ F, F = rwE f := ⟨_, rfl⟩
  obtain ⟨Gg, hG⟩ : ∃ G, G = rwE g := ⟨_, rfl⟩
  have Ft : F.take 31 = F := by rw [hF]; exact rw_take
  have Fl : F.length = 31 := by rw [hF]; exact rw_len
  have Gl : Gg.length = 31 := by rw [hG]; exact rw_len
  have Fs : F.all AV.scalar = true := by rw [hF]; exact rw_sc
  have Gs : Gg.all AV.scalar = true := by rw [hG]; exact rw_sc
  have Fh : ∀ a, a < 31 → (F.drop a).head? = some (I (En (f a))) := fun a ha => by rw [hF]; exact rw_head ha
  have Gh : ∀ a, a < 31 → (Gg.drop a).head? = some (I (En (g a))) := fun a ha => by rw [hG]; exact rw_head ha
  have zl : 31 ≤ Z31.length := by rw [z31, rw_len]; exact Nat.le_refl _
  have zd : Z31.drop 31 = [] := by rw [z31]; exact List.drop_of_length_le (by rw [rw_len]; exact Nat.le_refl _)
  have b0 : (fun y => if (0 : Int) ≤ y ∧ y ≤ -1 then some 0 else none : Int → Option Int) = fun _ => none := by
    funext y; rw [if_neg (by omega)]
  obtain ⟨N, hN⟩ : ∃ N, N = rwE fun _ => none := ⟨_, rfl⟩
  have Nl : N.length = 31 := by rw [hN]; exact rw_len
  have Ns : N.all AV.scalar = true := by rw [hN]; exact rw_sc
  have e0 : N = rw_ 31 fun y => En (bsU f g 0 0 y) := by rw [hN]; exact rw_congr fun y _ => by rw [bsU_zero]
  have g0 : ∀ st, Iso E 54 [.agg [I 0, I (-1)]] st = some (.agg N) := fun st => by rw [hN, s125, b0]
  show Iso E 60 [.agg (rwE f), .agg (rwE g)] st = some _
  rw [← hF, ← hG]
  refine Iso_of (es _ _ _ _) e60 ?_
  simp only [fg130, g130]
  simp (disch := first | assumption | omega | (simp only [az]; done)) only [ru, eq_self, if_true, if_false, BEq.rfl, binI, AO.row?, splice, fillL, mmAll, loadV, storeV, zeros, Am.rowAt, Am.part, addOff, Nat.reduceAdd, Nat.reduceMul, Nat.reduceLeDiff, Nat.reduceSub, Nat.reduceLT, Int.reduceEq, Int.reduceLT, Int.reduceLE, Int.reduceGT, Int.reduceGE, Int.reduceAdd, Int.reduceSub, Int.reduceMul, Int.reduceNeg, Int.reduceToNat, reduceCtorEq, reduceIte, g0, Nl, Ns, Fl, Ft, zl, zd, List.append_nil]
  refine G_loop_ind (fun m ts hh mk => ∃ a : Nat, a ≤ 31 ∧ m = 31 - a ∧ ts.length = 42 ∧ ts.getD 2 .undef = .ptr 0 0 ∧ ts.getD 3 .undef = .ptr 1 0 ∧ ts.getD 4 .undef = .ptr 2 0 ∧ ts.getD 5 .undef = .ptr 3 0 ∧ ts.getD 12 .undef = .agg F ∧ ts.getD 13 .undef = I a ∧ hh = [.cells F false, .cells Gg false, .cells Z31 false, .cells (rw_ 31 fun y => En (bsU f g a 0 y)) false] ∧ mk = []) ?_ _ _ _ _
    ⟨0, by omega, rfl, rfl, rfl, rfl, rfl, rfl, rfl, rfl, by rw [← e0], rfl⟩
  rintro m ts hh mk ih ⟨a, ha', rfl, hl', q2, q3, q4, q5, q12, q13, rfl, rfl⟩
  rw [lit_all hl']
  simp only [lit0, litS, Nat.reduceAdd, q2, q3, q4, q5, q12, q13]
  by_cases hlt : (a : Int) < 31
  case neg =>
    obtain rfl : a = 31 := by omega
    have e : (rw_ 31 fun y => En (bsU f g 31 0 y)) = rwE fun y => lst (fun x => pl (f x) (g (y - x))) (y.toNat + 1) := rw_congr fun y hy => by rw [bsU_end hy]
    rw [e]
    obtain ⟨R, hR⟩ : ∃ R, R = rwE fun y => lst (fun x => pl (f x) (g (y - x))) (y.toNat + 1) := ⟨_, rfl⟩
    have vt : R.take 31 = R := by rw [hR]; exact rw_take
    have vl : R.length = 31 := by rw [hR]; exact rw_len
    have vs : R.all AV.scalar = true := by rw [hR]; exact rw_sc
    have vv : ∀ st h k, R.mapM (view st h k) = some R := fun st h k => by rw [hR]; exact rw_view
    rw [← hR]
    simp (disch := first | assumption | omega | (simp only [az]; done)) only [ru, eq_self, if_true, if_false, BEq.rfl, binI, AO.row?, splice, fillL, mmAll, loadV, storeV, zeros, Am.rowAt, Am.part, addOff, Nat.reduceAdd, Nat.reduceMul, Nat.reduceLeDiff, Nat.reduceSub, Nat.reduceLT, Int.reduceEq, Int.reduceLT, Int.reduceLE, Int.reduceGT, Int.reduceGE, Int.reduceAdd, Int.reduceSub, Int.reduceMul, Int.reduceNeg, Int.reduceToNat, reduceCtorEq, reduceIte, hlt, decide_false, vt, vl, vs, zl, zd, List.append_nil, finC, getRes, Option.some.injEq, exists_eq_left', view_agg, vv, Option.map_some]
    rw [hR]
  have ha2 : a < 31 := by omega
  have fa := Fh a ha2
  have sl1 : (0 : Int) ≤ 31 - (a : Int) ∧ 31 - (a : Int) ≤ ((31 : Nat) : Int) := by omega
  have sl2 : (31 - (a : Int)).toNat = 31 - a := by omega
  have sl3 : ((31 - a : Nat) : Int) = 31 - (a : Int) := by omega
  have sa : ∀ R, sliceAW [.cells F false, .cells Gg false, .cells Z31 false, .cells R false] 31 1 (some (I (31 - (a : Int)), none)) (.ptr 1 0) = some (.ms 1 1 0 (31 - a)) := fun R => by
    simp only [sliceAW, Am.rowAt, atS, at0, Option.bind_some, AO.row?, Gl]
    rw [if_pos (by omega)]
    simp only [sliceAV]
    rw [if_pos sl1, sl2]
  simp (disch := first | assumption | omega | (simp only [az]; done)) only [ru, eq_self, if_true, if_false, BEq.rfl, binI, AO.row?, splice, fillL, mmAll, loadV, storeV, zeros, Am.rowAt, Am.part, addOff, Nat.reduceAdd, Nat.reduceMul, Nat.reduceLeDiff, Nat.reduceSub, Nat.reduceLT, Int.reduceEq, Int.reduceLT, Int.reduceLE, Int.reduceGT, Int.reduceGE, Int.reduceAdd, Int.reduceSub, Int.reduceMul, Int.reduceNeg, Int.reduceToNat, reduceCtorEq, reduceIte, hlt, decide_true, fa, nn, Int.toNat_natCast, Nat.mul_one, exOp_sliceA, sa, sl3, Option.map_some, Option.map_none]
  refine G_loop_ind (fun m ts hh mk => ∃ b : Nat, b ≤ 31 - a ∧ m = 31 - b ∧ ts.length = 42 ∧ ts.getD 2 .undef = .ptr 0 0 ∧ ts.getD 3 .undef = .ptr 1 0 ∧ ts.getD 4 .undef = .ptr 2 0 ∧ ts.getD 5 .undef = .ptr 3 0 ∧ ts.getD 6 .undef = I a ∧ ts.getD 7 .undef = I (En (f a)) ∧ ts.getD 12 .undef = .agg F ∧ ts.getD 13 .undef = I a ∧ ts.getD 19 .undef = .ms 1 1 0 (31 - a) ∧ ts.getD 20 .undef = I (31 - (a : Int)) ∧ ts.getD 21 .undef = I b ∧ hh = [.cells F false, .cells Gg false, .cells Z31 false, .cells (rw_ 31 fun y => En (bsU f g a b y)) false] ∧ mk = []) ?_ _ _ _ _
    ⟨0, by omega, rfl, rfl, rfl, rfl, rfl, rfl, rfl, rfl, rfl, rfl, rfl, rfl, rfl, rfl, rfl⟩
  rintro m ts hh mk ih2 ⟨b, hb', rfl, hl', q2, q3, q4, q5, q6, q7, q12, q13, q19, q20, q21, rfl, rfl⟩
  rw [lit_all hl']
  simp only [lit0, litS, Nat.reduceAdd, q2, q3, q4, q5, q6, q7, q12, q13, q19, q20, q21]
  by_cases hlb : (b : Int) < 31 - (a : Int)
  case neg =>
    obtain rfl : b = 31 - a := by omega
    clear ih2
    have e : (rw_ 31 fun y => En (bsU f g a (31 - a) y)) = rw_ 31 fun y => En (bsU f g (a + 1) 0 y) := rw_congr fun y hy => by rw [bsU_next hy ha2]
    rw [e]
    simp (disch := first | assumption | omega | (simp only [az]; done)) only [ru, eq_self, if_true, if_false, BEq.rfl, binI, AO.row?, splice, fillL, mmAll, loadV, storeV, zeros, Am.rowAt, Am.part, addOff, Nat.reduceAdd, Nat.reduceMul, Nat.reduceLeDiff, Nat.reduceSub, Nat.reduceLT, Int.reduceEq, Int.reduceLT, Int.reduceLE, Int.reduceGT, Int.reduceGE, Int.reduceAdd, Int.reduceSub, Int.reduceMul, Int.reduceNeg, Int.reduceToNat, reduceCtorEq, reduceIte, hlb, decide_false]
    exact ih (31 - (a + 1)) _ _ _ (by omega) ⟨a + 1, by omega, rfl, rfl, rfl, rfl, rfl, rfl, rfl, rfl, rfl, rfl⟩
  clear ih
  have hb2 : b < 31 := by omega
  have hab : a + b < 31 := by omega
  have gb := Gh b hb2
  obtain ⟨R, hR⟩ : ∃ R, R = rw_ 31 fun y => En (bsU f g a b y) := ⟨_, rfl⟩
  have rh : (R.drop (a + b)).head? = some (I (En (bsU f g a b (a + b)))) := by rw [hR, rw_head hab]
  have em : En (bsU f g a (b + 1) (a + b)) = mn (En (bsU f g a b (a + b))) (En (pl (f a) (g b))) := by
    rw [bsU_at]; exact En_mo (B := B + B) (by omega) (bU _ _ _) ((hf _).pl (hg _))
  have em2 : mmx false (En (bsU f g a b (a + b))) (En (pl (f a) (g b))) = mn (En (bsU f g a b (a + b))) (En (pl (f a) (g b))) := rfl
  have rp : R.take (a + b) ++ [I (En (bsU f g a (b + 1) (a + b)))] ++ R.drop (a + b + 1) = rw_ 31 fun y => En (bsU f g a (b + 1) y) := by
    rw [hR]
    refine rw_put hab fun y hy => ?_
    by_cases e : y = a + b
    · subst e; rw [if_pos rfl]
    · rw [if_neg e, bsU_ne e]
  have rl : R.length = 31 := by rw [hR, rw_len]
  have fit : a + b + 1 ≤ R.length := by omega
  have i1 : (0 : Int) ≤ (a : Int) + b := by omega
  have i2 : (a : Int) + b < 31 := by omega
  have i3 : ((a : Int) + b).toNat = a + b := by omega
  have pp := fun st => sPl (by omega) (by omega) (hf a) (hg b) st
  have hlb2 : (b : Int) < ((31 - a : Nat) : Int) := by omega
  rw [← hR]
  simp (disch := first | assumption | omega | (simp only [az]; done)) only [ru, eq_self, if_true, if_false, BEq.rfl, binI, AO.row?, splice, fillL, mmAll, loadV, storeV, zeros, Am.rowAt, Am.part, addOff, Nat.reduceAdd, Nat.reduceMul, Nat.reduceLeDiff, Nat.reduceSub, Nat.reduceLT, Int.reduceEq, Int.reduceLT, Int.reduceLE, Int.reduceGT, Int.reduceGE, Int.reduceAdd, Int.reduceSub, Int.reduceMul, Int.reduceNeg, Int.reduceToNat, reduceCtorEq, reduceIte, hlb, hlb2, decide_true, elemAt_ms, nn, Int.toNat_natCast, Nat.mul_one, Nat.zero_add, gb, i1, i2, i3, rh, pp, em2, ← em, fit, rp]
  exact ih2 (31 - (b + 1)) _ _ _ (by omega) ⟨b + 1, by omega, rfl, rfl, rfl, rfl, rfl, rfl, rfl, rfl, rfl, rfl, rfl, rfl, rfl, rfl, rfl⟩
end Go.Proofs.Ytokhneffambgmaa.S

