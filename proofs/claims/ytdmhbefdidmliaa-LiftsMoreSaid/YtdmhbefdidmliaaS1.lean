/-
The functions of both sides of stage 5, one after another (S1).
-/
import GoSem.Dispatch
import Derived.Test.YtdmhbefdidmliaaTab
import Derived.Test.YtdmhbefdidmliaaAmY

/-
Spans of parts: what sums they can have, what a place has at least and at most, and all lists of parts.
-/
namespace Go.Proofs.Ytdmhbefdidmliaa.S
set_option linter.unusedSimpArgs false
set_option linter.unusedVariables false

structure Spn where
  lo : Int
  hi : Int
  deriving Inhabited, DecidableEq

def mx (x y : Int) : Int := if y > x then y else x
def mn (x y : Int) : Int := if y < x then y else x
theorem le_mx1 {x y : Int} : x ≤ mx x y := by unfold mx; split <;> omega
theorem le_mx2 {x y : Int} : y ≤ mx x y := by unfold mx; split <;> omega
theorem mx_le {x y z : Int} (h1 : x ≤ z) (h2 : y ≤ z) : mx x y ≤ z := by unfold mx; split <;> omega
theorem mn_le1 {x y : Int} : mn x y ≤ x := by unfold mn; split <;> omega
theorem mn_le2 {x y : Int} : mn x y ≤ y := by unfold mn; split <;> omega
theorem le_mn {x y z : Int} (h1 : z ≤ x) (h2 : z ≤ y) : z ≤ mn x y := by unfold mn; split <;> omega
theorem mx_or {x y : Int} : mx x y = x ∨ mx x y = y := by unfold mx; split <;> simp
theorem mn_or {x y : Int} : mn x y = x ∨ mn x y = y := by unfold mn; split <;> simp

def inR (n lo hi : Int) : Bool := decide (lo ≤ n) && decide (n ≤ hi)
theorem inR_iff {n lo hi : Int} : inR n lo hi = true ↔ lo ≤ n ∧ n ≤ hi := by simp [inR]

def sm : List Int → Int
  | [] => 0
  | a :: l => a + sm l
theorem sm_app : ∀ {a b : List Int}, sm (a ++ b) = sm a + sm b
  | [], b => by simp [sm]
  | x :: a, b => by simp [sm, sm_app (a := a)]; omega
def slo (L : List Spn) : Int := sm (L.map Spn.lo)
def shi (L : List Spn) : Int := sm (L.map Spn.hi)
theorem slo_nil : slo [] = 0 := rfl
theorem shi_nil : shi [] = 0 := rfl
theorem slo_cons {s : Spn} {L : List Spn} : slo (s :: L) = s.lo + slo L := rfl
theorem shi_cons {s : Spn} {L : List Spn} : shi (s :: L) = s.hi + shi L := rfl

/-- numbers that are in spans -/
def InL : List Spn → List Int → Prop
  | [], [] => True
  | s :: L, x :: l => (s.lo ≤ x ∧ x ≤ s.hi) ∧ InL L l
  | _, _ => False

theorem InL_iff : ∀ {L : List Spn} {l : List Int}, InL L l ↔ l.length = L.length ∧ ∀ i, i < L.length → (L.getD i default).lo ≤ l.getD i 0 ∧ l.getD i 0 ≤ (L.getD i default).hi
  | [], [] => by simp [InL]
  | [], _ :: _ => by simp [InL]
  | _ :: _, [] => by simp [InL]
  | s :: L, x :: l => by
    simp only [InL, InL_iff (L := L) (l := l), List.length_cons, Nat.add_right_cancel_iff]
    constructor
    · rintro ⟨h0, hl, h⟩
      refine ⟨hl, fun i hi => ?_⟩
      cases i with
      | zero => simpa using h0
      | succ i => simpa using h i (by omega)
    · rintro ⟨hl, h⟩
      exact ⟨by simpa using h 0 (by omega), hl, fun i hi => by simpa using h (i + 1) (by omega)⟩

theorem InL_sum : ∀ {L : List Spn} {l : List Int}, InL L l → slo L ≤ sm l ∧ sm l ≤ shi L
  | [], [], _ => by simp [slo, shi, sm]
  | [], _ :: _, h => h.elim
  | _ :: _, [], h => h.elim
  | s :: L, x :: l, h => by
    have := InL_sum h.2
    have := h.1
    simp only [slo_cons, shi_cons, sm]; omega

theorem InL_ex : ∀ {L : List Spn} {N : Int}, (∀ s ∈ L, s.lo ≤ s.hi) → slo L ≤ N → N ≤ shi L → ∃ l, InL L l ∧ sm l = N
  | [], N, _, h1, h2 => by
    simp only [slo, shi, List.map_nil, sm] at h1 h2
    exact ⟨[], trivial, by simp only [sm]; omega⟩
  | s :: L, N, hs, h1, h2 => by
    have h0 := hs s (by simp)
    simp only [slo_cons, shi_cons] at h1 h2
    by_cases c : N - shi L ≤ s.lo
    · obtain ⟨l, h, e⟩ := InL_ex (L := L) (N := N - s.lo) (fun x hx => hs x (by simp [hx])) (by omega) (by omega)
      exact ⟨s.lo :: l, ⟨⟨by omega, h0⟩, h⟩, by simp only [sm]; omega⟩
    · have hL : slo L ≤ shi L := by
        clear h1 h2 c
        have : ∀ {L : List Spn}, (∀ s ∈ L, s.lo ≤ s.hi) → slo L ≤ shi L := by
          intro L
          induction L with
          | nil => intro _; simp [slo, shi, sm]
          | cons a L ih =>
            intro h
            have := h a (by simp)
            have := ih (fun x hx => h x (by simp [hx]))
            simp only [slo_cons, shi_cons]; omega
        exact this (fun x hx => hs x (by simp [hx]))
      obtain ⟨l, h, e⟩ := InL_ex (L := L) (N := shi L) (fun x hx => hs x (by simp [hx])) hL (Int.le_refl _)
      exact ⟨(N - shi L) :: l, ⟨⟨by omega, by omega⟩, h⟩, by simp only [sm]; omega⟩

theorem InL_at : ∀ {L : List Spn} {l : List Int} {p : Nat}, InL L l → p < L.length → slo L - (L.getD p default).lo ≤ sm l - l.getD p 0 ∧ sm l - l.getD p 0 ≤ shi L - (L.getD p default).hi
  | [], _, _, _, hp => by simp at hp
  | _ :: _, [], _, h, _ => h.elim
  | s :: L, x :: l, 0, h, _ => by
    have := InL_sum h.2
    simp only [slo_cons, shi_cons, sm, List.getD_cons_zero]; omega
  | s :: L, x :: l, p + 1, h, hp => by
    have := InL_at (p := p) h.2 (by simpa using hp)
    have := h.1
    simp only [slo_cons, shi_cons, sm, List.getD_cons_succ]; omega

theorem set_slo : ∀ {L : List Spn} {p : Nat} {s : Spn}, p < L.length → slo (L.set p s) = slo L - (L.getD p default).lo + s.lo ∧ shi (L.set p s) = shi L - (L.getD p default).hi + s.hi
  | [], _, _, hp => by simp at hp
  | a :: L, 0, s, _ => by simp only [List.set_cons_zero, slo_cons, shi_cons, List.getD_cons_zero]; omega
  | a :: L, p + 1, s, hp => by
    have := set_slo (L := L) (p := p) (s := s) (by simpa using hp)
    simp only [List.set_cons_succ, slo_cons, shi_cons, List.getD_cons_succ]; omega

theorem getD_mem {α : Type} [Inhabited α] {l : List α} {i : Nat} (h : i < l.length) : l.getD i default ∈ l := by
  rw [List.getD_eq_getElem?_getD, List.getElem?_eq_getElem h]; exact List.getElem_mem h
theorem mem_getD {α : Type} {d : α} {l : List α} {x : α} (h : x ∈ l) : ∃ i, i < l.length ∧ l.getD i d = x := by
  obtain ⟨i, hi, e⟩ := List.mem_iff_getElem.1 h
  exact ⟨i, hi, by rw [List.getD_eq_getElem?_getD, List.getElem?_eq_getElem hi]; exact e⟩

theorem InL_att {L : List Spn} {N x : Int} {p : Nat} (hs : ∀ s ∈ L, s.lo ≤ s.hi) (hp : p < L.length) (h1 : (L.getD p default).lo ≤ x) (h2 : x ≤ (L.getD p default).hi)
    (h3 : slo L - (L.getD p default).lo + x ≤ N) (h4 : N ≤ shi L - (L.getD p default).hi + x) : ∃ l, InL L l ∧ sm l = N ∧ l.getD p 0 = x := by
  obtain ⟨e1, e2⟩ := set_slo (L := L) (s := ⟨x, x⟩) hp
  obtain ⟨l, hl, e⟩ := InL_ex (L := L.set p ⟨x, x⟩) (N := N) (fun s hx => by
    rcases List.mem_or_eq_of_mem_set hx with h | h
    · exact hs s h
    · subst h; exact Int.le_refl _) (by rw [e1]; exact h3) (by rw [e2]; exact h4)
  obtain ⟨hlen, hat⟩ := InL_iff.1 hl
  rw [List.length_set] at hlen hat
  refine ⟨l, InL_iff.2 ⟨hlen, fun i hi => ?_⟩, e, ?_⟩
  · have := hat i hi
    by_cases c : p = i
    · subst c
      simp only [List.getD_eq_getElem?_getD, List.getElem?_set_self hp, Option.getD_some] at this h1 h2 ⊢
      omega
    · simpa only [List.getD_eq_getElem?_getD, List.getElem?_set_ne c] using this
  · have := hat p hp
    simp only [List.getD_eq_getElem?_getD, List.getElem?_set_self hp, Option.getD_some] at this ⊢
    omega

/-! what a place has -/
def shL (L : List Spn) (p : Nat) : Int := mx (L.getD p default).lo (12 - (shi L - (L.getD p default).hi))
def shH (L : List Spn) (p : Nat) : Int := mn (L.getD p default).hi (12 - (slo L - (L.getD p default).lo))

/-- spans of a sea that is valid -/
structure SpOk (L : List Spn) : Prop where
  le : L.length ≤ 4
  s : ∀ s ∈ L, 0 ≤ s.lo ∧ s.lo ≤ s.hi ∧ s.hi ≤ 12
  lo : slo L ≤ 12
  hi : 12 ≤ shi L

theorem SpOk.ne {L : List Spn} (H : SpOk L) : 0 < L.length := by
  have := H.hi
  cases L with
  | nil => simp [shi, sm] at this
  | cons a L => simp
theorem SpOk.at {L : List Spn} (H : SpOk L) {p : Nat} (hp : p < L.length) : 0 ≤ (L.getD p default).lo ∧ (L.getD p default).lo ≤ (L.getD p default).hi ∧ (L.getD p default).hi ≤ 12 := H.s _ (getD_mem hp)

theorem slo_ge : ∀ {L : List Spn} {p : Nat}, (∀ s ∈ L, 0 ≤ s.lo ∧ s.lo ≤ s.hi) → p < L.length → (L.getD p default).lo ≤ slo L ∧ (L.getD p default).hi ≤ shi L ∧ (L.getD p default).hi - (L.getD p default).lo ≤ shi L - slo L
  | [], _, _, hp => by simp at hp
  | s :: L, p, h, hp => by
    have h0 := h s (by simp)
    have key : ∀ {L : List Spn}, (∀ s ∈ L, 0 ≤ s.lo ∧ s.lo ≤ s.hi) → 0 ≤ slo L ∧ slo L ≤ shi L := by
      intro L
      induction L with
      | nil => intro _; simp [slo, shi, sm]
      | cons a L ih =>
        intro h
        have := h a (by simp)
        have := ih (fun x hx => h x (by simp [hx]))
        simp only [slo_cons, shi_cons]; omega
    have hk := key (L := L) (fun x hx => h x (by simp [hx]))
    cases p with
    | zero => simp only [slo_cons, shi_cons, List.getD_cons_zero]; omega
    | succ p =>
      have := slo_ge (L := L) (p := p) (fun x hx => h x (by simp [hx])) (by simpa using hp)
      simp only [slo_cons, shi_cons, List.getD_cons_succ]; omega

theorem shr_ok {L : List Spn} {l : List Int} {p : Nat} (h : InL L l) (e : sm l = 12) (hp : p < L.length) : shL L p ≤ l.getD p 0 ∧ l.getD p 0 ≤ shH L p := by
  have h1 := InL_at h hp
  have h2 := (InL_iff.1 h).2 p hp
  exact ⟨mx_le h2.1 (by omega), le_mn h2.2 (by omega)⟩
theorem shr_le {L : List Spn} (H : SpOk L) {p : Nat} (hp : p < L.length) : 0 ≤ shL L p ∧ shL L p ≤ shH L p ∧ shH L p ≤ 12 := by
  have h1 := H.at hp
  have h2 := slo_ge (fun s hs => ⟨(H.s s hs).1, (H.s s hs).2.1⟩) hp
  have := H.lo; have := H.hi
  refine ⟨Int.le_trans h1.1 le_mx1, mx_le (le_mn h1.2.1 (by omega)) (le_mn (by omega) (by omega)), Int.le_trans mn_le1 h1.2.2⟩
theorem shr_att {L : List Spn} (H : SpOk L) {p : Nat} (hp : p < L.length) {x : Int} (h1 : shL L p ≤ x) (h2 : x ≤ shH L p) : ∃ l, InL L l ∧ sm l = 12 ∧ l.getD p 0 = x := by
  have a1 : (L.getD p default).lo ≤ shL L p := le_mx1
  have a2 : 12 - (shi L - (L.getD p default).hi) ≤ shL L p := le_mx2
  have a3 : shH L p ≤ (L.getD p default).hi := mn_le1
  have a4 : shH L p ≤ 12 - (slo L - (L.getD p default).lo) := mn_le2
  exact InL_att (fun s hs => (H.s s hs).2.1) hp (by omega) (by omega) (by omega) (by omega)

/-! all lists of parts -/
def areP (L : List Spn) (l : List Int) : Bool := decide (l.length = L.length) && ((List.range l.length).all fun i => inR (l.getD i 0) (L.getD i default).lo (L.getD i default).hi) && decide (sm l = 12)
theorem areP_iff {L : List Spn} {l : List Int} : areP L l = true ↔ InL L l ∧ sm l = 12 := by
  simp only [areP, Bool.and_eq_true, decide_eq_true_eq, List.all_eq_true, List.mem_range, inR_iff, InL_iff]
  constructor
  · rintro ⟨⟨h1, h2⟩, h3⟩; exact ⟨⟨h1, fun i hi => h2 i (by omega)⟩, h3⟩
  · rintro ⟨⟨h1, h2⟩, h3⟩; exact ⟨⟨h1, fun i hi => h2 i (by omega)⟩, h3⟩

def vals (s : Spn) : List Int := (List.range (s.hi - s.lo + 1).toNat).map fun (i : Nat) => s.lo + (i : Int)
theorem mem_vals {s : Spn} {x : Int} : x ∈ vals s ↔ s.lo ≤ x ∧ x ≤ s.hi := by
  simp only [vals, List.mem_map, List.mem_range]
  constructor
  · rintro ⟨i, hi, rfl⟩; omega
  · intro h; exact ⟨(x - s.lo).toNat, by omega, by omega⟩
theorem vals_len {s : Spn} : (vals s).length = (s.hi - s.lo + 1).toNat := by simp [vals]
def ptg (L : List Spn) : Nat → List Int → List (List Int)
  | 0, F => if areP L F = true then [F] else []
  | d + 1, F => (vals (L.getD F.length default)).flatMap fun x => ptg L d (F ++ [x])
theorem mem_ptg {L : List Spn} : ∀ {d : Nat} {F G : List Int}, F.length + d = L.length → (G ∈ ptg L d F ↔ areP L G = true ∧ ∃ T, G = F ++ T ∧ T.length = d)
  | 0, F, G, h => by
    simp only [ptg]
    constructor
    · intro hg
      split at hg
      · rename_i hp; rw [List.mem_singleton] at hg; subst hg; exact ⟨hp, [], by simp, rfl⟩
      · simp at hg
    · rintro ⟨hp, T, rfl, ht⟩
      rw [List.eq_nil_of_length_eq_zero ht, List.append_nil] at hp ⊢
      rw [if_pos hp]; simp
  | d + 1, F, G, h => by
    simp only [ptg, List.mem_flatMap]
    constructor
    · rintro ⟨x, hx, hg⟩
      obtain ⟨hp, T, rfl, ht⟩ := (mem_ptg (by simp; omega)).1 hg
      exact ⟨hp, x :: T, by simp, by simp [ht]⟩
    · rintro ⟨hp, T, rfl, ht⟩
      match T, ht with
      | x :: T, ht =>
        refine ⟨x, mem_vals.2 ?_, (mem_ptg (by simp; omega)).2 ⟨by simpa using hp, T, by simp, by simpa using ht⟩⟩
        have := (InL_iff.1 (areP_iff.1 hp).1).2 F.length (by omega)
        simpa [List.getD_eq_getElem?_getD] using this
theorem ptg_len {L : List Spn} (H : SpOk L) : ∀ {d : Nat} {F : List Int}, F.length + d = L.length → (ptg L d F).length ≤ 13 ^ d
  | 0, F, h => by simp only [ptg]; split <;> simp
  | d + 1, F, h => by
    have g := H.at (p := F.length) (by omega)
    have ih := fun x => ptg_len H (d := d) (F := F ++ [x]) (by simp; omega)
    have hl : (vals (L.getD F.length default)).length ≤ 13 := by rw [vals_len]; omega
    rw [ptg]
    have : ∀ l : List Int, (l.flatMap fun x => ptg L d (F ++ [x])).length ≤ l.length * 13 ^ d := by
      intro l
      induction l with
      | nil => simp
      | cons a l il =>
        have := ih a
        simp only [List.flatMap_cons, List.length_append, List.length_cons, Nat.succ_mul]; omega
    have h1 := this (vals (L.getD F.length default))
    have h2 := Nat.mul_le_mul_right (13 ^ d) hl
    have e : 13 ^ (d + 1) = 13 * 13 ^ d := by rw [Nat.pow_succ, Nat.mul_comm]
    omega
/-- all lists of parts -/
abbrev pts (L : List Spn) : List (List Int) := ptg L L.length []
theorem mem_pts {L : List Spn} {G : List Int} : G ∈ pts L ↔ InL L G ∧ sm G = 12 := by
  rw [mem_ptg (by simp), areP_iff]
  constructor
  · rintro ⟨h, _⟩; exact h
  · intro h; exact ⟨h, G, rfl, (InL_iff.1 h.1).1⟩
theorem pts_ne {L : List Spn} (H : SpOk L) : pts L ≠ [] := by
  obtain ⟨l, h, e⟩ := InL_ex (fun s hs => (H.s s hs).2.1) H.lo H.hi
  exact List.ne_nil_of_mem (mem_pts.2 ⟨h, e⟩)
/-- the least and the greatest number of parts in any list is what a place has -/
theorem pts_min {L : List Spn} (H : SpOk L) {p : Nat} (hp : p < L.length) {a b : Int} (ha : ∃ G ∈ pts L, a = G.getD p 0) (hb : ∃ G ∈ pts L, b = G.getD p 0) (hle : ∀ G ∈ pts L, a ≤ G.getD p 0 ∧ G.getD p 0 ≤ b) : a = shL L p ∧ b = shH L p := by
  have hs := shr_le H hp
  obtain ⟨G, hG, rfl⟩ := ha
  obtain ⟨K, hK, rfl⟩ := hb
  obtain ⟨x, hx, ex, e1⟩ := shr_att H hp (Int.le_refl _) hs.2.1
  obtain ⟨y, hy, ey, e2⟩ := shr_att H hp hs.2.1 (Int.le_refl _)
  have h1 := hle x (mem_pts.2 ⟨hx, ex⟩)
  have h2 := hle y (mem_pts.2 ⟨hy, ey⟩)
  have h3 := mem_pts.1 hG
  have h4 := mem_pts.1 hK
  have h5 := shr_ok h3.1 h3.2 hp
  have h6 := shr_ok h4.1 h4.2 hp
  constructor <;> omega
end Go.Proofs.Ytdmhbefdidmliaa.S

/-
Boats and crews: what a crew lifts, which crews there are, the cheapest one, and who is short.
-/
namespace Go.Proofs.Ytdmhbefdidmliaa.S
set_option linter.unusedSimpArgs false
set_option linter.unusedVariables false

structure Bt where
  c : Int
  p : Int
  deriving Inhabited, DecidableEq
structure Sea where
  w : Spn
  pl : List Spn
  bo : List Bt

/-- a sea that is valid, or one whose boats can carry a pound more -/
structure SeaG (s : Sea) : Prop where
  sp : SpOk s.pl
  w0 : 0 ≤ s.w.lo
  w1 : s.w.lo ≤ s.w.hi
  w2 : s.w.hi ≤ 2000
  nb : s.bo.length ≤ 6
  b : ∀ b ∈ s.bo, 0 ≤ b.c ∧ b.c ≤ 1000 ∧ 0 ≤ b.p ∧ b.p ≤ 99

def boat (s : Sea) (b : Int) : Bt := s.bo.getD b.toNat default
theorem boat_ok {s : Sea} (H : SeaG s) (b : Int) : 0 ≤ (boat s b).c ∧ (boat s b).c ≤ 1000 ∧ 0 ≤ (boat s b).p ∧ (boat s b).p ≤ 99 := by
  unfold boat
  by_cases h : b.toNat < s.bo.length
  · exact H.b _ (getD_mem h)
  · rw [List.getD_eq_getElem?_getD, List.getElem?_eq_none (by omega)]; decide

/-- what a boat surely bears at a place -/
def brs (L : List Spn) (c : Int) (p : Nat) : Int := if shH L p = 0 then 2000 else mn (12 * c / shH L p) 2000
theorem mn_comm {x y : Int} : mn x y = mn y x := by unfold mn; split <;> split <;> omega
theorem le_brs {L : List Spn} (H : SpOk L) {p : Nat} (hp : p < L.length) {c x : Int} (h0 : 0 ≤ c) (hx : x ≤ 2000) : x ≤ brs L c p ↔ x * shH L p ≤ 12 * c := by
  have hs := shr_le H hp
  unfold brs
  split
  · rename_i e; rw [e]; constructor
    · intro _; omega
    · intro _; exact hx
  · rename_i e
    have h1 : 0 < shH L p := by omega
    constructor
    · intro h
      have := Int.le_trans h mn_le1
      exact (Int.le_ediv_iff_mul_le h1).1 this
    · intro h
      exact le_mn ((Int.le_ediv_iff_mul_le h1).2 h) hx
theorem brs_le {L : List Spn} {c : Int} {p : Nat} : brs L c p ≤ 2000 := by unfold brs; split; exact Int.le_refl _; exact mn_le2
theorem brs_ge {L : List Spn} (H : SpOk L) {p : Nat} (hp : p < L.length) {c : Int} (h0 : 0 ≤ c) : 0 ≤ brs L c p := (le_brs H hp h0 (by omega)).2 (by omega)

/-- what the first boats of a crew lift -/
def lftU (s : Sea) (l : List Int) : Nat → Int
  | 0 => 2000
  | k + 1 => mn (lftU s l k) (brs s.pl (boat s (l.getD k 0)).c k)
abbrev lft (s : Sea) (l : List Int) : Int := lftU s l l.length
theorem lftU_le {s : Sea} {l : List Int} : ∀ {k : Nat}, lftU s l k ≤ 2000
  | 0 => Int.le_refl _
  | k + 1 => Int.le_trans mn_le1 (lftU_le (k := k))
theorem le_lftU {s : Sea} {l : List Int} {x : Int} (hx : x ≤ 2000) : ∀ {k : Nat}, x ≤ lftU s l k ↔ ∀ i, i < k → x ≤ brs s.pl (boat s (l.getD i 0)).c i
  | 0 => by simp [lftU, hx]
  | k + 1 => by
    have ih := le_lftU (s := s) (l := l) hx (k := k)
    constructor
    · intro h i hi
      by_cases e : i = k
      · subst e; exact Int.le_trans h mn_le2
      · exact ih.1 (Int.le_trans h mn_le1) i (by omega)
    · intro h
      exact le_mn (ih.2 fun i hi => h i (by omega)) (h k (by omega))
theorem le_lft {s : Sea} (H : SeaG s) {l : List Int} (hl : l.length = s.pl.length) {x : Int} (hx : x ≤ 2000) : x ≤ lft s l ↔ ∀ i, i < s.pl.length → x * shH s.pl i ≤ 12 * (boat s (l.getD i 0)).c := by
  rw [le_lftU hx, hl]
  constructor
  · intro h i hi; exact (le_brs H.sp hi (boat_ok H _).1 hx).1 (h i hi)
  · intro h i hi; exact (le_brs H.sp hi (boat_ok H _).1 hx).2 (h i hi)
theorem lftU_ge {s : Sea} (H : SeaG s) {l : List Int} {k : Nat} (hk : k ≤ s.pl.length) : 0 ≤ lftU s l k :=
  (le_lftU (by omega)).2 fun i hi => brs_ge H.sp (by omega) (boat_ok H _).1

/-- the need of a place -/
def needv (s : Sea) (p : Nat) : Int := (s.w.hi * shH s.pl p + 11) / 12
theorem need_le {s : Sea} {p : Nat} {c : Int} : needv s p ≤ c ↔ s.w.hi * shH s.pl p ≤ 12 * c := by unfold needv; omega
theorem need_ok {s : Sea} (H : SeaG s) {p : Nat} (hp : p < s.pl.length) : 0 ≤ s.w.hi * shH s.pl p ∧ s.w.hi * shH s.pl p ≤ 24000 ∧ 0 ≤ needv s p ∧ needv s p ≤ 2000 := by
  have h1 := shr_le H.sp hp
  have h2 : 0 ≤ s.w.hi := by have := H.w0; have := H.w1; omega
  have h3 : 0 ≤ s.w.hi * shH s.pl p := Int.mul_nonneg h2 (by omega)
  have h4 : s.w.hi * shH s.pl p ≤ 2000 * 12 := Int.mul_le_mul H.w2 h1.2.2 (by omega) (by omega)
  refine ⟨h3, h4, ?_, ?_⟩ <;> unfold needv <;> omega
/-- each boat of a crew can carry the need of its place -/
def fts (s : Sea) (l : List Int) : Bool := (List.range l.length).all fun i => decide (needv s i ≤ (boat s (l.getD i 0)).c)
theorem fts_iff {s : Sea} {l : List Int} : fts s l = true ↔ ∀ i, i < l.length → needv s i ≤ (boat s (l.getD i 0)).c := by
  simp [fts]
theorem fts_lft {s : Sea} (H : SeaG s) {l : List Int} (hl : l.length = s.pl.length) : fts s l = decide (s.w.hi ≤ lft s l) := by
  rw [Bool.eq_iff_iff, decide_eq_true_eq, fts_iff, le_lft H hl H.w2, hl]
  constructor
  · intro h i hi; exact need_le.1 (h i hi)
  · intro h i hi; exact need_le.2 (h i hi)

/-- some boat of a crew is over its load -/
def ovr (s : Sea) (l : List Int) (w : Int) (p : List Int) : Bool := (List.range l.length).any fun i => decide (w * p.getD i 0 > 12 * (boat s (l.getD i 0)).c)
theorem ovr_no {s : Sea} {l : List Int} {w : Int} {p : List Int} : ovr s l w p = false ↔ ∀ i, i < l.length → w * p.getD i 0 ≤ 12 * (boat s (l.getD i 0)).c := by
  simp only [ovr, List.any_eq_false, List.mem_range, decide_eq_true_eq]
  constructor
  · intro h i hi; have := h i hi; omega
  · intro h i hi; have := h i hi; omega
/-- a weight that a crew surely holds -/
theorem safe_iff {s : Sea} (H : SeaG s) {l : List Int} (hl : l.length = s.pl.length) {w : Int} (h0 : 0 ≤ w) : (∀ G ∈ pts s.pl, ovr s l w G = false) ↔ ∀ i, i < s.pl.length → w * shH s.pl i ≤ 12 * (boat s (l.getD i 0)).c := by
  constructor
  · intro h i hi
    have hs := shr_le H.sp hi
    obtain ⟨G, h1, h2, h3⟩ := shr_att H.sp hi hs.2.1 (Int.le_refl _)
    have := ovr_no.1 (h G (mem_pts.2 ⟨h1, h2⟩)) i (by omega)
    rwa [h3] at this
  · intro h G hG
    obtain ⟨h1, h2⟩ := mem_pts.1 hG
    refine ovr_no.2 fun i hi => ?_
    have := (shr_ok h1 h2 (p := i) (by omega)).2
    exact Int.le_trans (Int.mul_le_mul_of_nonneg_left this h0) (h i (by omega))

/-! can a crew hold? -/
def capP (s : Sea) (l : List Int) (i : Nat) : Int := if s.w.lo > 0 then mn (s.pl.getD i default).hi (12 * (boat s (l.getD i 0)).c / s.w.lo) else (s.pl.getD i default).hi
def canB (s : Sea) (l : List Int) : Bool := ((List.range l.length).all fun i => decide ((s.pl.getD i default).lo ≤ capP s l i)) && decide (12 ≤ sm ((List.range l.length).map (capP s l)))
theorem capP_iff {s : Sea} (H : SeaG s) {l : List Int} {i : Nat} {x : Int} : x ≤ capP s l i ↔ x ≤ (s.pl.getD i default).hi ∧ s.w.lo * x ≤ 12 * (boat s (l.getD i 0)).c := by
  have hb := (boat_ok H (l.getD i 0)).1
  unfold capP
  split
  · rename_i h
    constructor
    · intro hx
      refine ⟨Int.le_trans hx mn_le1, ?_⟩
      have := (Int.le_ediv_iff_mul_le h).1 (Int.le_trans hx mn_le2)
      rwa [Int.mul_comm]
    · rintro ⟨h1, h2⟩
      exact le_mn h1 ((Int.le_ediv_iff_mul_le h).2 (by rwa [Int.mul_comm]))
  · rename_i h
    have e : s.w.lo = 0 := by have := H.w0; omega
    rw [e]
    constructor
    · intro hx; exact ⟨hx, by omega⟩
    · rintro ⟨h1, _⟩; exact h1
theorem can_iff {s : Sea} (H : SeaG s) {l : List Int} (hl : l.length = s.pl.length) : canB s l = true ↔ ∃ G ∈ pts s.pl, ovr s l s.w.lo G = false := by
  have key : ∀ {i : Nat}, i < s.pl.length → ((List.range s.pl.length).map fun i => (⟨(s.pl.getD i default).lo, capP s l i⟩ : Spn)).getD i default = ⟨(s.pl.getD i default).lo, capP s l i⟩ := by
    intro i hi
    simp only [List.getD_eq_getElem?_getD, List.getElem?_map, List.getElem?_range hi, Option.map_some, Option.getD_some]
  have e1 : slo ((List.range s.pl.length).map fun i => (⟨(s.pl.getD i default).lo, capP s l i⟩ : Spn)) = slo s.pl := by
    simp only [slo, List.map_map]
    congr 1
    apply List.ext_getElem
    · simp
    · intro i h1 h2
      simp at h1 h2
      simp [h1]
  have e2 : shi ((List.range s.pl.length).map fun i => (⟨(s.pl.getD i default).lo, capP s l i⟩ : Spn)) = sm ((List.range s.pl.length).map (capP s l)) := by
    simp only [shi, List.map_map]; rfl
  simp only [canB, Bool.and_eq_true, List.all_eq_true, List.mem_range, decide_eq_true_eq, hl]
  constructor
  · rintro ⟨h1, h2⟩
    obtain ⟨G, hG, e⟩ := InL_ex (L := (List.range s.pl.length).map fun i => (⟨(s.pl.getD i default).lo, capP s l i⟩ : Spn)) (N := 12) (by
      intro x hx
      obtain ⟨i, hi, rfl⟩ := List.mem_map.1 hx
      exact h1 i (List.mem_range.1 hi)) (by rw [e1]; exact H.sp.lo) (by rw [e2]; exact h2)
    obtain ⟨g1, g2⟩ := InL_iff.1 hG
    simp only [List.length_map, List.length_range] at g1 g2
    refine ⟨G, mem_pts.2 ⟨InL_iff.2 ⟨g1, fun i hi => ?_⟩, e⟩, ovr_no.2 fun i hi => ?_⟩
    · have := g2 i hi
      rw [key hi] at this
      exact ⟨this.1, ((capP_iff H).1 this.2).1⟩
    · have := g2 i (by omega)
      rw [key (by omega)] at this
      exact ((capP_iff H).1 this.2).2
  · rintro ⟨G, hG, ho⟩
    obtain ⟨h1, h2⟩ := mem_pts.1 hG
    have g := (InL_iff.1 h1).2
    have o := ovr_no.1 ho
    have c : ∀ i, i < s.pl.length → G.getD i 0 ≤ capP s l i := fun i hi => (capP_iff H).2 ⟨(g i hi).2, o i (by omega)⟩
    refine ⟨fun i hi => Int.le_trans (g i hi).1 (c i hi), ?_⟩
    have hI : InL ((List.range s.pl.length).map fun i => (⟨(s.pl.getD i default).lo, capP s l i⟩ : Spn)) G := InL_iff.2 ⟨by simp [(InL_iff.1 h1).1], fun i hi => by
      simp only [List.length_map, List.length_range] at hi
      rw [key hi]; exact ⟨(g i hi).1, c i hi⟩⟩
    have := (InL_sum hI).2
    rw [e2] at this; omega

/-! all crews -/
def crw (nb : Nat) : Nat → List Int → List (List Int)
  | 0, F => [F]
  | d + 1, F => (List.range nb).flatMap fun (b : Nat) => if (b : Int) ∈ F then [] else crw nb d (F ++ [(b : Int)])
def okC (nb : Nat) (l : List Int) : Prop := (∀ x ∈ l, 0 ≤ x ∧ x < nb) ∧ l.Nodup
theorem okC_snoc {nb : Nat} {l : List Int} {x : Int} : okC nb (l ++ [x]) ↔ okC nb l ∧ (0 ≤ x ∧ x < nb) ∧ x ∉ l := by
  simp only [okC, List.mem_append, List.mem_singleton, List.nodup_append, List.nodup_cons, List.not_mem_nil, not_false_eq_true, List.nodup_nil, and_true, true_and]
  constructor
  · rintro ⟨h1, h2, h3⟩
    exact ⟨⟨fun y hy => h1 y (.inl hy), h2⟩, h1 x (.inr rfl), fun hx => h3 x hx x rfl rfl⟩
  · rintro ⟨⟨h1, h2⟩, h3, h4⟩
    refine ⟨fun y hy => ?_, h2, fun a ha b hb e => ?_⟩
    · rcases hy with hy | rfl
      · exact h1 y hy
      · exact h3
    · subst hb; subst e; exact h4 ha
theorem mem_crw {nb : Nat} : ∀ {d : Nat} {F G : List Int}, okC nb F → (G ∈ crw nb d F ↔ okC nb G ∧ ∃ T, G = F ++ T ∧ T.length = d)
  | 0, F, G, h => by
    simp only [crw, List.mem_singleton]
    constructor
    · rintro rfl; exact ⟨h, [], by simp, rfl⟩
    · rintro ⟨_, T, rfl, ht⟩; rw [List.eq_nil_of_length_eq_zero ht, List.append_nil]
  | d + 1, F, G, h => by
    simp only [crw, List.mem_flatMap, List.mem_range]
    constructor
    · rintro ⟨b, hb, hg⟩
      split at hg
      · simp at hg
      · rename_i hn
        obtain ⟨hp, T, rfl, ht⟩ := (mem_crw (okC_snoc.2 ⟨h, ⟨by omega, by omega⟩, hn⟩)).1 hg
        exact ⟨hp, (b : Int) :: T, by simp, by simp [ht]⟩
    · rintro ⟨hp, T, rfl, ht⟩
      match T, ht with
      | x :: T, ht =>
        have e : F ++ x :: T = (F ++ [x]) ++ T := by simp
        have hx : okC nb (F ++ [x]) := by
          rw [e] at hp
          exact ⟨fun y hy => hp.1 y (List.mem_append_left _ hy), (List.nodup_append.1 hp.2).1⟩
        have h3 := okC_snoc.1 hx
        refine ⟨x.toNat, by omega, ?_⟩
        rw [show ((x.toNat : Nat) : Int) = x by omega, if_neg h3.2.2]
        exact (mem_crw hx).2 ⟨hp, T, by simp, by simpa using ht⟩
theorem crw_len {nb : Nat} : ∀ {d : Nat} {F : List Int}, (crw nb d F).length ≤ nb ^ d
  | 0, F => by simp [crw]
  | d + 1, F => by
    have : ∀ l : List Nat, (l.flatMap fun (b : Nat) => if (b : Int) ∈ F then [] else crw nb d (F ++ [(b : Int)])).length ≤ l.length * nb ^ d := by
      intro l
      induction l with
      | nil => simp
      | cons a l il =>
        have := crw_len (nb := nb) (d := d) (F := F ++ [(a : Int)])
        simp only [List.flatMap_cons, List.length_append, List.length_cons, Nat.succ_mul]
        split
        · simp only [List.length_nil]; omega
        · omega
    have h1 := this (List.range nb)
    rw [List.length_range] at h1
    rw [crw, Nat.pow_succ, Nat.mul_comm]; exact h1
abbrev crws (s : Sea) : List (List Int) := crw s.bo.length s.pl.length []
def isCr (s : Sea) (l : List Int) : Prop := l.length = s.pl.length ∧ okC s.bo.length l
theorem mem_crws {s : Sea} {l : List Int} : l ∈ crws s ↔ isCr s l := by
  rw [mem_crw ⟨by simp, by simp⟩]
  constructor
  · rintro ⟨h, T, rfl, ht⟩; exact ⟨by simpa using ht, h⟩
  · rintro ⟨h1, h2⟩; exact ⟨h2, l, by simp, h1⟩

/-- one list ahead of another one -/
def ear : List Int → List Int → Bool
  | a :: l, b :: m => if a ≠ b then decide (a < b) else ear l m
  | _, _ => false
theorem ear_app : ∀ {F l m : List Int}, ear (F ++ l) (F ++ m) = ear l m
  | [], _, _ => rfl
  | a :: F, l, m => by simp [ear, ear_app (F := F)]
theorem ear_asym : ∀ {l m : List Int}, ear l m = true → ear m l = false
  | [], m, h => by simp [ear] at h
  | a :: l, [], h => by simp [ear] at h
  | a :: l, b :: m, h => by
    simp only [ear] at h ⊢
    by_cases e : a = b
    · subst e; simp only [ne_eq, not_true_eq_false, if_false] at h ⊢; exact ear_asym h
    · rw [if_pos e] at h; rw [if_pos (Ne.symm e)]; simp at h ⊢; omega
theorem ear_total : ∀ {l m : List Int}, l.length = m.length → ear l m = false → ear m l = false → l = m
  | [], [], _, _, _ => rfl
  | [], _ :: _, h, _, _ => by simp at h
  | _ :: _, [], h, _, _ => by simp at h
  | a :: l, b :: m, h, h1, h2 => by
    simp only [ear] at h1 h2
    by_cases e : a = b
    · subst e; simp only [ne_eq, not_true_eq_false, if_false] at h1 h2; rw [ear_total (by simpa using h) h1 h2]
    · rw [if_pos e] at h1; rw [if_pos (Ne.symm e)] at h2; simp at h1 h2; omega
theorem crw_sorted {nb : Nat} : ∀ {d : Nat} {F : List Int}, (crw nb d F).Pairwise fun x y => ear x y = true
  | 0, F => by simp [crw]
  | d + 1, F => by
    rw [crw, List.pairwise_flatMap]
    refine ⟨fun b hb => ?_, ?_⟩
    · split
      · exact List.Pairwise.nil
      · exact crw_sorted
    · refine List.pairwise_lt_range.imp ?_
      intro a b hab x hx y hy
      split at hx
      · simp at hx
      split at hy
      · simp at hy
      have pre : ∀ {d : Nat} {F G : List Int}, G ∈ crw nb d F → ∃ T, G = F ++ T := by
        intro d
        induction d with
        | zero => intro F G h; simp [crw] at h; exact ⟨[], by simp [h]⟩
        | succ d ih =>
          intro F G h
          simp only [crw, List.mem_flatMap] at h
          obtain ⟨b, _, h⟩ := h
          split at h
          · simp at h
          · obtain ⟨T, rfl⟩ := ih h; exact ⟨(b : Int) :: T, by simp⟩
      obtain ⟨T, rfl⟩ := pre hx
      obtain ⟨U, rfl⟩ := pre hy
      rw [List.append_assoc, List.append_assoc, ear_app]
      simp only [List.cons_append, List.nil_append, ear]
      rw [if_pos (by omega)]; simp; omega

/-! the first of the cheapest -/
def bstS (f : List Int → Bool) (cost : List Int → Int) (b : Option (List Int)) (c : List Int) : Option (List Int) :=
  if f c then (match b with | none => some c | some x => if cost c < cost x then some c else b) else b
def bst (f : List Int → Bool) (cost : List Int → Int) (l : List (List Int)) : Option (List Int) := l.foldl (bstS f cost) none
theorem bst_snoc {f : List Int → Bool} {cost : List Int → Int} {l : List (List Int)} {c : List Int} : bst f cost (l ++ [c]) = bstS f cost (bst f cost l) c := by
  simp [bst, List.foldl_append]
theorem snocRec {α : Type} (P : List α → Prop) (l : List α) (nil : P []) (snoc : ∀ l c, P l → P (l ++ [c])) : P l := by
  rw [← List.reverse_reverse l]
  induction l.reverse with
  | nil => exact nil
  | cons c l ih => rw [List.reverse_cons]; exact snoc _ _ ih
theorem bst_none {f : List Int → Bool} {cost : List Int → Int} {l : List (List Int)} : bst f cost l = none ↔ ∀ c ∈ l, f c = false := by
  refine snocRec (fun l => bst f cost l = none ↔ ∀ c ∈ l, f c = false) l (by simp [bst]) ?_
  intro l c ih
  rw [bst_snoc]
  constructor
  · intro h x hx
    unfold bstS at h
    split at h
    · split at h
      · cases h
      · split at h
        · cases h
        · rename_i e _; rw [e] at h; cases h
    · rename_i hf
      rcases List.mem_append.1 hx with hx | hx
      · exact ih.1 h x hx
      · rw [List.mem_singleton] at hx; subst hx; simpa using hf
  · intro h
    unfold bstS
    rw [if_neg (by rw [h c (by simp)]; simp)]
    exact ih.2 fun x hx => h x (by simp [hx])
theorem bst_some {f : List Int → Bool} {cost : List Int → Int} {l : List (List Int)} : l.Pairwise (fun x y => ear x y = true) → ∀ {x : List Int}, bst f cost l = some x → (x ∈ l ∧ f x = true ∧ ∀ c ∈ l, f c = true → cost x ≤ cost c ∧ (cost c = cost x → ear c x = false)) := by
  refine snocRec (fun l => l.Pairwise (fun x y => ear x y = true) → ∀ {x : List Int}, bst f cost l = some x → (x ∈ l ∧ f x = true ∧ ∀ c ∈ l, f c = true → cost x ≤ cost c ∧ (cost c = cost x → ear c x = false))) l (by intro _ x h; cases h) ?_
  intro l c ih hp x h
  rw [List.pairwise_append] at hp
  obtain ⟨hp, _, hc⟩ := hp
  rw [bst_snoc] at h
  unfold bstS at h
  split at h
  · rename_i hf
    split at h
    · rename_i e
      cases h
      refine ⟨by simp, hf, fun y hy hfy => ?_⟩
      rcases List.mem_append.1 hy with hy | hy
      · rw [bst_none.1 e y hy] at hfy; cases hfy
      · rw [List.mem_singleton] at hy; subst hy
        refine ⟨Int.le_refl _, fun _ => ?_⟩
        cases hh : ear y y with
        | false => rfl
        | true => have := ear_asym hh; rw [hh] at this; cases this
    · rename_i z e
      split at h
      · rename_i hlt
        cases h
        obtain ⟨h1, h2, h3⟩ := ih hp e
        refine ⟨by simp, hf, fun y hy hfy => ?_⟩
        rcases List.mem_append.1 hy with hy | hy
        · have := (h3 y hy hfy).1
          exact ⟨by omega, fun e => by omega⟩
        · rw [List.mem_singleton] at hy; subst hy
          refine ⟨Int.le_refl _, fun _ => ?_⟩
          cases hh : ear y y with
          | false => rfl
          | true => have := ear_asym hh; rw [hh] at this; cases this
      · rename_i hlt
        obtain ⟨h1, h2, h3⟩ := ih hp h
        rw [e] at h
        cases h
        refine ⟨by simp [h1], h2, fun y hy hfy => ?_⟩
        rcases List.mem_append.1 hy with hy | hy
        · exact h3 y hy hfy
        · rw [List.mem_singleton] at hy; subst hy
          exact ⟨by omega, fun _ => ear_asym (hc _ h1 _ (by simp))⟩
  · rename_i hf
    obtain ⟨h1, h2, h3⟩ := ih hp h
    refine ⟨by simp [h1], h2, fun y hy hfy => ?_⟩
    rcases List.mem_append.1 hy with hy | hy
    · exact h3 y hy hfy
    · rw [List.mem_singleton] at hy; subst hy; exact absurd hfy hf
/-- the cost of a crew -/
def cstU (s : Sea) (l : List Int) : Nat → Int
  | 0 => 0
  | k + 1 => cstU s l k + (boat s (l.getD k 0)).p
abbrev cst (s : Sea) (l : List Int) : Int := cstU s l l.length
theorem cstU_le {s : Sea} (H : SeaG s) {l : List Int} : ∀ {k : Nat}, 0 ≤ cstU s l k ∧ cstU s l k ≤ 99 * k
  | 0 => by simp [cstU]
  | k + 1 => by
    have := cstU_le H (l := l) (k := k)
    have := boat_ok H (l.getD k 0)
    simp only [cstU]; omega
abbrev crew (s : Sea) : Option (List Int) := bst (fts s) (cst s) (crws s)
theorem crew_none {s : Sea} : crew s = none ↔ ∀ l, isCr s l → fts s l = false := by
  rw [bst_none]
  constructor
  · intro h l hl; exact h l (mem_crws.2 hl)
  · intro h l hl; exact h l (mem_crws.1 hl)
theorem crew_some {s : Sea} {x : List Int} (h : crew s = some x) : isCr s x ∧ fts s x = true ∧ ∀ l, isCr s l → fts s l = true → cst s x ≤ cst s l ∧ (cst s l = cst s x → ear l x = false) := by
  obtain ⟨h1, h2, h3⟩ := bst_some crw_sorted h
  exact ⟨mem_crws.1 h1, h2, fun l hl hf => h3 l (mem_crws.2 hl) hf⟩

/-! the most of all crews -/
def mst (f : List Int → Int) (l : List (List Int)) : Int := l.foldl (fun m c => mx m (f c)) 0
theorem mst_snoc {f : List Int → Int} {l : List (List Int)} {c : List Int} : mst f (l ++ [c]) = mx (mst f l) (f c) := by simp [mst, List.foldl_append]
theorem mst_ge {f : List Int → Int} {l : List (List Int)} : 0 ≤ mst f l ∧ ∀ c ∈ l, f c ≤ mst f l := by
  refine snocRec (fun l => 0 ≤ mst f l ∧ ∀ c ∈ l, f c ≤ mst f l) l (by simp [mst]) ?_
  intro l c ih
  rw [mst_snoc]
  refine ⟨Int.le_trans ih.1 le_mx1, fun x hx => ?_⟩
  rcases List.mem_append.1 hx with hx | hx
  · exact Int.le_trans (ih.2 x hx) le_mx1
  · rw [List.mem_singleton] at hx; subst hx; exact le_mx2
theorem mst_at {f : List Int → Int} {l : List (List Int)} : mst f l = 0 ∨ ∃ c ∈ l, f c = mst f l := by
  refine snocRec (fun l => mst f l = 0 ∨ ∃ c ∈ l, f c = mst f l) l (by simp [mst]) ?_
  intro l c ih
  rw [mst_snoc]
  rcases mx_or (x := mst f l) (y := f c) with h | h
  · rw [h]
    rcases ih with ih | ⟨x, hx, e⟩
    · exact .inl ih
    · exact .inr ⟨x, by simp [hx], e⟩
  · rw [h]; exact .inr ⟨c, by simp, rfl⟩
theorem mst_le {f : List Int → Int} {l : List (List Int)} {x : Int} (h0 : 0 ≤ x) (h : ∀ c ∈ l, f c ≤ x) : mst f l ≤ x := by
  rcases mst_at (f := f) (l := l) with e | ⟨c, hc, e⟩
  · omega
  · rw [← e]; exact h c hc
theorem mst_congr {f g : List Int → Int} {l : List (List Int)} (h : ∀ c ∈ l, f c = g c) : mst f l = mst g l := by
  unfold mst
  generalize (0 : Int) = z
  induction l generalizing z with
  | nil => rfl
  | cons a l ih =>
    simp only [List.foldl_cons, h a (by simp)]
    exact ih (fun c hc => h c (by simp [hc])) _
abbrev most (s : Sea) : Int := mst (lft s) (crws s)
theorem most_le {s : Sea} : 0 ≤ most s ∧ most s ≤ 2000 := ⟨mst_ge.1, mst_le (by omega) fun c _ => lftU_le⟩
end Go.Proofs.Ytdmhbefdidmliaa.S

/-
Who is short: places for which there are too few boats; there is a crew that holds just if there are none.
-/
namespace Go.Proofs.Ytdmhbefdidmliaa.S
set_option linter.unusedSimpArgs false
set_option linter.unusedVariables false

/-- a list without repeats in another one is no longer -/
theorem nodup_le {α : Type} [DecidableEq α] : ∀ {l m : List α}, l.Nodup → (∀ x ∈ l, x ∈ m) → l.length ≤ m.length
  | [], m, _, _ => by simp
  | a :: l, m, h, hm => by
    rw [List.nodup_cons] at h
    have h1 := nodup_le (l := l) (m := m.erase a) h.2 fun x hx => (List.mem_erase_of_ne (by rintro rfl; exact h.1 hx)).2 (hm x (by simp [hx]))
    have h2 := hm a (by simp)
    rw [List.length_erase_of_mem h2] at h1
    have := List.length_pos_of_mem h2
    simp only [List.length_cons]; omega

section
variable (n : Nat → Int) (c : Nat → Int)
/-- how many boats can carry the need of a place -/
def abl (B : List Nat) (p : Nat) : Nat := (B.filter fun b => decide (n p ≤ c b)).length
/-- the places with fewer boats than so many -/
def few (B P : List Nat) (f : Nat) : List Nat := P.filter fun p => decide (abl n c B p < f)

theorem filter_sub {α : Type} {p q : α → Bool} : ∀ {l : List α}, (∀ x ∈ l, p x = true → q x = true) → (l.filter p).length ≤ (l.filter q).length
  | [], _ => by simp
  | a :: l, h => by
    have ih := filter_sub (l := l) (p := p) (q := q) fun x hx => h x (by simp [hx])
    have h0 := h a (by simp)
    simp only [List.filter_cons]
    cases hp : p a
    · simp only [Bool.false_eq_true, if_false]; split <;> simp <;> omega
    · rw [h0 hp]; simp only [if_true, List.length_cons]; omega
theorem abl_mono {B : List Nat} {p q : Nat} (h : n p ≤ n q) : abl n c B q ≤ abl n c B p :=
  filter_sub fun x _ hx => by simp only [decide_eq_true_eq] at hx ⊢; omega
theorem abl_erase {B : List Nat} {p b : Nat} (hb : b ∈ B) (hc : n p ≤ c b) : abl n c (B.erase b) p + 1 = abl n c B p := by
  unfold abl
  have h1 : (B.filter fun b => decide (n p ≤ c b)).erase b = (B.erase b).filter fun b => decide (n p ≤ c b) := by
    rw [List.erase_filter]
  have h2 : b ∈ B.filter fun b => decide (n p ≤ c b) := List.mem_filter.2 ⟨hb, by simpa using hc⟩
  rw [← h1, List.length_erase_of_mem h2]
  have := List.length_pos_of_mem h2
  omega
theorem max_ex : ∀ {P : List Nat}, P ≠ [] → ∃ p ∈ P, ∀ q ∈ P, n q ≤ n p
  | [], h => absurd rfl h
  | a :: P, _ => by
    by_cases hP : P = []
    · subst hP; exact ⟨a, by simp, fun q hq => by simp at hq; subst hq; exact Int.le_refl _⟩
    · obtain ⟨p, hp, h⟩ := max_ex hP
      by_cases c : n a ≤ n p
      · exact ⟨p, by simp [hp], fun q hq => by rcases List.mem_cons.1 hq with rfl | hq; exact c; exact h q hq⟩
      · exact ⟨a, by simp, fun q hq => by
          rcases List.mem_cons.1 hq with rfl | hq
          · exact Int.le_refl _
          · have := h q hq; omega⟩
theorem hall_of : ∀ (k : Nat) {B P : List Nat}, P.length = k → P.Nodup → B.Nodup → (∀ f, 1 ≤ f → (few n c B P f).length < f) →
    ∃ g : Nat → Nat, (∀ p ∈ P, g p ∈ B ∧ n p ≤ c (g p)) ∧ ∀ p ∈ P, ∀ q ∈ P, g p = g q → p = q
  | 0, B, P, hk, _, _, _ => by
    rw [List.eq_nil_of_length_eq_zero hk]
    exact ⟨fun _ => 0, by simp, by simp⟩
  | k + 1, B, P, hk, hP, hB, h => by
    obtain ⟨p, hp, hmax⟩ := max_ex n (P := P) (by intro e; simp [e] at hk)
    have h1 : 1 ≤ abl n c B p := by
      apply Nat.one_le_iff_ne_zero.2
      intro e
      have := h 1 (by omega)
      have hm : p ∈ few n c B P 1 := List.mem_filter.2 ⟨hp, by simp; omega⟩
      have := List.length_pos_of_mem hm
      omega
    obtain ⟨b, hb⟩ := List.exists_mem_of_length_pos h1
    rw [List.mem_filter] at hb
    obtain ⟨hbB, hbc⟩ := hb
    simp only [decide_eq_true_eq] at hbc
    have hfit : ∀ q ∈ P, n q ≤ c b := fun q hq => Int.le_trans (hmax q hq) hbc
    obtain ⟨g, g1, g2⟩ := hall_of k (B := B.erase b) (P := P.erase p) (by rw [List.length_erase_of_mem hp]; omega) (hP.erase _) (hB.erase _) (by
      intro f hf
      have e : few n c (B.erase b) (P.erase p) f = (few n c B P (f + 1)).erase p := by
        unfold few
        rw [List.erase_filter]
        apply List.filter_congr
        intro q hq
        have := abl_erase n c hbB (hfit q (List.mem_of_mem_erase hq))
        rw [decide_eq_decide]; omega
      rw [e]
      by_cases hpf : abl n c B p < f + 1
      · have hm : p ∈ few n c B P (f + 1) := List.mem_filter.2 ⟨hp, by simpa using hpf⟩
        rw [List.length_erase_of_mem hm]
        have := h (f + 1) (by omega)
        have := List.length_pos_of_mem hm
        omega
      · have : few n c B P (f + 1) = [] := by
          unfold few
          rw [List.filter_eq_nil_iff]
          intro q hq hh
          simp only [decide_eq_true_eq] at hh
          have := abl_mono n c (B := B) (hmax q hq)
          omega
        rw [this]; simp; omega)
    refine ⟨fun q => if q = p then b else g q, fun q hq => ?_, fun q hq r hr e => ?_⟩
    · by_cases e : q = p
      · subst e; simp only [if_true]; exact ⟨hbB, hbc⟩
      · simp only [if_neg e]
        have := g1 q ((List.mem_erase_of_ne e).2 hq)
        exact ⟨List.mem_of_mem_erase this.1, this.2⟩
    · by_cases e1 : q = p <;> by_cases e2 : r = p
      · rw [e1, e2]
      · simp only [if_pos e1, if_neg e2] at e
        have := (g1 r ((List.mem_erase_of_ne e2).2 hr)).1
        rw [← e] at this
        exact absurd this (hB.not_mem_erase)
      · simp only [if_neg e1, if_pos e2] at e
        have := (g1 q ((List.mem_erase_of_ne e1).2 hq)).1
        rw [e] at this
        exact absurd this (hB.not_mem_erase)
      · simp only [if_neg e1, if_neg e2] at e
        exact g2 q ((List.mem_erase_of_ne e1).2 hq) r ((List.mem_erase_of_ne e2).2 hr) e
theorem of_hall {B P : List Nat} (hP : P.Nodup) {g : Nat → Nat} (g1 : ∀ p ∈ P, g p ∈ B ∧ n p ≤ c (g p)) (g2 : ∀ p ∈ P, ∀ q ∈ P, g p = g q → p = q) {f : Nat} (hf : 1 ≤ f) : (few n c B P f).length < f := by
  by_cases h : few n c B P f = []
  · rw [h, List.length_nil]; omega
  · obtain ⟨p, hp, hmin⟩ := max_ex (fun p => - n p) h
    obtain ⟨hpP, hpa⟩ := List.mem_filter.1 hp
    simp only [decide_eq_true_eq] at hpa
    have : ((few n c B P f).map g).length ≤ (B.filter fun b => decide (n p ≤ c b)).length := by
      apply nodup_le
      · rw [List.Nodup, List.pairwise_map]
        refine (hP.sublist List.filter_sublist).imp_of_mem ?_
        intro a b ha hb hab e
        exact hab (g2 a (List.mem_filter.1 ha).1 b (List.mem_filter.1 hb).1 e)
      · intro x hx
        obtain ⟨q, hq, rfl⟩ := List.mem_map.1 hx
        have := hmin q hq
        have := g1 q (List.mem_filter.1 hq).1
        exact List.mem_filter.2 ⟨this.1, by simp; omega⟩
    rw [List.length_map] at this
    unfold abl at hpa
    omega
end

theorem nodup_inj {α : Type} {l : List α} (h : l.Nodup) {i j : Nat} (hi : i < l.length) (hj : j < l.length) (e : l[i] = l[j]) : i = j := by
  have h1 := List.pairwise_iff_getElem.1 h
  by_cases c1 : i < j
  · exact absurd e (h1 i j hi hj c1)
  · by_cases c2 : j < i
    · exact absurd e.symm (h1 j i hj hi c2)
    · omega
/-- how many boats can carry the need of a place of a sea -/
def abs (s : Sea) (p : Nat) : Nat := abl (needv s) (fun b => (s.bo.getD b default).c) (List.range s.bo.length) p
/-- the places with fewer boats than so many -/
def fews (s : Sea) (f : Nat) : List Nat := (List.range s.pl.length).filter fun p => decide (abs s p < f)
theorem fews_eq {s : Sea} {f : Nat} : fews s f = few (needv s) (fun b => (s.bo.getD b default).c) (List.range s.bo.length) (List.range s.pl.length) f := rfl
theorem fews_le {s : Sea} {f : Nat} : (fews s f).length ≤ s.pl.length := by
  have := List.length_filter_le (fun p => decide (abs s p < f)) (List.range s.pl.length)
  rw [List.length_range] at this; exact this
/-- there is a crew that surely holds just if no places are short -/
theorem crew_iff {s : Sea} : (∃ l, isCr s l ∧ fts s l = true) ↔ ∀ f, 1 ≤ f → f ≤ s.pl.length → (fews s f).length < f := by
  constructor
  · rintro ⟨l, ⟨hl, hc⟩, hf⟩ f h1 _
    rw [fts_iff, hl] at hf
    rw [fews_eq]
    have hmem : ∀ p, p < s.pl.length → l.getD p 0 ∈ l := fun p hp => by rw [List.getD_eq_getElem?_getD, List.getElem?_eq_getElem (by omega)]; exact List.getElem_mem (by omega)
    refine of_hall _ _ List.nodup_range (g := fun p => (l.getD p 0).toNat) (fun p hp => ?_) (fun p hp q hq e => ?_) h1
    · rw [List.mem_range] at hp
      have := hc.1 _ (hmem p hp)
      exact ⟨List.mem_range.2 (by omega), hf p hp⟩
    · rw [List.mem_range] at hp hq
      have a1 := hc.1 _ (hmem p hp)
      have a2 := hc.1 _ (hmem q hq)
      have e' : l.getD p 0 = l.getD q 0 := by omega
      rw [List.getD_eq_getElem?_getD, List.getD_eq_getElem?_getD, List.getElem?_eq_getElem (by omega), List.getElem?_eq_getElem (by omega)] at e'
      exact nodup_inj hc.2 (by omega) (by omega) e'
  · intro h
    obtain ⟨g, g1, g2⟩ := hall_of (needv s) (fun b => (s.bo.getD b default).c) s.pl.length (B := List.range s.bo.length) (P := List.range s.pl.length) (by simp) List.nodup_range List.nodup_range (by
      intro f h1
      by_cases h2 : f ≤ s.pl.length
      · exact h f h1 h2
      · have := fews_le (s := s) (f := f); rw [fews_eq] at this; omega)
    refine ⟨(List.range s.pl.length).map fun p => ((g p : Nat) : Int), ⟨by simp, fun x hx => ?_, ?_⟩, fts_iff.2 fun i hi => ?_⟩
    · obtain ⟨p, hp, rfl⟩ := List.mem_map.1 hx
      have := List.mem_range.1 (g1 p hp).1
      omega
    · rw [List.Nodup, List.pairwise_map]
      refine List.nodup_range.imp_of_mem ?_
      intro a b ha hb hab e
      exact hab (g2 a ha b hb (by omega))
    · simp only [List.length_map, List.length_range] at hi
      have := (g1 i (List.mem_range.2 hi)).2
      simpa [boat, List.getD_eq_getElem?_getD, hi] using this

/-- the first few places that are short: as many as boats are too few -/
def shtU (s : Sea) : Nat → Nat → Option (List Nat)
  | 0, _ => none
  | d + 1, f => if f ≤ (fews s f).length then some ((fews s f).take f) else shtU s d (f + 1)
abbrev sht (s : Sea) : Option (List Nat) := shtU s s.pl.length 1
theorem shtU_none {s : Sea} : ∀ {d f : Nat}, shtU s d f = none ↔ ∀ g, f ≤ g → g < f + d → (fews s g).length < g
  | 0, f => by simp only [shtU, true_iff]; intro g h1 h2; omega
  | d + 1, f => by
    rw [shtU]
    by_cases h : f ≤ (fews s f).length
    · rw [if_pos h]
      constructor
      · intro e; cases e
      · intro h'; have := h' f (Nat.le_refl _) (by omega); omega
    · rw [if_neg h, shtU_none]
      constructor
      · intro h' g h1 h2
        by_cases e : g = f
        · subst e; omega
        · exact h' g (by omega) (by omega)
      · intro h' g h1 h2; exact h' g (by omega) (by omega)
theorem shtU_some {s : Sea} : ∀ {d f : Nat} {l : List Nat}, shtU s d f = some l → ∃ g, f ≤ g ∧ g < f + d ∧ g ≤ (fews s g).length ∧ l = (fews s g).take g ∧ ∀ g', f ≤ g' → g' < g → (fews s g').length < g'
  | 0, f, l, h => by simp [shtU] at h
  | d + 1, f, l, h => by
    rw [shtU] at h
    by_cases c : f ≤ (fews s f).length
    · rw [if_pos c] at h; cases h; exact ⟨f, Nat.le_refl _, by omega, c, rfl, fun g h1 h2 => by omega⟩
    · rw [if_neg c] at h
      obtain ⟨g, h1, h2, h3, h4, h5⟩ := shtU_some h
      refine ⟨g, by omega, by omega, h3, h4, fun g' a b => ?_⟩
      by_cases e : g' = f
      · subst e; omega
      · exact h5 g' (by omega) b
theorem sht_crew {s : Sea} : sht s = none ↔ ∃ l, isCr s l ∧ fts s l = true := by
  rw [shtU_none, crew_iff]
  constructor
  · intro h f h1 h2; exact h f h1 (by omega)
  · intro h f h1 h2; exact h f h1 (by omega)
end Go.Proofs.Ytdmhbefdidmliaa.S

/-
Who is short, as the specification looks for it: all lists of places, the least first.
-/
namespace Go.Proofs.Ytdmhbefdidmliaa.S
set_option linter.unusedSimpArgs false
set_option linter.unusedVariables false

/-- how many boats can carry so much -/
def canN (s : Sea) (x : Int) : Nat := (s.bo.filter fun b => decide (x ≤ b.c)).length
theorem filt_range {α : Type} [Inhabited α] {q : α → Bool} : ∀ {l : List α}, ((List.range l.length).filter fun i => q (l.getD i default)).length = (l.filter q).length := by
  intro l
  refine snocRec (fun l => ((List.range l.length).filter fun i => q (l.getD i default)).length = (l.filter q).length) l rfl ?_
  intro l c ih
  rw [List.length_append, List.length_singleton, List.range_succ, List.filter_append, List.filter_append, List.length_append, List.length_append, ← ih]
  congr 1
  · congr 1
    apply List.filter_congr
    intro i hi
    rw [List.mem_range] at hi
    simp only [List.getD_eq_getElem?_getD, List.getElem?_append_left hi]
  · simp only [List.filter_cons, List.filter_nil, List.getD_eq_getElem?_getD, List.getElem?_concat_length, Option.getD_some]
    split <;> rfl
theorem abs_can {s : Sea} {p : Nat} : abs s p = canN s (needv s p) := filt_range (q := fun b : Bt => decide (needv s p ≤ b.c))
theorem canN_mono {s : Sea} {x y : Int} (h : x ≤ y) : canN s y ≤ canN s x := filter_sub fun b _ hb => by simp only [decide_eq_true_eq] at hb ⊢; omega
theorem canN_le {s : Sea} {x : Int} : canN s x ≤ s.bo.length := List.length_filter_le _ _

/-- the least need of some places -/
def leaU (s : Sea) (L : List Int) : Nat → Int
  | 0 => needv s (L.getD 0 0).toNat
  | k + 1 => mn (leaU s L k) (needv s (L.getD k 0).toNat)
abbrev lea (s : Sea) (L : List Int) : Int := leaU s L L.length
theorem leaU_le {s : Sea} {L : List Int} : ∀ {k i : Nat}, i < k → leaU s L k ≤ needv s (L.getD i 0).toNat
  | 0, i, h => by omega
  | k + 1, i, h => by
    by_cases e : i = k
    · subst e; exact mn_le2
    · exact Int.le_trans mn_le1 (leaU_le (k := k) (by omega))
theorem leaU_at {s : Sea} {L : List Int} (h0 : 0 < L.length) : ∀ {k : Nat}, k ≤ L.length → ∃ i, i < L.length ∧ leaU s L k = needv s (L.getD i 0).toNat
  | 0, _ => ⟨0, h0, rfl⟩
  | k + 1, h => by
    rw [leaU]
    rcases mn_or (x := leaU s L k) (y := needv s (L.getD k 0).toNat) with e | e
    · rw [e]; exact leaU_at h0 (by omega)
    · rw [e]; exact ⟨k, by omega, rfl⟩
theorem can_lea {s : Sea} {L : List Int} (h0 : 0 < L.length) {m : Nat} : canN s (lea s L) < m ↔ ∀ x ∈ L, abs s x.toNat < m := by
  constructor
  · intro h x hx
    obtain ⟨i, hi, rfl⟩ := mem_getD (d := 0) hx
    rw [abs_can]
    exact Nat.lt_of_le_of_lt (canN_mono (leaU_le hi)) h
  · intro h
    obtain ⟨i, hi, e⟩ := leaU_at (s := s) h0 (Nat.le_refl L.length)
    rw [lea, e, ← abs_can]
    exact h _ (by rw [List.getD_eq_getElem?_getD, List.getElem?_eq_getElem hi]; exact List.getElem_mem hi)

/-- strictly ascending, from 0 to below an end -/
def ris (k : Nat) (l : List Int) : Prop := (∀ x ∈ l, 0 ≤ x ∧ x < k) ∧ l.Pairwise (· < ·)
def frm (F : List Int) : Nat := if F.length = 0 then 0 else (F.getD (F.length - 1) 0).toNat + 1
def asc (k : Nat) : Nat → List Int → List (List Int)
  | 0, F => [F]
  | d + 1, F => (List.range' (frm F) (k - frm F)).flatMap fun (n : Nat) => asc k d (F ++ [(n : Int)])
theorem ris_snoc {k : Nat} {F : List Int} {x : Int} : ris k (F ++ [x]) ↔ ris k F ∧ ((frm F : Nat) : Int) ≤ x ∧ x < k := by
  have e : ris k F → (((frm F : Nat) : Int) ≤ x ↔ 0 ≤ x ∧ ∀ y ∈ F, y < x) := by
    intro hF
    unfold frm
    split
    · rename_i h
      rw [List.eq_nil_of_length_eq_zero h]; simp
    · rename_i h
      have hl : F.length - 1 < F.length := by omega
      have hm : F.getD (F.length - 1) 0 ∈ F := by rw [List.getD_eq_getElem?_getD, List.getElem?_eq_getElem hl]; exact List.getElem_mem hl
      have h0 := hF.1 _ hm
      constructor
      · intro hx
        refine ⟨by omega, fun y hy => ?_⟩
        obtain ⟨i, hi, rfl⟩ := mem_getD (d := 0) hy
        by_cases c : i = F.length - 1
        · subst c; omega
        · have := List.pairwise_iff_getElem.1 hF.2 i (F.length - 1) hi hl (by omega)
          simp only [List.getD_eq_getElem?_getD, List.getElem?_eq_getElem hi, List.getElem?_eq_getElem hl, Option.getD_some] at hx h0 ⊢
          omega
      · rintro ⟨_, h2⟩
        have := h2 _ hm
        omega
  simp only [ris, List.mem_append, List.mem_singleton, List.pairwise_append, List.pairwise_cons, List.not_mem_nil, false_implies, implies_true, List.Pairwise.nil, and_true, true_and, forall_eq]
  constructor
  · rintro ⟨h1, h2, h3⟩
    have hF : ris k F := ⟨fun y hy => h1 y (.inl hy), h2⟩
    have := h1 x (.inr rfl)
    exact ⟨hF, (e hF).2 ⟨this.1, fun y hy => h3 y hy⟩, this.2⟩
  · rintro ⟨hF, h2, h3⟩
    have := (e hF).1 h2
    refine ⟨fun y hy => ?_, hF.2, fun y hy => this.2 y hy⟩
    rcases hy with hy | rfl
    · exact hF.1 y hy
    · exact ⟨this.1, h3⟩
theorem mem_asc {k : Nat} : ∀ {d : Nat} {F G : List Int}, ris k F → (G ∈ asc k d F ↔ ris k G ∧ ∃ T, G = F ++ T ∧ T.length = d)
  | 0, F, G, h => by
    simp only [asc, List.mem_singleton]
    constructor
    · rintro rfl; exact ⟨h, [], by simp, rfl⟩
    · rintro ⟨_, T, rfl, ht⟩; rw [List.eq_nil_of_length_eq_zero ht, List.append_nil]
  | d + 1, F, G, h => by
    simp only [asc, List.mem_flatMap, List.mem_range'_1]
    constructor
    · rintro ⟨b, hb, hg⟩
      obtain ⟨hp, T, rfl, ht⟩ := (mem_asc (ris_snoc.2 ⟨h, by omega, by omega⟩)).1 hg
      exact ⟨hp, (b : Int) :: T, by simp, by simp [ht]⟩
    · rintro ⟨hp, T, rfl, ht⟩
      match T, ht with
      | x :: T, ht =>
        have e : F ++ x :: T = (F ++ [x]) ++ T := by simp
        have hx : ris k (F ++ [x]) := by
          rw [e] at hp
          exact ⟨fun y hy => hp.1 y (List.mem_append_left _ hy), (List.pairwise_append.1 hp.2).1⟩
        have h3 := ris_snoc.1 hx
        refine ⟨x.toNat, by omega, ?_⟩
        rw [show ((x.toNat : Nat) : Int) = x by omega]
        exact (mem_asc hx).2 ⟨hp, T, by simp, by simpa using ht⟩
theorem asc_sorted {k : Nat} : ∀ {d : Nat} {F : List Int}, (asc k d F).Pairwise fun x y => ear x y = true
  | 0, F => by simp [asc]
  | d + 1, F => by
    rw [asc, List.pairwise_flatMap]
    refine ⟨fun b hb => asc_sorted, ?_⟩
    refine (List.pairwise_lt_range' (s := frm F) (n := k - frm F)).imp ?_
    intro a b hab x hx y hy
    have pre : ∀ {d : Nat} {F G : List Int}, G ∈ asc k d F → ∃ T, G = F ++ T := by
      intro d
      induction d with
      | zero => intro F G h; simp [asc] at h; exact ⟨[], by simp [h]⟩
      | succ d ih =>
        intro F G h
        simp only [asc, List.mem_flatMap] at h
        obtain ⟨b, _, h⟩ := h
        obtain ⟨T, rfl⟩ := ih h
        exact ⟨(b : Int) :: T, by simp⟩
    obtain ⟨T, rfl⟩ := pre hx
    obtain ⟨U, rfl⟩ := pre hy
    rw [List.append_assoc, List.append_assoc, ear_app]
    simp only [List.cons_append, List.nil_append, ear]
    rw [if_pos (by omega)]; simp; omega
theorem asc_len {k : Nat} : ∀ {d : Nat} {F : List Int}, (asc k d F).length ≤ k ^ d
  | 0, F => by simp [asc]
  | d + 1, F => by
    have : ∀ l : List Nat, (l.flatMap fun (b : Nat) => asc k d (F ++ [(b : Int)])).length ≤ l.length * k ^ d := by
      intro l
      induction l with
      | nil => simp
      | cons a l il =>
        have := asc_len (k := k) (d := d) (F := F ++ [(a : Int)])
        simp only [List.flatMap_cons, List.length_append, List.length_cons, Nat.succ_mul]; omega
    have h1 := this (List.range' (frm F) (k - frm F))
    rw [List.length_range'] at h1
    have h2 := Nat.mul_le_mul_right (k ^ d) (Nat.sub_le k (frm F))
    rw [asc, Nat.pow_succ, Nat.mul_comm]; omega

/-- of ascending lists out of an ascending one its beginning is the least -/
theorem take_least : ∀ {S L : List Int}, S.Pairwise (· < ·) → L.Pairwise (· < ·) → (∀ x ∈ L, x ∈ S) → L.length ≤ S.length ∧ ear L (S.take L.length) = false
  | S, [], _, _, _ => by simp [ear]
  | [], x :: L, _, _, h => by have := h x (by simp); simp at this
  | a :: S, x :: L, hS, hL, h => by
    rw [List.pairwise_cons] at hS hL
    by_cases e : x = a
    · subst e
      have := take_least (S := S) (L := L) hS.2 hL.2 fun y hy => by
        rcases List.mem_cons.1 (h y (by simp [hy])) with rfl | hm
        · have := hL.1 y hy; omega
        · exact hm
      refine ⟨by simp; exact this.1, ?_⟩
      simp only [List.length_cons, List.take_succ_cons, ear, ne_eq, not_true_eq_false, if_false]
      exact this.2
    · have hx : x ∈ S := by
        rcases List.mem_cons.1 (h x (by simp)) with hm | hm
        · exact absurd hm e
        · exact hm
      have hax := hS.1 x hx
      constructor
      · have nd : (x :: L).Nodup := by
          rw [List.Nodup, List.pairwise_cons]
          exact ⟨fun y hy => by have := hL.1 y hy; omega, hL.2.imp fun {a b} h => by omega⟩
        have := nodup_le (l := x :: L) (m := S) nd fun y hy => by
          rcases List.mem_cons.1 (h y hy) with rfl | hm
          · rcases List.mem_cons.1 hy with rfl | hy
            · omega
            · have := hL.1 y hy; omega
          · exact hm
        simp only [List.length_cons] at this ⊢; omega
      · simp only [List.length_cons, List.take_succ_cons, ear]
        rw [if_pos e]; simp; omega

/-- the numbers of places, as integers -/
def ofN (l : List Nat) : List Int := l.map fun (n : Nat) => (n : Int)
theorem fewsI {s : Sea} {f : Nat} : (ofN (fews s f)).Pairwise (· < ·) ∧ ∀ x : Int, x ∈ ofN (fews s f) ↔ 0 ≤ x ∧ x < s.pl.length ∧ abs s x.toNat < f := by
  constructor
  · unfold ofN fews
    rw [List.pairwise_map]
    exact (List.pairwise_lt_range.sublist List.filter_sublist).imp fun {a b} h => by omega
  · intro x
    simp only [ofN, fews, List.mem_map, List.mem_filter, List.mem_range, decide_eq_true_eq]
    constructor
    · rintro ⟨a, ⟨h1, h2⟩, rfl⟩; exact ⟨by omega, by omega, by simpa using h2⟩
    · rintro ⟨h1, h2, h3⟩; exact ⟨x.toNat, ⟨by omega, h3⟩, by omega⟩
/-- some places: is it so that too few boats can carry their least need? -/
def shB (s : Sea) (m : Nat) (L : List Int) : Bool := decide (canN s (lea s L) < m)
theorem shB_iff {s : Sea} {L : List Int} (hL : ris s.pl.length L) (h0 : 0 < L.length) {m : Nat} : shB s m L = true ↔ ∀ x ∈ L, x ∈ ofN (fews s m) := by
  rw [shB, decide_eq_true_eq, can_lea h0]
  constructor
  · intro h x hx; exact (fewsI.2 x).2 ⟨(hL.1 x hx).1, (hL.1 x hx).2, h x hx⟩
  · intro h x hx; exact ((fewsI.2 x).1 (h x hx)).2.2
theorem ofN_take {l : List Nat} {f : Nat} : ofN (l.take f) = (ofN l).take f := by simp [ofN, List.map_take]
theorem ofN_len {l : List Nat} : (ofN l).length = l.length := by simp [ofN]
theorem take_ris {s : Sea} {f : Nat} : ris s.pl.length ((ofN (fews s f)).take f) ∧ ∀ x ∈ (ofN (fews s f)).take f, x ∈ ofN (fews s f) := by
  refine ⟨⟨fun x hx => ?_, fewsI.1.sublist (List.take_sublist _ _)⟩, fun x hx => List.mem_of_mem_take hx⟩
  have := (fewsI.2 x).1 (List.mem_of_mem_take hx)
  exact ⟨this.1, this.2.1⟩
/-- the first list that is short: what the specification finds among all of a length -/
theorem find_short {s : Sea} {f : Nat} (h1 : 1 ≤ f) {l : List (List Int)} (hl : l = asc s.pl.length f []) {i : Nat} (hi : i < l.length) (hs : shB s f (l.getD i []) = true) (hb : ∀ j, j < i → shB s f (l.getD j []) = false) :
    f ≤ (fews s f).length ∧ l.getD i [] = ofN ((fews s f).take f) := by
  have r0 : ris s.pl.length [] := ⟨by simp, List.Pairwise.nil⟩
  have hm : l.getD i [] ∈ l := by rw [List.getD_eq_getElem?_getD, List.getElem?_eq_getElem hi]; exact List.getElem_mem hi
  have hm' := hm
  rw [hl] at hm'
  obtain ⟨hr, T, hT, hT2⟩ := (mem_asc r0).1 hm'
  rw [← hl] at hT hr
  have hlen : (l.getD i []).length = f := by rw [hT]; simpa using hT2
  have hin := (shB_iff hr (by omega)).1 hs
  obtain ⟨t1, t2⟩ := take_least fewsI.1 hr.2 hin
  rw [hlen, ofN_len] at t1
  rw [hlen] at t2
  refine ⟨t1, ?_⟩
  rw [ofN_take]
  have tl : ((ofN (fews s f)).take f).length = f := by rw [List.length_take, ofN_len]; omega
  have tm : (ofN (fews s f)).take f ∈ l := by rw [hl]; exact (mem_asc r0).2 ⟨take_ris.1, _, by simp, tl⟩
  obtain ⟨j, hj, e⟩ := mem_getD (d := []) tm
  have tg : shB s f ((ofN (fews s f)).take f) = true := (shB_iff take_ris.1 (by omega)).2 take_ris.2
  by_cases c : j < i
  · have := hb j c; rw [e, tg] at this; cases this
  · by_cases c2 : j = i
    · rw [← c2, e]
    · have hsrt : l.Pairwise fun x y => ear x y = true := by rw [hl]; exact asc_sorted
      have := List.pairwise_iff_getElem.1 hsrt i j hi hj (by omega)
      rw [List.getD_eq_getElem?_getD, List.getElem?_eq_getElem hj] at e
      rw [List.getD_eq_getElem?_getD, List.getElem?_eq_getElem hi] at t2
      simp only [Option.getD_some] at e t2
      rw [e, t2] at this; cases this
theorem find_none {s : Sea} {f : Nat} (h1 : 1 ≤ f) (hb : ∀ L ∈ asc s.pl.length f [], shB s f L = false) : (fews s f).length < f := by
  apply Nat.lt_of_not_ge
  intro h
  have r0 : ris s.pl.length [] := ⟨by simp, List.Pairwise.nil⟩
  have tl : ((ofN (fews s f)).take f).length = f := by rw [List.length_take, ofN_len]; omega
  have := hb ((ofN (fews s f)).take f) ((mem_asc r0).2 ⟨take_ris.1, _, by simp, tl⟩)
  rw [(shB_iff take_ris.1 (by omega)).2 take_ris.2] at this
  cases this
end Go.Proofs.Ytdmhbefdidmliaa.S

/-
One boat more, a stronger boat, a narrower span, another order, an exchange: what becomes of crews.
-/
namespace Go.Proofs.Ytdmhbefdidmliaa.S
set_option linter.unusedSimpArgs false
set_option linter.unusedVariables false

def chp (s : Sea) : Int := match crew s with
  | none => 10000
  | some l => cst s l
def mosv (s : Sea) : Int := if s.bo.length < s.pl.length then -1 else most s
theorem cst_le {s : Sea} (H : SeaG s) {l : List Int} (hl : l.length = s.pl.length) : 0 ≤ cst s l ∧ cst s l ≤ 396 := by
  have := cstU_le H (l := l) (k := l.length)
  have := H.sp.le
  unfold cst; omega
/-- where each crew of one sea has a crew of another one that is not worse -/
theorem better {s o : Sea} (H : SeaG s) (H' : SeaG o) (h : ∀ l, isCr s l → ∃ m, isCr o m ∧ (fts s l = true → fts o m = true) ∧ cst o m ≤ cst s l ∧ lft s l ≤ lft o m) : chp o ≤ chp s ∧ most s ≤ most o := by
  constructor
  · unfold chp
    cases hs : crew s with
    | none =>
      cases ho : crew o with
      | none => exact Int.le_refl _
      | some x =>
        have := (cst_le H' (crew_some ho).1.1).2
        show cst o x ≤ 10000
        omega
    | some l =>
      obtain ⟨h1, h2, _⟩ := crew_some hs
      obtain ⟨m, m1, m2, m3, _⟩ := h l h1
      cases ho : crew o with
      | none => have := crew_none.1 ho m m1; rw [m2 h2] at this; cases this
      | some x =>
        have := ((crew_some ho).2.2 m m1 (m2 h2)).1
        show cst o x ≤ cst s l
        omega
  · refine mst_le mst_ge.1 fun c hc => ?_
    obtain ⟨m, m1, _, _, m4⟩ := h c (mem_crws.1 hc)
    exact Int.le_trans m4 (mst_ge.2 m (mem_crws.2 m1))

theorem lftU_congr {s o : Sea} {l m : List Int} : ∀ {k : Nat}, (∀ i, i < k → brs s.pl (boat s (l.getD i 0)).c i ≤ brs o.pl (boat o (m.getD i 0)).c i) → lftU s l k ≤ lftU o m k
  | 0, _ => Int.le_refl _
  | k + 1, h => le_mn (Int.le_trans mn_le1 (lftU_congr fun i hi => h i (by omega))) (Int.le_trans mn_le2 (h k (by omega)))
theorem cstU_congr {s o : Sea} {l m : List Int} : ∀ {k : Nat}, (∀ i, i < k → (boat o (m.getD i 0)).p = (boat s (l.getD i 0)).p) → cstU o m k = cstU s l k
  | 0, _ => rfl
  | k + 1, h => by rw [cstU, cstU, cstU_congr fun i hi => h i (by omega), h k (by omega)]
theorem brs_mono {L : List Spn} (H : SpOk L) {p : Nat} (hp : p < L.length) {c d : Int} (h0 : 0 ≤ c) (h : c ≤ d) : brs L c p ≤ brs L d p :=
  (le_brs H hp (by omega) brs_le).2 (by have := (le_brs H hp h0 brs_le).1 (Int.le_refl _); omega)
theorem isCr_at {s : Sea} {l : List Int} (h : isCr s l) {i : Nat} (hi : i < l.length) : 0 ≤ l.getD i 0 ∧ l.getD i 0 < s.bo.length :=
  h.2.1 _ (by rw [List.getD_eq_getElem?_getD, List.getElem?_eq_getElem hi]; exact List.getElem_mem hi)

/-- other boats, of which each old one can carry no less, for the same pence -/
theorem better_boats {s o : Sea} (H : SeaG s) (H' : SeaG o) (hw : o.w = s.w) (hp : o.pl = s.pl) (hl : s.bo.length ≤ o.bo.length) (hb : ∀ x : Int, 0 ≤ x → x < s.bo.length → (boat s x).c ≤ (boat o x).c ∧ (boat o x).p = (boat s x).p) : chp o ≤ chp s ∧ most s ≤ most o := by
  refine better H H' fun l h => ⟨l, ⟨by rw [hp]; exact h.1, fun x hx => ?_, h.2.2⟩, fun hf => ?_, ?_, ?_⟩
  · have := h.2.1 x hx; omega
  · rw [fts_iff] at hf ⊢
    intro i hi
    have := hf i hi
    have e : needv o i = needv s i := by unfold needv; rw [hw, hp]
    have := (hb _ (isCr_at h hi).1 (isCr_at h hi).2).1
    rw [e]; omega
  · unfold cst
    rw [cstU_congr (s := s) (o := o) (l := l) (m := l) (k := l.length) fun i hi => (hb _ (isCr_at h hi).1 (isCr_at h hi).2).2]
    exact Int.le_refl _
  · refine lftU_congr fun i hi => ?_
    rw [hp]
    exact brs_mono H.sp (by have := h.1; omega) (boat_ok H _).1 (hb _ (isCr_at h hi).1 (isCr_at h hi).2).1
theorem better_more {s : Sea} {b : Bt} (H : SeaG s) (H' : SeaG ⟨s.w, s.pl, s.bo ++ [b]⟩) : chp ⟨s.w, s.pl, s.bo ++ [b]⟩ ≤ chp s ∧ mosv s ≤ mosv ⟨s.w, s.pl, s.bo ++ [b]⟩ := by
  have := better_boats H H' rfl rfl (by simp) fun x h0 h1 => by
    have e : boat ⟨s.w, s.pl, s.bo ++ [b]⟩ x = boat s x := by
      simp only [boat, List.getD_eq_getElem?_getD]
      rw [List.getElem?_append_left (by omega)]
    rw [e]; exact ⟨Int.le_refl _, rfl⟩
  refine ⟨this.1, ?_⟩
  have := this.2
  have m := most_le (s := ⟨s.w, s.pl, s.bo ++ [b]⟩)
  unfold mosv
  simp only [List.length_append, List.length_singleton]
  split <;> split <;> omega
/-- a boat that can carry one pound more -/
def strg (s : Sea) (b : Nat) : Sea := ⟨s.w, s.pl, s.bo.set b ⟨(s.bo.getD b default).c + 1, (s.bo.getD b default).p⟩⟩
theorem better_strg {s : Sea} {b : Nat} (H : SeaG s) (H' : SeaG (strg s b)) : chp (strg s b) ≤ chp s ∧ mosv s ≤ mosv (strg s b) := by
  have := better_boats H H' rfl rfl (by simp [strg]) fun x h0 h1 => by
    simp only [boat, strg, List.getD_eq_getElem?_getD]
    by_cases e : b = x.toNat
    · subst e; rw [List.getElem?_set_self (by omega)]; simp only [Option.getD_some]; exact ⟨by omega, trivial⟩
    · rw [List.getElem?_set_ne e]; exact ⟨Int.le_refl _, rfl⟩
  refine ⟨this.1, ?_⟩
  have := this.2
  have m := most_le (s := strg s b)
  unfold mosv
  have e1 : (strg s b).bo.length = s.bo.length := by simp [strg]
  have e2 : (strg s b).pl = s.pl := rfl
  rw [e1, e2]
  split <;> omega

/-! a narrower span -/
theorem set_shH {L : List Spn} {p q : Nat} {x : Spn} (hp : p < L.length) (hq : q < L.length) (h1 : (L.getD p default).lo ≤ x.lo) (h2 : x.hi ≤ (L.getD p default).hi) : shH (L.set p x) q ≤ shH L q := by
  obtain ⟨e1, e2⟩ := set_slo (s := x) hp
  unfold shH
  rw [e1]
  by_cases c : p = q
  · subst c
    have e : (L.set p x).getD p default = x := by simp [List.getD_eq_getElem?_getD, List.getElem?_set_self hp]
    rw [e]
    exact le_mn (Int.le_trans mn_le1 h2) (Int.le_trans mn_le2 (by omega))
  · have e : (L.set p x).getD q default = L.getD q default := by simp [List.getD_eq_getElem?_getD, List.getElem?_set_ne c]
    rw [e]
    exact le_mn mn_le1 (Int.le_trans mn_le2 (by omega))
theorem need_mono {s o : Sea} {q : Nat} (h0 : 0 ≤ o.w.hi) (hw : o.w.hi ≤ s.w.hi) (h1 : 0 ≤ shH o.pl q) (h : shH o.pl q ≤ shH s.pl q) : needv o q ≤ needv s q := by
  have := Int.mul_le_mul hw h h1 (by omega)
  unfold needv; omega

/-! another order -/
def rot {α : Type} (l : List α) (n : Nat) : List α := l.drop n ++ l.take n
theorem rot_len {α : Type} {l : List α} {n : Nat} : (rot l n).length = l.length := by simp [rot]; omega
theorem rot_at {α : Type} {l : List α} {n i : Nat} {d : α} (hn : n < l.length) (hi : i < l.length) : (rot l n).getD i d = l.getD ((i + n) % l.length) d := by
  simp only [rot, List.getD_eq_getElem?_getD]
  by_cases c : i + n < l.length
  · rw [List.getElem?_append_left (by simp; omega), List.getElem?_drop, Nat.mod_eq_of_lt c, Nat.add_comm]
  · rw [List.getElem?_append_right (by simp; omega), List.length_drop, List.getElem?_take_of_lt (by omega), Nat.mod_eq_sub_mod (by omega), Nat.mod_eq_of_lt (by omega)]
    congr 2; omega
theorem slo_app {a b : List Spn} : slo (a ++ b) = slo a + slo b ∧ shi (a ++ b) = shi a + shi b := by simp only [slo, shi, List.map_append, sm_app, and_self]
theorem rot_slo {l : List Spn} {n : Nat} : slo (rot l n) = slo l ∧ shi (rot l n) = shi l := by
  have e := @slo_app (l.take n) (l.drop n)
  rw [List.take_append_drop] at e
  have f := @slo_app (l.drop n) (l.take n)
  unfold rot; omega
theorem rot_shH {L : List Spn} {n i : Nat} (hn : n < L.length) (hi : i < L.length) : shH (rot L n) i = shH L ((i + n) % L.length) := by
  unfold shH; rw [rot_slo.1, rot_at hn hi]
theorem cst_sm {s : Sea} {l : List Int} : ∀ {k : Nat}, k ≤ l.length → cstU s l k = sm ((l.take k).map fun x => (boat s x).p)
  | 0, _ => by simp [cstU, sm]
  | k + 1, h => by
    have hk : k < l.length := by omega
    rw [cstU, cst_sm (by omega), List.take_succ_eq_append_getElem hk, List.map_append, sm_app]
    simp [sm, List.getD_eq_getElem?_getD, hk]
theorem cst_map {s : Sea} {l : List Int} : cst s l = sm (l.map fun x => (boat s x).p) := by
  unfold cst; rw [cst_sm (Nat.le_refl _), List.take_length]
theorem rot_rot {α : Type} {l : List α} {n : Nat} (hn : n < l.length) : rot (rot l n) ((l.length - n) % l.length) = l := by
  by_cases e : n = 0
  · subst e; simp [rot]
  · rw [Nat.mod_eq_of_lt (by omega)]
    have h1 : (l.drop n).length = l.length - n := by simp
    unfold rot
    rw [← h1, List.drop_left, List.take_left, List.take_append_drop]
theorem rot_perm {α : Type} {l : List α} {n : Nat} : List.Perm (rot l n) l := by
  unfold rot
  exact (List.perm_append_comm).trans (by rw [List.take_append_drop])
def rots (s : Sea) (a b : Nat) : Sea := ⟨s.w, rot s.pl a, rot s.bo b⟩
theorem rots_ok {s : Sea} (H : SeaG s) {a b : Nat} : SeaG (rots s a b) where
  sp := ⟨by show (rot _ _).length ≤ 4; rw [rot_len]; exact H.sp.le, fun x hx => H.sp.s x (rot_perm.mem_iff.1 hx), by show slo (rot _ _) ≤ 12; rw [rot_slo.1]; exact H.sp.lo, by show 12 ≤ shi (rot _ _); rw [rot_slo.2]; exact H.sp.hi⟩
  w0 := H.w0
  w1 := H.w1
  w2 := H.w2
  nb := by show (rot _ _).length ≤ 6; rw [rot_len]; exact H.nb
  b := fun x hx => H.b x (rot_perm.mem_iff.1 hx)
theorem mod_back {a n m : Nat} (hm : 0 < m) (ha : a < m) (hn : n < m) : ((a + (m - n)) % m + n) % m = a := by
  rw [Nat.add_mod, Nat.mod_mod, ← Nat.add_mod, show a + (m - n) + n = a + m by omega, Nat.add_mod_right, Nat.mod_eq_of_lt ha]
theorem better_rots {s : Sea} (H : SeaG s) {a b : Nat} (ha : a < s.pl.length) (hb : b < s.bo.length ∨ s.bo.length = 0) : chp (rots s a b) ≤ chp s ∧ most s ≤ most (rots s a b) := by
  have H' := rots_ok H (a := a) (b := b)
  refine better H H' fun l h => ?_
  have hl := h.1
  have hne : 0 < s.bo.length := by
    have := isCr_at h (i := 0) (by omega); omega
  have hb' : b < s.bo.length := by omega
  obtain ⟨f, hf⟩ : ∃ f : Int → Int, f = fun x => (((x.toNat + (s.bo.length - b)) % s.bo.length : Nat) : Int) := ⟨_, rfl⟩
  have f1 : ∀ x : Int, 0 ≤ x → x < s.bo.length → (0 ≤ f x ∧ f x < s.bo.length) ∧ boat (rots s a b) (f x) = boat s x := by
    intro x h0 h1
    have hm := Nat.mod_lt (x.toNat + (s.bo.length - b)) hne
    subst hf
    refine ⟨⟨by dsimp only; omega, by dsimp only; omega⟩, ?_⟩
    simp only [boat, rots, Int.toNat_natCast]
    rw [rot_at hb' hm, mod_back hne (by omega) hb']
  have f2 : ∀ x y : Int, 0 ≤ x → x < s.bo.length → 0 ≤ y → y < s.bo.length → f x = f y → x = y := by
    intro x y h0 h1 h2 h3 e
    subst hf
    have e' : (x.toNat + (s.bo.length - b)) % s.bo.length = (y.toNat + (s.bo.length - b)) % s.bo.length := by
      simp only at e; omega
    have a1 := mod_back hne (a := x.toNat) (by omega) hb'
    have a2 := mod_back hne (a := y.toNat) (by omega) hb'
    rw [e'] at a1; omega
  obtain ⟨m, hm⟩ : ∃ m, m = (rot l a).map f := ⟨_, rfl⟩
  have ml : m.length = s.pl.length := by rw [hm, List.length_map, rot_len, hl]
  have mat : ∀ i, i < s.pl.length → m.getD i 0 = f (l.getD ((i + a) % s.pl.length) 0) := by
    intro i hi
    have := rot_at (l := l) (n := a) (i := i) (d := 0) (by omega) (by omega)
    rw [hl] at this
    rw [← this, hm]
    have hi' : i < (rot l a).length := by rw [rot_len]; omega
    simp [List.getD_eq_getElem?_getD, hi']
  have hpos : 0 < s.pl.length := by omega
  have mb : ∀ i, i < s.pl.length → boat (rots s a b) (m.getD i 0) = boat s (l.getD ((i + a) % s.pl.length) 0) := by
    intro i hi
    rw [mat i hi]
    have := isCr_at h (i := (i + a) % s.pl.length) (by rw [hl]; exact Nat.mod_lt _ hpos)
    exact (f1 _ this.1 this.2).2
  refine ⟨m, ⟨by rw [ml]; show _ = (rot _ _).length; rw [rot_len], fun x hx => ?_, ?_⟩, fun hfs => ?_, ?_, ?_⟩
  · rw [hm] at hx
    obtain ⟨y, hy, rfl⟩ := List.mem_map.1 hx
    have := h.2.1 y (rot_perm.mem_iff.1 hy)
    show _ ∧ _ < (((rot _ _).length : Nat) : Int)
    rw [rot_len]
    exact (f1 y this.1 this.2).1
  · rw [hm, List.Nodup, List.pairwise_map]
    have nd : (rot l a).Nodup := rot_perm.nodup_iff.2 h.2.2
    refine nd.imp_of_mem ?_
    intro x y hx hy hxy e
    have h1 := h.2.1 x (rot_perm.mem_iff.1 hx)
    have h2 := h.2.1 y (rot_perm.mem_iff.1 hy)
    exact hxy (f2 x y h1.1 h1.2 h2.1 h2.2 e)
  · rw [fts_iff] at hfs ⊢
    intro i hi
    rw [ml] at hi
    rw [mb i hi]
    have e : needv (rots s a b) i = needv s ((i + a) % s.pl.length) := by
      unfold needv; show (s.w.hi * shH (rot s.pl a) i + 11) / 12 = _; rw [rot_shH ha hi]
    rw [e]
    exact hfs _ (by rw [hl]; exact Nat.mod_lt _ hpos)
  · rw [cst_map, cst_map]
    have e : (m.map fun x => (boat (rots s a b) x).p) = rot (l.map fun x => (boat s x).p) a := by
      have e1 : rot (l.map fun x => (boat s x).p) a = (rot l a).map fun x => (boat s x).p := by simp [rot, List.map_drop, List.map_take]
      rw [e1, hm, List.map_map]
      apply List.map_congr_left
      intro x hx
      have := h.2.1 x (rot_perm.mem_iff.1 hx)
      show (boat (rots s a b) (f x)).p = _
      rw [(f1 x this.1 this.2).2]
    rw [e]
    have e2 : sm (rot (l.map fun x => (boat s x).p) a) = sm (l.map fun x => (boat s x).p) := by
      have g := @sm_app ((l.map fun x => (boat s x).p).take a) ((l.map fun x => (boat s x).p).drop a)
      rw [List.take_append_drop] at g
      unfold rot; rw [sm_app]; omega
    omega
  · refine (le_lft H' (by rw [ml]; show _ = (rot _ _).length; rw [rot_len]) lftU_le).2 fun i hi => ?_
    have hi' : i < s.pl.length := by
      have : (rots s a b).pl.length = s.pl.length := rot_len
      omega
    rw [mb i hi']
    show _ * shH (rot s.pl a) i ≤ _
    rw [rot_shH ha hi']
    exact (le_lft H hl lftU_le).1 (Int.le_refl _) _ (Nat.mod_lt _ hpos)
theorem same_rots {s : Sea} (H : SeaG s) {a b : Nat} (ha : a < s.pl.length) (hb : b < s.bo.length ∨ s.bo.length = 0) : chp (rots s a b) = chp s ∧ mosv (rots s a b) = mosv s := by
  have h1 := better_rots H ha hb
  have l1 : (rots s a b).pl.length = s.pl.length := rot_len
  have l2 : (rots s a b).bo.length = s.bo.length := rot_len
  have h2 := better_rots (rots_ok H (a := a) (b := b)) (a := (s.pl.length - a) % s.pl.length) (b := (s.bo.length - b) % s.bo.length) (by rw [l1]; exact Nat.mod_lt _ (by omega)) (by
    rw [l2]
    rcases hb with hb | hb
    · exact .inl (Nat.mod_lt _ (by omega))
    · exact .inr hb)
  have e : rots (rots s a b) ((s.pl.length - a) % s.pl.length) ((s.bo.length - b) % s.bo.length) = s := by
    obtain ⟨w, pl, bo⟩ := s
    simp only [rots, Sea.mk.injEq, true_and]
    refine ⟨rot_rot ha, ?_⟩
    rcases hb with hb | hb
    · exact rot_rot hb
    · have hb' : bo = [] := List.eq_nil_of_length_eq_zero hb
      subst hb'; simp [rot]
  rw [e] at h2
  refine ⟨by omega, ?_⟩
  unfold mosv
  rw [l1, l2]
  have := h1.2; have := h2.2
  split <;> omega

/-! an exchange -/
def exch (l : List Int) (a b : Nat) : List Int := (l.set a (l.getD b 0)).set b (l.getD a 0)
theorem exch_at {l : List Int} {a b i : Nat} (ha : a < l.length) (hb : b < l.length) (hi : i < l.length) : (exch l a b).getD i 0 = l.getD (if i = b then a else if i = a then b else i) 0 := by
  unfold exch
  simp only [List.getD_eq_getElem?_getD]
  by_cases e1 : b = i
  · subst e1
    rw [List.getElem?_set_self (by simpa using hb), if_pos rfl]; rfl
  · rw [List.getElem?_set_ne e1, if_neg (fun e => e1 e.symm)]
    by_cases e2 : a = i
    · subst e2
      rw [List.getElem?_set_self ha, if_pos rfl]; rfl
    · rw [List.getElem?_set_ne e2, if_neg (fun e => e2 e.symm)]
theorem exch_ok {s : Sea} {l : List Int} (h : isCr s l) {a b : Nat} (ha : a < l.length) (hb : b < l.length) : isCr s (exch l a b) := by
  have el : (exch l a b).length = l.length := by simp [exch]
  have key : ∀ {i : Nat}, i < l.length → (if i = b then a else if i = a then b else i) < l.length := by
    intro i hi; split; exact ha; split; exact hb; exact hi
  refine ⟨by rw [el]; exact h.1, fun x hx => ?_, ?_⟩
  · obtain ⟨i, hi, rfl⟩ := mem_getD (d := 0) hx
    rw [el] at hi
    rw [exch_at ha hb hi]
    exact isCr_at h (key hi)
  · rw [List.Nodup, List.pairwise_iff_getElem]
    intro i j hi hj hij e
    have hi' := hi; have hj' := hj
    rw [el] at hi' hj'
    have e1 : (exch l a b)[i] = (exch l a b).getD i 0 := by rw [List.getD_eq_getElem?_getD, List.getElem?_eq_getElem hi]; rfl
    have e2 : (exch l a b)[j] = (exch l a b).getD j 0 := by rw [List.getD_eq_getElem?_getD, List.getElem?_eq_getElem hj]; rfl
    rw [e1, e2, exch_at ha hb hi', exch_at ha hb hj'] at e
    simp only [List.getD_eq_getElem?_getD, List.getElem?_eq_getElem (key hi'), List.getElem?_eq_getElem (key hj'), Option.getD_some] at e
    have := nodup_inj h.2.2 (key hi') (key hj') e
    split at this <;> split at this <;> (try split at this) <;> (try split at this) <;> omega
end Go.Proofs.Ytdmhbefdidmliaa.S

/-
Seas as values, and the small functions of both sides.
-/
namespace Go.Proofs.Ytdmhbefdidmliaa.S
open Go Go.Am Go.Proofs.Ytdmhbefdidmliaa.T
set_option maxRecDepth 100000
set_option linter.unusedSimpArgs false
set_option linter.unusedVariables false

def Spn.e (s : Spn) : List AV := [I s.lo, I s.hi]
def Bt.e (s : Bt) : List AV := [I s.c, I s.p]
theorem Spn.el (s : Spn) : s.e.length = 2 := rfl
theorem Bt.el (s : Bt) : s.e.length = 2 := rfl
theorem Spn.sc (s : Spn) : s.e.all AV.scalar = true := rfl
theorem Bt.sc (s : Bt) : s.e.all AV.scalar = true := rfl
abbrev intL (n : Int) : List AV := [I n]
theorem intE (n : Int) : (intL n).length = 1 := rfl
theorem intSc (n : Int) : (intL n).all AV.scalar = true := rfl
def slV {α : Type} (esz : Nat) (enc : α → List AV) (l : List α) : AV := .cs esz l.length (l.flatMap enc)
theorem slV_is {α : Type} {esz : Nat} {enc : α → List AV} {l : List α} : IsSl esz enc l (slV esz enc l) := .inl rfl
theorem elem_in {l : List Int} {v : AV} (h : IsSl 1 intL l v) : ∀ i : Int, 0 ≤ i → i < l.length → elemAt 1 v (I i) = some (.cptr [I (l.getD i.toNat 0)]) := elem_sl intE h
theorem elem_sp {l : List Spn} {v : AV} (h : IsSl 2 Spn.e l v) : ∀ i : Int, 0 ≤ i → i < l.length → elemAt 2 v (I i) = some (.cptr [I (l.getD i.toNat default).lo, I (l.getD i.toNat default).hi]) := elem_sl Spn.el h
theorem elem_bt {l : List Bt} {v : AV} (h : IsSl 2 Bt.e l v) : ∀ i : Int, 0 ≤ i → i < l.length → elemAt 2 v (I i) = some (.cptr [I (l.getD i.toNat default).c, I (l.getD i.toNat default).p]) := elem_sl Bt.el h
/-- a list of numbers that is handed over: none at all if it is empty -/
def resL (l : List Int) : AV := if l = [] then .nils else slV 1 intL l
theorem resL_is (l : List Int) : IsSl 1 intL l (resL l) := by
  unfold resL; split
  · exact .inr ⟨rfl, by assumption⟩
  · exact slV_is

theorem gUn {X : Cx} {base : Nat} {k : List KF} {ts : List AV} {h : List AO} {mk : List Nat} {r : List AOper} {d : Option Nat} {w : Bool} {op : AOp} {sl : Option Nat} {m : List Nat} {x : Option (Nat × Bool)} : GG X base .undef w ⟨d, op, x, sl, m⟩ r k ts h mk = GO X base r k (putT ts d .undef) h mk := id rfl

abbrev seaV (s : Sea) (p b : AV) : AV := .agg [I s.w.lo, I s.w.hi, p, b]
structure SeaIn (s : Sea) (p b : AV) : Prop where
  p : IsSl 2 Spn.e s.pl p
  b : IsSl 2 Bt.e s.bo b
structure SeaOk (s : Sea) (p b : AV) : Prop extends SeaIn s p b where
  sp : s.pl.length ≤ 40
  sb : s.bo.length ≤ 41

def spanOk (s : Spn) (m : Int) : Bool := inR s.hi 0 m && inR s.lo 0 s.hi
theorem spanOk_iff {s : Spn} {m : Int} : spanOk s m = true ↔ 0 ≤ s.lo ∧ s.lo ≤ s.hi ∧ s.hi ≤ m := by
  simp only [spanOk, Bool.and_eq_true, inR_iff]; omega

theorem s17 (n lo hi : Int) (st : Bool) : Iso E 17 [I n, I lo, I hi] st = some (Bo (inR n lo hi)) := by
  refine Iso_of (es _ _ _ _) e17 ?_
  simp only [f17, inR]
  simp (disch := first | assumption | omega | (simp only [az]; done)) only [ru, eq_self, if_true, if_false, BEq.rfl, binI, AO.row?, splice, fillL, mmAll, loadV, storeV, zeros, Am.rowAt, Am.part, addOff, Nat.reduceAdd, Nat.reduceMul, Nat.reduceLeDiff, Nat.reduceSub, Nat.reduceLT, Int.reduceEq, Int.reduceLT, Int.reduceLE, Int.reduceGT, Int.reduceGE, Int.reduceAdd, Int.reduceSub, Int.reduceMul, Int.reduceNeg, Int.reduceToNat, reduceCtorEq, reduceIte]
  by_cases h1 : lo ≤ n
  · simp (disch := first | assumption | omega | (simp only [az]; done)) only [ru, eq_self, if_true, if_false, BEq.rfl, binI, AO.row?, splice, fillL, mmAll, loadV, storeV, zeros, Am.rowAt, Am.part, addOff, Nat.reduceAdd, Nat.reduceMul, Nat.reduceLeDiff, Nat.reduceSub, Nat.reduceLT, Int.reduceEq, Int.reduceLT, Int.reduceLE, Int.reduceGT, Int.reduceGE, Int.reduceAdd, Int.reduceSub, Int.reduceMul, Int.reduceNeg, Int.reduceToNat, reduceCtorEq, reduceIte, h1]
  · simp (disch := first | assumption | omega | (simp only [az]; done)) only [ru, eq_self, if_true, if_false, BEq.rfl, binI, AO.row?, splice, fillL, mmAll, loadV, storeV, zeros, Am.rowAt, Am.part, addOff, Nat.reduceAdd, Nat.reduceMul, Nat.reduceLeDiff, Nat.reduceSub, Nat.reduceLT, Int.reduceEq, Int.reduceLT, Int.reduceLE, Int.reduceGT, Int.reduceGE, Int.reduceAdd, Int.reduceSub, Int.reduceMul, Int.reduceNeg, Int.reduceToNat, reduceCtorEq, reduceIte, h1]
theorem s71 (n lo hi : Int) (st : Bool) : Iso E 71 [I n, I lo, I hi] st = some (Bo (inR n lo hi)) := by
  refine Iso_of (es _ _ _ _) e71 ?_
  simp only [f71]
  simp (disch := first | assumption | omega | (simp only [az]; done)) only [ru, eq_self, if_true, if_false, BEq.rfl, binI, AO.row?, splice, fillL, mmAll, loadV, storeV, zeros, Am.rowAt, Am.part, addOff, Nat.reduceAdd, Nat.reduceMul, Nat.reduceLeDiff, Nat.reduceSub, Nat.reduceLT, Int.reduceEq, Int.reduceLT, Int.reduceLE, Int.reduceGT, Int.reduceGE, Int.reduceAdd, Int.reduceSub, Int.reduceMul, Int.reduceNeg, Int.reduceToNat, reduceCtorEq, reduceIte, s17]
theorem s118 (n hi : Int) (st : Bool) : Iso E 118 [I n, I hi] st = some (Bo (inR n 0 hi)) := by
  refine Iso_of (es _ _ _ _) e118 ?_
  simp only [f118, inR]
  simp (disch := first | assumption | omega | (simp only [az]; done)) only [ru, eq_self, if_true, if_false, BEq.rfl, binI, AO.row?, splice, fillL, mmAll, loadV, storeV, zeros, Am.rowAt, Am.part, addOff, Nat.reduceAdd, Nat.reduceMul, Nat.reduceLeDiff, Nat.reduceSub, Nat.reduceLT, Int.reduceEq, Int.reduceLT, Int.reduceLE, Int.reduceGT, Int.reduceGE, Int.reduceAdd, Int.reduceSub, Int.reduceMul, Int.reduceNeg, Int.reduceToNat, reduceCtorEq, reduceIte]
  by_cases h1 : 0 ≤ n
  · simp (disch := first | assumption | omega | (simp only [az]; done)) only [ru, eq_self, if_true, if_false, BEq.rfl, binI, AO.row?, splice, fillL, mmAll, loadV, storeV, zeros, Am.rowAt, Am.part, addOff, Nat.reduceAdd, Nat.reduceMul, Nat.reduceLeDiff, Nat.reduceSub, Nat.reduceLT, Int.reduceEq, Int.reduceLT, Int.reduceLE, Int.reduceGT, Int.reduceGE, Int.reduceAdd, Int.reduceSub, Int.reduceMul, Int.reduceNeg, Int.reduceToNat, reduceCtorEq, reduceIte, h1]
  · simp (disch := first | assumption | omega | (simp only [az]; done)) only [ru, eq_self, if_true, if_false, BEq.rfl, binI, AO.row?, splice, fillL, mmAll, loadV, storeV, zeros, Am.rowAt, Am.part, addOff, Nat.reduceAdd, Nat.reduceMul, Nat.reduceLeDiff, Nat.reduceSub, Nat.reduceLT, Int.reduceEq, Int.reduceLT, Int.reduceLE, Int.reduceGT, Int.reduceGE, Int.reduceAdd, Int.reduceSub, Int.reduceMul, Int.reduceNeg, Int.reduceToNat, reduceCtorEq, reduceIte, h1]
theorem s106 (n lo hi : Int) (st : Bool) : Iso E 106 [.agg [I lo, I hi], I n] st = some (Bo (inR n lo hi)) := by
  refine Iso_of (es _ _ _ _) e106 ?_
  simp only [f106, inR]
  simp (disch := first | assumption | omega | (simp only [az]; done)) only [ru, eq_self, if_true, if_false, BEq.rfl, binI, AO.row?, splice, fillL, mmAll, loadV, storeV, zeros, Am.rowAt, Am.part, addOff, Nat.reduceAdd, Nat.reduceMul, Nat.reduceLeDiff, Nat.reduceSub, Nat.reduceLT, Int.reduceEq, Int.reduceLT, Int.reduceLE, Int.reduceGT, Int.reduceGE, Int.reduceAdd, Int.reduceSub, Int.reduceMul, Int.reduceNeg, Int.reduceToNat, reduceCtorEq, reduceIte]
  by_cases h1 : lo ≤ n
  · simp (disch := first | assumption | omega | (simp only [az]; done)) only [ru, eq_self, if_true, if_false, BEq.rfl, binI, AO.row?, splice, fillL, mmAll, loadV, storeV, zeros, Am.rowAt, Am.part, addOff, Nat.reduceAdd, Nat.reduceMul, Nat.reduceLeDiff, Nat.reduceSub, Nat.reduceLT, Int.reduceEq, Int.reduceLT, Int.reduceLE, Int.reduceGT, Int.reduceGE, Int.reduceAdd, Int.reduceSub, Int.reduceMul, Int.reduceNeg, Int.reduceToNat, reduceCtorEq, reduceIte, h1]
  · simp (disch := first | assumption | omega | (simp only [az]; done)) only [ru, eq_self, if_true, if_false, BEq.rfl, binI, AO.row?, splice, fillL, mmAll, loadV, storeV, zeros, Am.rowAt, Am.part, addOff, Nat.reduceAdd, Nat.reduceMul, Nat.reduceLeDiff, Nat.reduceSub, Nat.reduceLT, Int.reduceEq, Int.reduceLT, Int.reduceLE, Int.reduceGT, Int.reduceGE, Int.reduceAdd, Int.reduceSub, Int.reduceMul, Int.reduceNeg, Int.reduceToNat, reduceCtorEq, reduceIte, h1]
theorem s24 (n lo hi : Int) (st : Bool) : Iso E 24 [.agg [I lo, I hi], I n] st = some (Bo (inR n lo hi)) := by
  refine Iso_of (es _ _ _ _) e24 ?_
  simp only [f24, inR]
  simp (disch := first | assumption | omega | (simp only [az]; done)) only [ru, eq_self, if_true, if_false, BEq.rfl, binI, AO.row?, splice, fillL, mmAll, loadV, storeV, zeros, Am.rowAt, Am.part, addOff, Nat.reduceAdd, Nat.reduceMul, Nat.reduceLeDiff, Nat.reduceSub, Nat.reduceLT, Int.reduceEq, Int.reduceLT, Int.reduceLE, Int.reduceGT, Int.reduceGE, Int.reduceAdd, Int.reduceSub, Int.reduceMul, Int.reduceNeg, Int.reduceToNat, reduceCtorEq, reduceIte]
  by_cases h1 : lo ≤ n
  · simp (disch := first | assumption | omega | (simp only [az]; done)) only [ru, eq_self, if_true, if_false, BEq.rfl, binI, AO.row?, splice, fillL, mmAll, loadV, storeV, zeros, Am.rowAt, Am.part, addOff, Nat.reduceAdd, Nat.reduceMul, Nat.reduceLeDiff, Nat.reduceSub, Nat.reduceLT, Int.reduceEq, Int.reduceLT, Int.reduceLE, Int.reduceGT, Int.reduceGE, Int.reduceAdd, Int.reduceSub, Int.reduceMul, Int.reduceNeg, Int.reduceToNat, reduceCtorEq, reduceIte, h1]
  · simp (disch := first | assumption | omega | (simp only [az]; done)) only [ru, eq_self, if_true, if_false, BEq.rfl, binI, AO.row?, splice, fillL, mmAll, loadV, storeV, zeros, Am.rowAt, Am.part, addOff, Nat.reduceAdd, Nat.reduceMul, Nat.reduceLeDiff, Nat.reduceSub, Nat.reduceLT, Int.reduceEq, Int.reduceLT, Int.reduceLE, Int.reduceGT, Int.reduceGE, Int.reduceAdd, Int.reduceSub, Int.reduceMul, Int.reduceNeg, Int.reduceToNat, reduceCtorEq, reduceIte, h1]
theorem s88 (lo hi m : Int) (st : Bool) : Iso E 88 [.agg [I lo, I hi], I m] st = some (Bo (spanOk ⟨lo, hi⟩ m)) := by
  refine Iso_of (es _ _ _ _) e88 ?_
  simp only [f88, spanOk]
  simp (disch := first | assumption | omega | (simp only [az]; done)) only [ru, eq_self, if_true, if_false, BEq.rfl, binI, AO.row?, splice, fillL, mmAll, loadV, storeV, zeros, Am.rowAt, Am.part, addOff, Nat.reduceAdd, Nat.reduceMul, Nat.reduceLeDiff, Nat.reduceSub, Nat.reduceLT, Int.reduceEq, Int.reduceLT, Int.reduceLE, Int.reduceGT, Int.reduceGE, Int.reduceAdd, Int.reduceSub, Int.reduceMul, Int.reduceNeg, Int.reduceToNat, reduceCtorEq, reduceIte, s71]
  cases h1 : inR hi 0 m
  · simp (disch := first | assumption | omega | (simp only [az]; done)) only [ru, eq_self, if_true, if_false, BEq.rfl, binI, AO.row?, splice, fillL, mmAll, loadV, storeV, zeros, Am.rowAt, Am.part, addOff, Nat.reduceAdd, Nat.reduceMul, Nat.reduceLeDiff, Nat.reduceSub, Nat.reduceLT, Int.reduceEq, Int.reduceLT, Int.reduceLE, Int.reduceGT, Int.reduceGE, Int.reduceAdd, Int.reduceSub, Int.reduceMul, Int.reduceNeg, Int.reduceToNat, reduceCtorEq, reduceIte, h1]
  · simp (disch := first | assumption | omega | (simp only [az]; done)) only [ru, eq_self, if_true, if_false, BEq.rfl, binI, AO.row?, splice, fillL, mmAll, loadV, storeV, zeros, Am.rowAt, Am.part, addOff, Nat.reduceAdd, Nat.reduceMul, Nat.reduceLeDiff, Nat.reduceSub, Nat.reduceLT, Int.reduceEq, Int.reduceLT, Int.reduceLE, Int.reduceGT, Int.reduceGE, Int.reduceAdd, Int.reduceSub, Int.reduceMul, Int.reduceNeg, Int.reduceToNat, reduceCtorEq, reduceIte, h1, s71]
theorem s116 (lo hi m : Int) (st : Bool) : Iso E 116 [.agg [I lo, I hi], I m] st = some (Bo (spanOk ⟨lo, hi⟩ m)) := by
  have e : spanOk ⟨lo, hi⟩ m = (decide (0 ≤ lo) && decide (lo ≤ hi) && decide (hi ≤ m)) := by
    rw [Bool.eq_iff_iff, spanOk_iff]; simp only [Bool.and_eq_true, decide_eq_true_eq]; omega
  rw [e]
  refine Iso_of (es _ _ _ _) e116 ?_
  simp only [f116]
  simp (disch := first | assumption | omega | (simp only [az]; done)) only [ru, eq_self, if_true, if_false, BEq.rfl, binI, AO.row?, splice, fillL, mmAll, loadV, storeV, zeros, Am.rowAt, Am.part, addOff, Nat.reduceAdd, Nat.reduceMul, Nat.reduceLeDiff, Nat.reduceSub, Nat.reduceLT, Int.reduceEq, Int.reduceLT, Int.reduceLE, Int.reduceGT, Int.reduceGE, Int.reduceAdd, Int.reduceSub, Int.reduceMul, Int.reduceNeg, Int.reduceToNat, reduceCtorEq, reduceIte]
  by_cases h1 : 0 ≤ lo <;> by_cases h2 : lo ≤ hi <;> simp (disch := first | assumption | omega | (simp only [az]; done)) only [ru, eq_self, if_true, if_false, BEq.rfl, binI, AO.row?, splice, fillL, mmAll, loadV, storeV, zeros, Am.rowAt, Am.part, addOff, Nat.reduceAdd, Nat.reduceMul, Nat.reduceLeDiff, Nat.reduceSub, Nat.reduceLT, Int.reduceEq, Int.reduceLT, Int.reduceLE, Int.reduceGT, Int.reduceGE, Int.reduceAdd, Int.reduceSub, Int.reduceMul, Int.reduceNeg, Int.reduceToNat, reduceCtorEq, reduceIte, h1, h2]
theorem s35 (e : Int) (st : Bool) : Iso E 35 [I e] st = some (Bo (decide (e = 0) || decide (e = 3))) := by
  refine Iso_of (es _ _ _ _) e35 ?_
  simp only [f35]
  simp (disch := first | assumption | omega | (simp only [az]; done)) only [ru, eq_self, if_true, if_false, BEq.rfl, binI, AO.row?, splice, fillL, mmAll, loadV, storeV, zeros, Am.rowAt, Am.part, addOff, Nat.reduceAdd, Nat.reduceMul, Nat.reduceLeDiff, Nat.reduceSub, Nat.reduceLT, Int.reduceEq, Int.reduceLT, Int.reduceLE, Int.reduceGT, Int.reduceGE, Int.reduceAdd, Int.reduceSub, Int.reduceMul, Int.reduceNeg, Int.reduceToNat, reduceCtorEq, reduceIte]
  by_cases h1 : e = 0 <;> simp (disch := first | assumption | omega | (simp only [az]; done)) only [ru, eq_self, if_true, if_false, BEq.rfl, binI, AO.row?, splice, fillL, mmAll, loadV, storeV, zeros, Am.rowAt, Am.part, addOff, Nat.reduceAdd, Nat.reduceMul, Nat.reduceLeDiff, Nat.reduceSub, Nat.reduceLT, Int.reduceEq, Int.reduceLT, Int.reduceLE, Int.reduceGT, Int.reduceGE, Int.reduceAdd, Int.reduceSub, Int.reduceMul, Int.reduceNeg, Int.reduceToNat, reduceCtorEq, reduceIte, h1, Bool.true_or, Bool.false_or]

section
variable {s : Sea} {p b : AV}
theorem s25 (H : SeaOk s p b) (i : Int) (st : Bool) : Iso E 25 [seaV s p b, I i] st = some (Bo (inR i 0 (s.pl.length - 1))) := by
  have := H.sp
  refine Iso_of (es _ _ _ _) e25 ?_
  simp only [f25, seaV]
  simp (disch := first | assumption | omega | (simp only [az]; done)) only [ru, eq_self, if_true, if_false, BEq.rfl, binI, AO.row?, splice, fillL, mmAll, loadV, storeV, zeros, Am.rowAt, Am.part, addOff, Nat.reduceAdd, Nat.reduceMul, Nat.reduceLeDiff, Nat.reduceSub, Nat.reduceLT, Int.reduceEq, Int.reduceLT, Int.reduceLE, Int.reduceGT, Int.reduceGE, Int.reduceAdd, Int.reduceSub, Int.reduceMul, Int.reduceNeg, Int.reduceToNat, reduceCtorEq, reduceIte, s71, lenV_sl H.p, lenV_sl H.b, elem_sp H.p, elem_bt H.b, view_sl H.p, view_sl H.b, scalar_sl H.p, scalar_sl H.b, cells_sl H.p, cells_sl H.b, pure_sl H.p, pure_sl H.b, Int.toNat_natCast]
theorem s107 (H : SeaOk s p b) (i : Int) (st : Bool) : Iso E 107 [seaV s p b, I i] st = some (Bo (inR i 0 (s.pl.length - 1))) := by
  have := H.sp
  refine Iso_of (es _ _ _ _) e107 ?_
  simp only [f107, seaV]
  simp (disch := first | assumption | omega | (simp only [az]; done)) only [ru, eq_self, if_true, if_false, BEq.rfl, binI, AO.row?, splice, fillL, mmAll, loadV, storeV, zeros, Am.rowAt, Am.part, addOff, Nat.reduceAdd, Nat.reduceMul, Nat.reduceLeDiff, Nat.reduceSub, Nat.reduceLT, Int.reduceEq, Int.reduceLT, Int.reduceLE, Int.reduceGT, Int.reduceGE, Int.reduceAdd, Int.reduceSub, Int.reduceMul, Int.reduceNeg, Int.reduceToNat, reduceCtorEq, reduceIte, s118, lenV_sl H.p, lenV_sl H.b, elem_sp H.p, elem_bt H.b, view_sl H.p, view_sl H.b, scalar_sl H.p, scalar_sl H.b, cells_sl H.p, cells_sl H.b, pure_sl H.p, pure_sl H.b, Int.toNat_natCast]
theorem s47 (H : SeaOk s p b) (i : Int) (st : Bool) : Iso E 47 [seaV s p b, I i] st = some (Bo (inR i 0 (s.bo.length - 1))) := by
  have := H.sb
  refine Iso_of (es _ _ _ _) e47 ?_
  simp only [f47, seaV]
  simp (disch := first | assumption | omega | (simp only [az]; done)) only [ru, eq_self, if_true, if_false, BEq.rfl, binI, AO.row?, splice, fillL, mmAll, loadV, storeV, zeros, Am.rowAt, Am.part, addOff, Nat.reduceAdd, Nat.reduceMul, Nat.reduceLeDiff, Nat.reduceSub, Nat.reduceLT, Int.reduceEq, Int.reduceLT, Int.reduceLE, Int.reduceGT, Int.reduceGE, Int.reduceAdd, Int.reduceSub, Int.reduceMul, Int.reduceNeg, Int.reduceToNat, reduceCtorEq, reduceIte, s71, lenV_sl H.p, lenV_sl H.b, elem_sp H.p, elem_bt H.b, view_sl H.p, view_sl H.b, scalar_sl H.p, scalar_sl H.b, cells_sl H.p, cells_sl H.b, pure_sl H.p, pure_sl H.b, Int.toNat_natCast]
end

theorem all_upto_succ {α : Type} [Inhabited α] {l : List α} {p : α → Bool} {i : Nat} (hi : i < l.length) {x : α} (hx : l.getD i default = x) (h : (l.take i).all p = true) (hp : p x = true) : (l.take (i + 1)).all p = true := by
  subst hx
  rw [List.take_succ_eq_append_getElem hi, List.all_append, h]
  simpa [List.getD_eq_getElem?_getD, hi] using hp
theorem all_not {α : Type} [Inhabited α] {l : List α} {p : α → Bool} {i : Nat} (hi : i < l.length) {x : α} (hx : l.getD i default = x) (hp : p x = false) : l.all p = false := by
  subst hx
  rw [List.all_eq_false]
  exact ⟨l[i], List.getElem_mem hi, by simpa [List.getD_eq_getElem?_getD, hi] using hp⟩
theorem range_all_succ {p : Nat → Bool} {i : Nat} (h : (List.range i).all p = true) (hp : p i = true) : (List.range (i + 1)).all p = true := by
  rw [List.range_succ, List.all_append, h]; simpa using hp
theorem range_not {p : Nat → Bool} {i N : Nat} (hi : i < N) (hp : p i = false) : (List.range N).all p = false := by
  rw [List.all_eq_false]; exact ⟨i, List.mem_range.2 hi, by simp [hp]⟩

def btOk (x : Bt) : Bool := inR x.c 0 999 && inR x.p 0 99
def Sea.valid (s : Sea) : Bool := spanOk s.w 2000 && decide (s.pl.length ≤ 4) && decide (s.bo.length ≤ 6) && s.pl.all (spanOk · 12) && s.bo.all btOk && decide (slo s.pl ≤ 12) && decide (12 ≤ shi s.pl)
theorem valid_good {s : Sea} (h : s.valid = true) : SeaG s ∧ ∀ x ∈ s.bo, x.c ≤ 999 := by
  simp only [Sea.valid, Bool.and_eq_true, decide_eq_true_eq, List.all_eq_true, spanOk_iff, btOk, inR_iff] at h
  obtain ⟨⟨⟨⟨⟨⟨h1, h2⟩, h3⟩, h4⟩, h5⟩, h6⟩, h7⟩ := h
  exact ⟨⟨⟨h2, h4, h6, h7⟩, h1.1, h1.2.1, h1.2.2, h3, fun x hx => by have := h5 x hx; omega⟩, fun x hx => (h5 x hx).1.2⟩
theorem good_valid {s : Sea} (H : SeaG s) (hc : ∀ x ∈ s.bo, x.c ≤ 999) : s.valid = true := by
  simp only [Sea.valid, Bool.and_eq_true, decide_eq_true_eq, List.all_eq_true, spanOk_iff, btOk, inR_iff]
  exact ⟨⟨⟨⟨⟨⟨⟨H.w0, H.w1, H.w2⟩, H.sp.le⟩, H.nb⟩, H.sp.s⟩, fun x hx => by have := H.b x hx; have := hc x hx; omega⟩, H.sp.lo⟩, H.sp.hi⟩
theorem slo_take {L : List Spn} {i : Nat} (hi : i < L.length) : slo (L.take (i + 1)) = slo (L.take i) + (L.getD i default).lo ∧ shi (L.take (i + 1)) = shi (L.take i) + (L.getD i default).hi := by
  rw [List.take_succ_eq_append_getElem hi, slo_app.1, slo_app.2]
  simp [slo, shi, sm, List.getD_eq_getElem?_getD, hi]
/-- sums of numbers from 0 to 12 -/
theorem sum_bound {L : List Spn} : ∀ {i : Nat}, (L.take i).all (spanOk · 12) = true → i ≤ L.length → 0 ≤ slo (L.take i) ∧ slo (L.take i) ≤ 12 * i ∧ 0 ≤ shi (L.take i) ∧ shi (L.take i) ≤ 12 * i
  | 0, _, _ => by simp [slo, shi, sm]
  | i + 1, h, hi => by
    have hi' : i < L.length := by omega
    rw [List.take_succ_eq_append_getElem hi', List.all_append, Bool.and_eq_true] at h
    have ih := sum_bound h.1 (by omega)
    have h2 := h.2
    simp only [List.all_cons, List.all_nil, Bool.and_true, spanOk_iff] at h2
    obtain ⟨e1, e2⟩ := slo_take hi'
    rw [e1, e2]
    simp only [List.getD_eq_getElem?_getD, List.getElem?_eq_getElem hi', Option.getD_some]
    omega
/-- the errors -/
def vE (v : Bool) : Int := if v then 0 else 50
end Go.Proofs.Ytdmhbefdidmliaa.S

/-
Check on both sides; sums; are these the parts of a truth?
-/
namespace Go.Proofs.Ytdmhbefdidmliaa.S
open Go Go.Am Go.Proofs.Ytdmhbefdidmliaa.T
set_option maxRecDepth 100000
set_option linter.unusedSimpArgs false
set_option linter.unusedVariables false

section
variable {s : Sea} {p b : AV}

set_option maxHeartbeats 1000000 in
theorem s53 (H : SeaOk s p b) (st : Bool) : Iso E 53 [seaV s p b] st = some (I (vE s.valid)) := by
  have sp := H.sp; have sb := H.sb
  refine Iso_of (es _ _ _ _) e53 ?_
  simp only [f53, seaV]
  by_cases h1 : spanOk s.w 2000 = true
  case neg =>
    have e : spanOk ⟨s.w.lo, s.w.hi⟩ 2000 = false := by simpa using h1
    have ev : s.valid = false := by simp [Sea.valid, h1]
    simp (disch := first | assumption | omega | (simp only [az]; done)) only [ru, eq_self, if_true, if_false, BEq.rfl, binI, AO.row?, splice, fillL, mmAll, loadV, storeV, zeros, Am.rowAt, Am.part, addOff, Nat.reduceAdd, Nat.reduceMul, Nat.reduceLeDiff, Nat.reduceSub, Nat.reduceLT, Int.reduceEq, Int.reduceLT, Int.reduceLE, Int.reduceGT, Int.reduceGE, Int.reduceAdd, Int.reduceSub, Int.reduceMul, Int.reduceNeg, Int.reduceToNat, reduceCtorEq, reduceIte, lenV_sl H.p, lenV_sl H.b, elem_sp H.p, elem_bt H.b, view_sl H.p, view_sl H.b, scalar_sl H.p, scalar_sl H.b, cells_sl H.p, cells_sl H.b, pure_sl H.p, pure_sl H.b, Int.toNat_natCast, s88, e, ev, vE, gUn]
  have e1 : spanOk ⟨s.w.lo, s.w.hi⟩ 2000 = true := h1
  by_cases h2 : s.pl.length ≤ 4
  case neg =>
    have e : (s.pl.length : Int) > 4 := by omega
    have ev : s.valid = false := by simp [Sea.valid, h2]
    simp (disch := first | assumption | omega | (simp only [az]; done)) only [ru, eq_self, if_true, if_false, BEq.rfl, binI, AO.row?, splice, fillL, mmAll, loadV, storeV, zeros, Am.rowAt, Am.part, addOff, Nat.reduceAdd, Nat.reduceMul, Nat.reduceLeDiff, Nat.reduceSub, Nat.reduceLT, Int.reduceEq, Int.reduceLT, Int.reduceLE, Int.reduceGT, Int.reduceGE, Int.reduceAdd, Int.reduceSub, Int.reduceMul, Int.reduceNeg, Int.reduceToNat, reduceCtorEq, reduceIte, lenV_sl H.p, lenV_sl H.b, elem_sp H.p, elem_bt H.b, view_sl H.p, view_sl H.b, scalar_sl H.p, scalar_sl H.b, cells_sl H.p, cells_sl H.b, pure_sl H.p, pure_sl H.b, Int.toNat_natCast, s88, e1, e, ev, vE, gUn]
  have e2 : ¬ (s.pl.length : Int) > 4 := by omega
  by_cases h3 : s.bo.length ≤ 6
  case neg =>
    have e : (s.bo.length : Int) > 6 := by omega
    have ev : s.valid = false := by simp [Sea.valid, h3]
    simp (disch := first | assumption | omega | (simp only [az]; done)) only [ru, eq_self, if_true, if_false, BEq.rfl, binI, AO.row?, splice, fillL, mmAll, loadV, storeV, zeros, Am.rowAt, Am.part, addOff, Nat.reduceAdd, Nat.reduceMul, Nat.reduceLeDiff, Nat.reduceSub, Nat.reduceLT, Int.reduceEq, Int.reduceLT, Int.reduceLE, Int.reduceGT, Int.reduceGE, Int.reduceAdd, Int.reduceSub, Int.reduceMul, Int.reduceNeg, Int.reduceToNat, reduceCtorEq, reduceIte, lenV_sl H.p, lenV_sl H.b, elem_sp H.p, elem_bt H.b, view_sl H.p, view_sl H.b, scalar_sl H.p, scalar_sl H.b, cells_sl H.p, cells_sl H.b, pure_sl H.p, pure_sl H.b, Int.toNat_natCast, s88, e1, e2, e, ev, vE, gUn]
  have e3 : ¬ (s.bo.length : Int) > 6 := by omega
  simp (disch := first | assumption | omega | (simp only [az]; done)) only [ru, eq_self, if_true, if_false, BEq.rfl, binI, AO.row?, splice, fillL, mmAll, loadV, storeV, zeros, Am.rowAt, Am.part, addOff, Nat.reduceAdd, Nat.reduceMul, Nat.reduceLeDiff, Nat.reduceSub, Nat.reduceLT, Int.reduceEq, Int.reduceLT, Int.reduceLE, Int.reduceGT, Int.reduceGE, Int.reduceAdd, Int.reduceSub, Int.reduceMul, Int.reduceNeg, Int.reduceToNat, reduceCtorEq, reduceIte, lenV_sl H.p, lenV_sl H.b, elem_sp H.p, elem_bt H.b, view_sl H.p, view_sl H.b, scalar_sl H.p, scalar_sl H.b, cells_sl H.p, cells_sl H.b, pure_sl H.p, pure_sl H.b, Int.toNat_natCast, s88, e1, e2, e3, gUn]
  refine G_loop_ind (fun m ts h mk => ∃ i : Nat, i ≤ s.pl.length ∧ m = s.pl.length - i ∧ (s.pl.take i).all (spanOk · 12) = true ∧ ts.length = 82 ∧ ts.getD 1 .undef = .ptr 0 0 ∧ ts.getD 3 .undef = I (slo (s.pl.take i)) ∧ ts.getD 4 .undef = I (shi (s.pl.take i)) ∧
    ts.getD 5 .undef = I i ∧ h = [.cells [I s.w.lo, I s.w.hi, p, b] false] ∧ mk = []) ?_ _ _ _ _ ⟨0, Nat.zero_le _, rfl, rfl, rfl, rfl, rfl, rfl, rfl, rfl, rfl⟩
  rintro m ts h mk ih ⟨i, hi, rfl, hall, hl, q1, q3, q4, q5, rfl, rfl⟩
  rw [lit_all hl]
  simp only [lit0, litS, Nat.reduceAdd, q1, q3, q4, q5]
  simp (disch := first | assumption | omega | (simp only [az]; done)) only [ru, eq_self, if_true, if_false, BEq.rfl, binI, AO.row?, splice, fillL, mmAll, loadV, storeV, zeros, Am.rowAt, Am.part, addOff, Nat.reduceAdd, Nat.reduceMul, Nat.reduceLeDiff, Nat.reduceSub, Nat.reduceLT, Int.reduceEq, Int.reduceLT, Int.reduceLE, Int.reduceGT, Int.reduceGE, Int.reduceAdd, Int.reduceSub, Int.reduceMul, Int.reduceNeg, Int.reduceToNat, reduceCtorEq, reduceIte, lenV_sl H.p, lenV_sl H.b, elem_sp H.p, elem_bt H.b, view_sl H.p, view_sl H.b, scalar_sl H.p, scalar_sl H.b, cells_sl H.p, cells_sl H.b, pure_sl H.p, pure_sl H.b, Int.toNat_natCast]
  by_cases hlt : (i : Int) < s.pl.length
  case pos =>
    have hi' : i < s.pl.length := by omega
    obtain ⟨b1, b2, b3, b4⟩ := sum_bound hall hi
    obtain ⟨t1, t2⟩ := slo_take hi'
    obtain ⟨x, hx⟩ : ∃ x, x = s.pl.getD i default := ⟨_, rfl⟩
    cases hc : spanOk x 12
    · have ev : s.valid = false := by
        have := all_not (l := s.pl) (p := (spanOk · 12)) hi' hx.symm hc
        simp [Sea.valid, this]
      have hc' : spanOk ⟨x.lo, x.hi⟩ 12 = false := hc
      simp (disch := first | assumption | omega | (simp only [az]; done)) only [ru, eq_self, if_true, if_false, BEq.rfl, binI, AO.row?, splice, fillL, mmAll, loadV, storeV, zeros, Am.rowAt, Am.part, addOff, Nat.reduceAdd, Nat.reduceMul, Nat.reduceLeDiff, Nat.reduceSub, Nat.reduceLT, Int.reduceEq, Int.reduceLT, Int.reduceLE, Int.reduceGT, Int.reduceGE, Int.reduceAdd, Int.reduceSub, Int.reduceMul, Int.reduceNeg, Int.reduceToNat, reduceCtorEq, reduceIte, lenV_sl H.p, lenV_sl H.b, elem_sp H.p, elem_bt H.b, view_sl H.p, view_sl H.b, scalar_sl H.p, scalar_sl H.b, cells_sl H.p, cells_sl H.b, pure_sl H.p, pure_sl H.b, Int.toNat_natCast, hlt, ← hx, s88, hc', ev, vE]
    · have hc' : spanOk ⟨x.lo, x.hi⟩ 12 = true := hc
      have hb := spanOk_iff.1 hc
      rw [← hx] at t1 t2
      have hi4 : (i : Int) ≤ 4 := by omega
      simp (disch := first | assumption | omega | (simp only [az]; done)) only [ru, eq_self, if_true, if_false, BEq.rfl, binI, AO.row?, splice, fillL, mmAll, loadV, storeV, zeros, Am.rowAt, Am.part, addOff, Nat.reduceAdd, Nat.reduceMul, Nat.reduceLeDiff, Nat.reduceSub, Nat.reduceLT, Int.reduceEq, Int.reduceLT, Int.reduceLE, Int.reduceGT, Int.reduceGE, Int.reduceAdd, Int.reduceSub, Int.reduceMul, Int.reduceNeg, Int.reduceToNat, reduceCtorEq, reduceIte, lenV_sl H.p, lenV_sl H.b, elem_sp H.p, elem_bt H.b, view_sl H.p, view_sl H.b, scalar_sl H.p, scalar_sl H.b, cells_sl H.p, cells_sl H.b, pure_sl H.p, pure_sl H.b, Int.toNat_natCast, hlt, ← hx, s88, hc']
      exact ih (s.pl.length - (i + 1)) _ _ _ (by omega) ⟨i + 1, by omega, rfl, all_upto_succ hi' hx.symm hall hc, rfl, rfl, by rw [t1]; rfl, by rw [t2]; rfl, rfl, rfl, rfl⟩
  obtain rfl : i = s.pl.length := by omega
  obtain ⟨b1, b2, b3, b4⟩ := sum_bound hall hi
  rw [List.take_length] at hall q3 q4 b1 b2 b3 b4
  obtain ⟨lo, hlo⟩ : ∃ lo, lo = slo s.pl := ⟨_, rfl⟩
  obtain ⟨hh, hhi⟩ : ∃ hh, hh = shi s.pl := ⟨_, rfl⟩
  rw [← hlo] at q3 b1 b2
  rw [← hhi] at q4 b3 b4
  simp (disch := first | assumption | omega | (simp only [az]; done)) only [ru, eq_self, if_true, if_false, BEq.rfl, binI, AO.row?, splice, fillL, mmAll, loadV, storeV, zeros, Am.rowAt, Am.part, addOff, Nat.reduceAdd, Nat.reduceMul, Nat.reduceLeDiff, Nat.reduceSub, Nat.reduceLT, Int.reduceEq, Int.reduceLT, Int.reduceLE, Int.reduceGT, Int.reduceGE, Int.reduceAdd, Int.reduceSub, Int.reduceMul, Int.reduceNeg, Int.reduceToNat, reduceCtorEq, reduceIte, hlt, List.take_length, ← hlo, ← hhi]
  clear ih hl q1 q3 q4 q5
  refine G_loop_ind (fun m ts h mk => ∃ (i : Nat) (J : List AO), i ≤ s.bo.length ∧ m = s.bo.length - i ∧ (s.bo.take i).all btOk = true ∧ ts.length = 82 ∧ ts.getD 1 .undef = .ptr 0 0 ∧ ts.getD 3 .undef = I lo ∧ ts.getD 4 .undef = I hh ∧
    ts.getD 6 .undef = I i ∧ h = .cells [I s.w.lo, I s.w.hi, p, b] false :: J ∧ mk = []) ?_ _ _ _ _ ⟨0, [], Nat.zero_le _, rfl, rfl, rfl, rfl, rfl, rfl, rfl, rfl, rfl⟩
  rintro m ts h mk ih ⟨i, J, hi, rfl, hall2, hl, q1, q3, q4, q6, rfl, rfl⟩
  rw [lit_all hl]
  simp only [lit0, litS, Nat.reduceAdd, q1, q3, q4, q6]
  simp (disch := first | assumption | omega | (simp only [az]; done)) only [ru, eq_self, if_true, if_false, BEq.rfl, binI, AO.row?, splice, fillL, mmAll, loadV, storeV, zeros, Am.rowAt, Am.part, addOff, Nat.reduceAdd, Nat.reduceMul, Nat.reduceLeDiff, Nat.reduceSub, Nat.reduceLT, Int.reduceEq, Int.reduceLT, Int.reduceLE, Int.reduceGT, Int.reduceGE, Int.reduceAdd, Int.reduceSub, Int.reduceMul, Int.reduceNeg, Int.reduceToNat, reduceCtorEq, reduceIte, lenV_sl H.p, lenV_sl H.b, elem_sp H.p, elem_bt H.b, view_sl H.p, view_sl H.b, scalar_sl H.p, scalar_sl H.b, cells_sl H.p, cells_sl H.b, pure_sl H.p, pure_sl H.b, Int.toNat_natCast]
  by_cases hlt2 : (i : Int) < s.bo.length
  case pos =>
    have hi' : i < s.bo.length := by omega
    obtain ⟨x, hx⟩ : ∃ x, x = s.bo.getD i default := ⟨_, rfl⟩
    obtain ⟨G, hG⟩ : ∃ G : List AO, G = .cells [I s.w.lo, I s.w.hi, p, b] false :: J := ⟨_, rfl⟩
    have g0 : G[0]? = some (.cells [I s.w.lo, I s.w.hi, p, b] false) := by rw [hG]; rfl
    rw [← hG]
    cases hc : btOk x
    · have ev : s.valid = false := by
        have := all_not (l := s.bo) (p := btOk) hi' hx.symm hc
        simp [Sea.valid, this]
      simp only [btOk] at hc
      cases hc1 : inR x.c 0 999
      · simp (disch := first | assumption | omega | (simp only [az]; done)) only [ru, eq_self, if_true, if_false, BEq.rfl, binI, AO.row?, splice, fillL, mmAll, loadV, storeV, zeros, Am.rowAt, Am.part, addOff, Nat.reduceAdd, Nat.reduceMul, Nat.reduceLeDiff, Nat.reduceSub, Nat.reduceLT, Int.reduceEq, Int.reduceLT, Int.reduceLE, Int.reduceGT, Int.reduceGE, Int.reduceAdd, Int.reduceSub, Int.reduceMul, Int.reduceNeg, Int.reduceToNat, reduceCtorEq, reduceIte, lenV_sl H.p, lenV_sl H.b, elem_sp H.p, elem_bt H.b, view_sl H.p, view_sl H.b, scalar_sl H.p, scalar_sl H.b, cells_sl H.p, cells_sl H.b, pure_sl H.p, pure_sl H.b, Int.toNat_natCast, hlt2, g0, ← hx, s71, hc1, ev, vE, gUn, atE, setE]
      · rw [hc1, Bool.true_and] at hc
        simp (disch := first | assumption | omega | (simp only [az]; done)) only [ru, eq_self, if_true, if_false, BEq.rfl, binI, AO.row?, splice, fillL, mmAll, loadV, storeV, zeros, Am.rowAt, Am.part, addOff, Nat.reduceAdd, Nat.reduceMul, Nat.reduceLeDiff, Nat.reduceSub, Nat.reduceLT, Int.reduceEq, Int.reduceLT, Int.reduceLE, Int.reduceGT, Int.reduceGE, Int.reduceAdd, Int.reduceSub, Int.reduceMul, Int.reduceNeg, Int.reduceToNat, reduceCtorEq, reduceIte, lenV_sl H.p, lenV_sl H.b, elem_sp H.p, elem_bt H.b, view_sl H.p, view_sl H.b, scalar_sl H.p, scalar_sl H.b, cells_sl H.p, cells_sl H.b, pure_sl H.p, pure_sl H.b, Int.toNat_natCast, hlt2, g0, ← hx, s71, hc1, hc, ev, vE, gUn, atE, setE]
    · have hc2 := hc
      simp only [btOk, Bool.and_eq_true] at hc2
      simp (disch := first | assumption | omega | (simp only [az]; done)) only [ru, eq_self, if_true, if_false, BEq.rfl, binI, AO.row?, splice, fillL, mmAll, loadV, storeV, zeros, Am.rowAt, Am.part, addOff, Nat.reduceAdd, Nat.reduceMul, Nat.reduceLeDiff, Nat.reduceSub, Nat.reduceLT, Int.reduceEq, Int.reduceLT, Int.reduceLE, Int.reduceGT, Int.reduceGE, Int.reduceAdd, Int.reduceSub, Int.reduceMul, Int.reduceNeg, Int.reduceToNat, reduceCtorEq, reduceIte, lenV_sl H.p, lenV_sl H.b, elem_sp H.p, elem_bt H.b, view_sl H.p, view_sl H.b, scalar_sl H.p, scalar_sl H.b, cells_sl H.p, cells_sl H.b, pure_sl H.p, pure_sl H.b, Int.toNat_natCast, hlt2, g0, ← hx, s71, hc2.1, hc2.2, gUn, atE, setE]
      exact ih (s.bo.length - (i + 1)) _ _ _ (by omega) ⟨i + 1, J ++ [.cells [I x.c, I x.p] false], by omega, rfl, all_upto_succ hi' hx.symm hall2 hc, rfl, rfl, rfl, rfl, rfl, by rw [hG]; rfl, rfl⟩
  obtain rfl : i = s.bo.length := by omega
  rw [List.take_length] at hall2
  have ev : s.valid = (decide (slo s.pl ≤ 12) && decide (12 ≤ shi s.pl)) := by
    simp [Sea.valid, h1, h2, h3, hall, hall2]
  rw [← hlo, ← hhi] at ev
  by_cases c1 : lo > 12
  · have : ¬ lo ≤ 12 := by omega
    simp (disch := first | assumption | omega | (simp only [az]; done)) only [ru, eq_self, if_true, if_false, BEq.rfl, binI, AO.row?, splice, fillL, mmAll, loadV, storeV, zeros, Am.rowAt, Am.part, addOff, Nat.reduceAdd, Nat.reduceMul, Nat.reduceLeDiff, Nat.reduceSub, Nat.reduceLT, Int.reduceEq, Int.reduceLT, Int.reduceLE, Int.reduceGT, Int.reduceGE, Int.reduceAdd, Int.reduceSub, Int.reduceMul, Int.reduceNeg, Int.reduceToNat, reduceCtorEq, reduceIte, hlt2, c1, ev, this, vE, gUn, decide_false, Bool.false_and]
  · have n1 : lo ≤ 12 := by omega
    by_cases c2 : hh < 12
    · have : ¬ 12 ≤ hh := by omega
      simp (disch := first | assumption | omega | (simp only [az]; done)) only [ru, eq_self, if_true, if_false, BEq.rfl, binI, AO.row?, splice, fillL, mmAll, loadV, storeV, zeros, Am.rowAt, Am.part, addOff, Nat.reduceAdd, Nat.reduceMul, Nat.reduceLeDiff, Nat.reduceSub, Nat.reduceLT, Int.reduceEq, Int.reduceLT, Int.reduceLE, Int.reduceGT, Int.reduceGE, Int.reduceAdd, Int.reduceSub, Int.reduceMul, Int.reduceNeg, Int.reduceToNat, reduceCtorEq, reduceIte, hlt2, c1, c2, ev, n1, this, vE, decide_false, decide_true, Bool.true_and]
    · have : 12 ≤ hh := by omega
      simp (disch := first | assumption | omega | (simp only [az]; done)) only [ru, eq_self, if_true, if_false, BEq.rfl, binI, AO.row?, splice, fillL, mmAll, loadV, storeV, zeros, Am.rowAt, Am.part, addOff, Nat.reduceAdd, Nat.reduceMul, Nat.reduceLeDiff, Nat.reduceSub, Nat.reduceLT, Int.reduceEq, Int.reduceLT, Int.reduceLE, Int.reduceGT, Int.reduceGE, Int.reduceAdd, Int.reduceSub, Int.reduceMul, Int.reduceNeg, Int.reduceToNat, reduceCtorEq, reduceIte, hlt2, c1, c2, ev, n1, this, vE, decide_true, Bool.true_and]

/-! the program's -/
theorem s115 (x : Spn) (h : List AO) : Ro E 115 [.agg [I x.lo, I x.hi]] h = some (Bo (spanOk x 12)) := by
  refine Ro_of (es _ _ _ _) e115 ?_
  simp only [f115]
  simp (disch := first | assumption | omega | (simp only [az]; done)) only [ru, eq_self, if_true, if_false, BEq.rfl, binI, AO.row?, splice, fillL, mmAll, loadV, storeV, zeros, Am.rowAt, Am.part, addOff, Nat.reduceAdd, Nat.reduceMul, Nat.reduceLeDiff, Nat.reduceSub, Nat.reduceLT, Int.reduceEq, Int.reduceLT, Int.reduceLE, Int.reduceGT, Int.reduceGE, Int.reduceAdd, Int.reduceSub, Int.reduceMul, Int.reduceNeg, Int.reduceToNat, reduceCtorEq, reduceIte, s116, atE, lenE]
  rfl
theorem s117 (x : Bt) (h : List AO) : Ro E 117 [.agg [I x.c, I x.p]] h = some (Bo (btOk x)) := by
  refine Ro_of (es _ _ _ _) e117 ?_
  simp only [f117, btOk]
  cases hc : inR x.c 0 999 <;> simp (disch := first | assumption | omega | (simp only [az]; done)) only [ru, eq_self, if_true, if_false, BEq.rfl, binI, AO.row?, splice, fillL, mmAll, loadV, storeV, zeros, Am.rowAt, Am.part, addOff, Nat.reduceAdd, Nat.reduceMul, Nat.reduceLeDiff, Nat.reduceSub, Nat.reduceLT, Int.reduceEq, Int.reduceLT, Int.reduceLE, Int.reduceGT, Int.reduceGE, Int.reduceAdd, Int.reduceSub, Int.reduceMul, Int.reduceNeg, Int.reduceToNat, reduceCtorEq, reduceIte, s118, atE, lenE, hc, gUn] <;> rfl
theorem s126 (x : Spn) {o : Nat} {h : List AO} (ho : h[o]? = some (.cells [.fn 115 [] []] false)) : Ro E 126 [.agg [I x.lo, I x.hi], .ptr o 0] h = some (Bo (!spanOk x 12)) := by
  have ol := (List.getElem?_eq_some_iff.1 ho).1
  refine Ro_of (es _ _ _ _) e126 ?_
  simp only [f126]
  have e : (h ++ [AO.cells [I x.lo, I x.hi] false])[o]? = some (.cells [.fn 115 [] []] false) := by rw [List.getElem?_append_left ol]; exact ho
  have := s115 x (h ++ [AO.cells [I x.lo, I x.hi] false])
  simp (disch := first | assumption | omega | (simp only [az]; done)) only [ru, eq_self, if_true, if_false, BEq.rfl, binI, AO.row?, splice, fillL, mmAll, loadV, storeV, zeros, Am.rowAt, Am.part, addOff, Nat.reduceAdd, Nat.reduceMul, Nat.reduceLeDiff, Nat.reduceSub, Nat.reduceLT, Int.reduceEq, Int.reduceLT, Int.reduceLE, Int.reduceGT, Int.reduceGE, Int.reduceAdd, Int.reduceSub, Int.reduceMul, Int.reduceNeg, Int.reduceToNat, reduceCtorEq, reduceIte, atE, lenE, e, exOp_callv1, this]
  rfl
theorem s128 (x : Bt) {o : Nat} {h : List AO} (ho : h[o]? = some (.cells [.fn 117 [] []] false)) : Ro E 128 [.agg [I x.c, I x.p], .ptr o 0] h = some (Bo (!btOk x)) := by
  have ol := (List.getElem?_eq_some_iff.1 ho).1
  refine Ro_of (es _ _ _ _) e128 ?_
  simp only [f128]
  have e : (h ++ [AO.cells [I x.c, I x.p] false])[o]? = some (.cells [.fn 117 [] []] false) := by rw [List.getElem?_append_left ol]; exact ho
  have := s117 x (h ++ [AO.cells [I x.c, I x.p] false])
  simp (disch := first | assumption | omega | (simp only [az]; done)) only [ru, eq_self, if_true, if_false, BEq.rfl, binI, AO.row?, splice, fillL, mmAll, loadV, storeV, zeros, Am.rowAt, Am.part, addOff, Nat.reduceAdd, Nat.reduceMul, Nat.reduceLeDiff, Nat.reduceSub, Nat.reduceLT, Int.reduceEq, Int.reduceLT, Int.reduceLE, Int.reduceGT, Int.reduceGE, Int.reduceAdd, Int.reduceSub, Int.reduceMul, Int.reduceNeg, Int.reduceToNat, reduceCtorEq, reduceIte, atE, lenE, e, exOp_callv1, this]
  rfl
end
end Go.Proofs.Ytdmhbefdidmliaa.S

/-
The program's Check; the errors of those who ask.
-/
namespace Go.Proofs.Ytdmhbefdidmliaa.S
open Go Go.Am Go.Proofs.Ytdmhbefdidmliaa.T
set_option maxRecDepth 100000
set_option linter.unusedSimpArgs false
set_option linter.unusedVariables false

section
theorem Ro_ex {E : Env} {f : Nat} {fn : AFn} {vs : List AV} {h : List AO} (P : AV → Prop) (hu : ∀ v, P v → v.under h.length = true) (hs : E.spec f vs h h.length = none) (hf : E.fn f = some fn)
    (hg : G ⟨E, h.length, none, f, Done h.length fn.results fun r h' => P r⟩ fn.body [] (vs ++ List.replicate (fn.ntmps - vs.length) .undef) h []) : ∃ v, Ro E f vs h = some v ∧ P v := by
  obtain ⟨r, h', h1, h2⟩ := R_of (fun r _ => P r) hs hf hg
  exact ⟨r, by simp only [Ro, h1, hu r h2, if_true], h2⟩

set_option maxHeartbeats 1000000 in
theorem s131 {L : List Spn} {v : AV} (H : IsSl 2 Spn.e L v) (hl : L.length ≤ 41) {o : Nat} {h : List AO} (ho : h[o]? = some (.cells [.fn 115 [] []] false)) :
    ∃ k : Int, Ro E 131 [v, .fn 126 [] [.ptr o 0]] h = some (I k) ∧ decide (k ≥ 0) = !L.all (spanOk · 12) := by
  refine (fun x => ?_ : (∃ w, Ro E 131 [v, .fn 126 [] [.ptr o 0]] h = some w ∧ ∃ k : Int, w = I k ∧ decide (k ≥ 0) = !L.all (spanOk · 12)) → _) (Ro_ex (fun r => ∃ k : Int, r = I k ∧ decide (k ≥ 0) = !L.all (spanOk · 12)) (by rintro _ ⟨k, rfl, _⟩; rfl) (es _ _ _ _) e131 ?_)
  · obtain ⟨w, hv, k, rfl, hk⟩ := x; exact ⟨k, hv, hk⟩
  simp only [f131]
  simp (disch := first | assumption | omega | (simp only [az]; done)) only [ru, eq_self, if_true, if_false, BEq.rfl, binI, AO.row?, splice, fillL, mmAll, loadV, storeV, zeros, Am.rowAt, Am.part, addOff, Nat.reduceAdd, Nat.reduceMul, Nat.reduceLeDiff, Nat.reduceSub, Nat.reduceLT, Int.reduceEq, Int.reduceLT, Int.reduceLE, Int.reduceGT, Int.reduceGE, Int.reduceAdd, Int.reduceSub, Int.reduceMul, Int.reduceNeg, Int.reduceToNat, reduceCtorEq, reduceIte, lenV_sl H]
  refine G_loop_ind (fun m ts hh mk => ∃ i : Nat, i ≤ L.length ∧ m = L.length - i ∧ (L.take i).all (spanOk · 12) = true ∧ ts.length = 19 ∧ ts.getD 0 .undef = v ∧ ts.getD 1 .undef = .fn 126 [] [.ptr o 0] ∧ ts.getD 7 .undef = I L.length ∧ ts.getD 8 .undef = I i ∧ hh = h ∧ mk = []) ?_ _ _ _ _
    ⟨0, Nat.zero_le _, rfl, rfl, rfl, rfl, rfl, rfl, rfl, rfl, rfl⟩
  rintro m ts hh mk ih ⟨i, hi, rfl, hall, hl', q0, q1, q7, q8, rfl, rfl⟩
  rw [lit_all hl']
  simp only [lit0, litS, Nat.reduceAdd, q0, q1, q7, q8]
  simp (disch := first | assumption | omega | (simp only [az]; done)) only [ru, eq_self, if_true, if_false, BEq.rfl, binI, AO.row?, splice, fillL, mmAll, loadV, storeV, zeros, Am.rowAt, Am.part, addOff, Nat.reduceAdd, Nat.reduceMul, Nat.reduceLeDiff, Nat.reduceSub, Nat.reduceLT, Int.reduceEq, Int.reduceLT, Int.reduceLE, Int.reduceGT, Int.reduceGE, Int.reduceAdd, Int.reduceSub, Int.reduceMul, Int.reduceNeg, Int.reduceToNat, reduceCtorEq, reduceIte]
  by_cases hlt : (i : Int) < L.length
  case pos =>
    have hi' : i < L.length := by omega
    obtain ⟨x, hx⟩ : ∃ x, x = L.getD i default := ⟨_, rfl⟩
    have hr := s126 x ho
    cases hc : spanOk x 12
    · have ev := all_not (l := L) (p := (spanOk · 12)) hi' hx.symm hc
      rw [hc] at hr
      simp (disch := first | assumption | omega | (simp only [az]; done)) only [ru, eq_self, if_true, if_false, BEq.rfl, binI, AO.row?, splice, fillL, mmAll, loadV, storeV, zeros, Am.rowAt, Am.part, addOff, Nat.reduceAdd, Nat.reduceMul, Nat.reduceLeDiff, Nat.reduceSub, Nat.reduceLT, Int.reduceEq, Int.reduceLT, Int.reduceLE, Int.reduceGT, Int.reduceGE, Int.reduceAdd, Int.reduceSub, Int.reduceMul, Int.reduceNeg, Int.reduceToNat, reduceCtorEq, reduceIte, hlt, elem_sp H, Int.toNat_natCast, ← hx, exOp_callv1, hr, Bool.not_false]
      exact ⟨i, rfl, by rw [ev]; simp⟩
    · rw [hc] at hr
      simp (disch := first | assumption | omega | (simp only [az]; done)) only [ru, eq_self, if_true, if_false, BEq.rfl, binI, AO.row?, splice, fillL, mmAll, loadV, storeV, zeros, Am.rowAt, Am.part, addOff, Nat.reduceAdd, Nat.reduceMul, Nat.reduceLeDiff, Nat.reduceSub, Nat.reduceLT, Int.reduceEq, Int.reduceLT, Int.reduceLE, Int.reduceGT, Int.reduceGE, Int.reduceAdd, Int.reduceSub, Int.reduceMul, Int.reduceNeg, Int.reduceToNat, reduceCtorEq, reduceIte, hlt, elem_sp H, Int.toNat_natCast, ← hx, exOp_callv1, hr, Bool.not_true]
      exact ih (L.length - (i + 1)) _ _ _ (by omega) ⟨i + 1, by omega, rfl, all_upto_succ hi' hx.symm hall hc, rfl, rfl, rfl, rfl, rfl, rfl, rfl⟩
  obtain rfl : i = L.length := by omega
  rw [List.take_length] at hall
  simp (disch := first | assumption | omega | (simp only [az]; done)) only [ru, eq_self, if_true, if_false, BEq.rfl, binI, AO.row?, splice, fillL, mmAll, loadV, storeV, zeros, Am.rowAt, Am.part, addOff, Nat.reduceAdd, Nat.reduceMul, Nat.reduceLeDiff, Nat.reduceSub, Nat.reduceLT, Int.reduceEq, Int.reduceLT, Int.reduceLE, Int.reduceGT, Int.reduceGE, Int.reduceAdd, Int.reduceSub, Int.reduceMul, Int.reduceNeg, Int.reduceToNat, reduceCtorEq, reduceIte, hlt]
  exact ⟨-1, rfl, by rw [hall]; decide⟩
set_option maxHeartbeats 1000000 in
theorem s132 {L : List Bt} {v : AV} (H : IsSl 2 Bt.e L v) (hl : L.length ≤ 41) {o : Nat} {h : List AO} (ho : h[o]? = some (.cells [.fn 117 [] []] false)) :
    ∃ k : Int, Ro E 132 [v, .fn 128 [] [.ptr o 0]] h = some (I k) ∧ decide (k ≥ 0) = !L.all btOk := by
  refine (fun x => ?_ : (∃ w, Ro E 132 [v, .fn 128 [] [.ptr o 0]] h = some w ∧ ∃ k : Int, w = I k ∧ decide (k ≥ 0) = !L.all btOk) → _) (Ro_ex (fun r => ∃ k : Int, r = I k ∧ decide (k ≥ 0) = !L.all btOk) (by rintro _ ⟨k, rfl, _⟩; rfl) (es _ _ _ _) e132 ?_)
  · obtain ⟨w, hv, k, rfl, hk⟩ := x; exact ⟨k, hv, hk⟩
  simp only [f132]
  simp (disch := first | assumption | omega | (simp only [az]; done)) only [ru, eq_self, if_true, if_false, BEq.rfl, binI, AO.row?, splice, fillL, mmAll, loadV, storeV, zeros, Am.rowAt, Am.part, addOff, Nat.reduceAdd, Nat.reduceMul, Nat.reduceLeDiff, Nat.reduceSub, Nat.reduceLT, Int.reduceEq, Int.reduceLT, Int.reduceLE, Int.reduceGT, Int.reduceGE, Int.reduceAdd, Int.reduceSub, Int.reduceMul, Int.reduceNeg, Int.reduceToNat, reduceCtorEq, reduceIte, lenV_sl H]
  refine G_loop_ind (fun m ts hh mk => ∃ i : Nat, i ≤ L.length ∧ m = L.length - i ∧ (L.take i).all btOk = true ∧ ts.length = 19 ∧ ts.getD 0 .undef = v ∧ ts.getD 1 .undef = .fn 128 [] [.ptr o 0] ∧ ts.getD 7 .undef = I L.length ∧ ts.getD 8 .undef = I i ∧ hh = h ∧ mk = []) ?_ _ _ _ _
    ⟨0, Nat.zero_le _, rfl, rfl, rfl, rfl, rfl, rfl, rfl, rfl, rfl⟩
  rintro m ts hh mk ih ⟨i, hi, rfl, hall, hl', q0, q1, q7, q8, rfl, rfl⟩
  rw [lit_all hl']
  simp only [lit0, litS, Nat.reduceAdd, q0, q1, q7, q8]
  simp (disch := first | assumption | omega | (simp only [az]; done)) only [ru, eq_self, if_true, if_false, BEq.rfl, binI, AO.row?, splice, fillL, mmAll, loadV, storeV, zeros, Am.rowAt, Am.part, addOff, Nat.reduceAdd, Nat.reduceMul, Nat.reduceLeDiff, Nat.reduceSub, Nat.reduceLT, Int.reduceEq, Int.reduceLT, Int.reduceLE, Int.reduceGT, Int.reduceGE, Int.reduceAdd, Int.reduceSub, Int.reduceMul, Int.reduceNeg, Int.reduceToNat, reduceCtorEq, reduceIte]
  by_cases hlt : (i : Int) < L.length
  case pos =>
    have hi' : i < L.length := by omega
    obtain ⟨x, hx⟩ : ∃ x, x = L.getD i default := ⟨_, rfl⟩
    have hr := s128 x ho
    cases hc : btOk x
    · have ev := all_not (l := L) (p := btOk) hi' hx.symm hc
      rw [hc] at hr
      simp (disch := first | assumption | omega | (simp only [az]; done)) only [ru, eq_self, if_true, if_false, BEq.rfl, binI, AO.row?, splice, fillL, mmAll, loadV, storeV, zeros, Am.rowAt, Am.part, addOff, Nat.reduceAdd, Nat.reduceMul, Nat.reduceLeDiff, Nat.reduceSub, Nat.reduceLT, Int.reduceEq, Int.reduceLT, Int.reduceLE, Int.reduceGT, Int.reduceGE, Int.reduceAdd, Int.reduceSub, Int.reduceMul, Int.reduceNeg, Int.reduceToNat, reduceCtorEq, reduceIte, hlt, elem_bt H, Int.toNat_natCast, ← hx, exOp_callv1, hr, Bool.not_false]
      exact ⟨i, rfl, by rw [ev]; simp⟩
    · rw [hc] at hr
      simp (disch := first | assumption | omega | (simp only [az]; done)) only [ru, eq_self, if_true, if_false, BEq.rfl, binI, AO.row?, splice, fillL, mmAll, loadV, storeV, zeros, Am.rowAt, Am.part, addOff, Nat.reduceAdd, Nat.reduceMul, Nat.reduceLeDiff, Nat.reduceSub, Nat.reduceLT, Int.reduceEq, Int.reduceLT, Int.reduceLE, Int.reduceGT, Int.reduceGE, Int.reduceAdd, Int.reduceSub, Int.reduceMul, Int.reduceNeg, Int.reduceToNat, reduceCtorEq, reduceIte, hlt, elem_bt H, Int.toNat_natCast, ← hx, exOp_callv1, hr, Bool.not_true]
      exact ih (L.length - (i + 1)) _ _ _ (by omega) ⟨i + 1, by omega, rfl, all_upto_succ hi' hx.symm hall hc, rfl, rfl, rfl, rfl, rfl, rfl, rfl⟩
  obtain rfl : i = L.length := by omega
  rw [List.take_length] at hall
  simp (disch := first | assumption | omega | (simp only [az]; done)) only [ru, eq_self, if_true, if_false, BEq.rfl, binI, AO.row?, splice, fillL, mmAll, loadV, storeV, zeros, Am.rowAt, Am.part, addOff, Nat.reduceAdd, Nat.reduceMul, Nat.reduceLeDiff, Nat.reduceSub, Nat.reduceLT, Int.reduceEq, Int.reduceLT, Int.reduceLE, Int.reduceGT, Int.reduceGE, Int.reduceAdd, Int.reduceSub, Int.reduceMul, Int.reduceNeg, Int.reduceToNat, reduceCtorEq, reduceIte, hlt]
  exact ⟨-1, rfl, by rw [hall]; decide⟩
theorem s125 {L : List Spn} {v : AV} (H : IsSl 2 Spn.e L v) (hl : L.length ≤ 41) {o : Nat} {h : List AO} (ho : h[o]? = some (.cells [.fn 115 [] []] false)) : Ro E 125 [v, .fn 126 [] [.ptr o 0]] h = some (Bo (!L.all (spanOk · 12))) := by
  obtain ⟨k, hr, hk⟩ := s131 H hl ho
  refine Ro_of (es _ _ _ _) e125 ?_
  simp only [f125]
  simp (disch := first | assumption | omega | (simp only [az]; done)) only [ru, eq_self, if_true, if_false, BEq.rfl, binI, AO.row?, splice, fillL, mmAll, loadV, storeV, zeros, Am.rowAt, Am.part, addOff, Nat.reduceAdd, Nat.reduceMul, Nat.reduceLeDiff, Nat.reduceSub, Nat.reduceLT, Int.reduceEq, Int.reduceLT, Int.reduceLE, Int.reduceGT, Int.reduceGE, Int.reduceAdd, Int.reduceSub, Int.reduceMul, Int.reduceNeg, Int.reduceToNat, reduceCtorEq, reduceIte, hr]
  rw [hk]; exact ⟨rfl, rfl⟩
theorem s127 {L : List Bt} {v : AV} (H : IsSl 2 Bt.e L v) (hl : L.length ≤ 41) {o : Nat} {h : List AO} (ho : h[o]? = some (.cells [.fn 117 [] []] false)) : Ro E 127 [v, .fn 128 [] [.ptr o 0]] h = some (Bo (!L.all btOk)) := by
  obtain ⟨k, hr, hk⟩ := s132 H hl ho
  refine Ro_of (es _ _ _ _) e127 ?_
  simp only [f127]
  simp (disch := first | assumption | omega | (simp only [az]; done)) only [ru, eq_self, if_true, if_false, BEq.rfl, binI, AO.row?, splice, fillL, mmAll, loadV, storeV, zeros, Am.rowAt, Am.part, addOff, Nat.reduceAdd, Nat.reduceMul, Nat.reduceLeDiff, Nat.reduceSub, Nat.reduceLT, Int.reduceEq, Int.reduceLT, Int.reduceLE, Int.reduceGT, Int.reduceGE, Int.reduceAdd, Int.reduceSub, Int.reduceMul, Int.reduceNeg, Int.reduceToNat, reduceCtorEq, reduceIte, hr]
  rw [hk]; exact ⟨rfl, rfl⟩
theorem s119 {L : List Spn} {v : AV} (H : IsSl 2 Spn.e L v) (hl : L.length ≤ 41) (st : Bool) : Iso E 119 [v, .fn 115 [] []] st = some (Bo (L.all (spanOk · 12))) := by
  have hr := s125 H hl (o := 0) (h := [.cells [.fn 115 [] []] false]) rfl
  refine Iso_of (es _ _ _ _) e119 ?_
  simp only [f119]
  simp (disch := first | assumption | omega | (simp only [az]; done)) only [ru, eq_self, if_true, if_false, BEq.rfl, binI, AO.row?, splice, fillL, mmAll, loadV, storeV, zeros, Am.rowAt, Am.part, addOff, Nat.reduceAdd, Nat.reduceMul, Nat.reduceLeDiff, Nat.reduceSub, Nat.reduceLT, Int.reduceEq, Int.reduceLT, Int.reduceLE, Int.reduceGT, Int.reduceGE, Int.reduceAdd, Int.reduceSub, Int.reduceMul, Int.reduceNeg, Int.reduceToNat, reduceCtorEq, reduceIte, hr, Bool.not_not]
theorem s120 {L : List Bt} {v : AV} (H : IsSl 2 Bt.e L v) (hl : L.length ≤ 41) (st : Bool) : Iso E 120 [v, .fn 117 [] []] st = some (Bo (L.all btOk)) := by
  have hr := s127 H hl (o := 0) (h := [.cells [.fn 117 [] []] false]) rfl
  refine Iso_of (es _ _ _ _) e120 ?_
  simp only [f120]
  simp (disch := first | assumption | omega | (simp only [az]; done)) only [ru, eq_self, if_true, if_false, BEq.rfl, binI, AO.row?, splice, fillL, mmAll, loadV, storeV, zeros, Am.rowAt, Am.part, addOff, Nat.reduceAdd, Nat.reduceMul, Nat.reduceLeDiff, Nat.reduceSub, Nat.reduceLT, Int.reduceEq, Int.reduceLT, Int.reduceLE, Int.reduceGT, Int.reduceGE, Int.reduceAdd, Int.reduceSub, Int.reduceMul, Int.reduceNeg, Int.reduceToNat, reduceCtorEq, reduceIte, hr, Bool.not_not]
/-- the sums of spans from 0 to 12 -/
theorem s108 {L : List Spn} {v : AV} (H : IsSl 2 Spn.e L v) (hl : L.length ≤ 41) (ha : L.all (spanOk · 12) = true) (st : Bool) : Iso E 108 [v] st = some (.agg [I (slo L), I (shi L)]) := by
  refine Iso_of (es _ _ _ _) e108 ?_
  simp only [f108]
  simp (disch := first | assumption | omega | (simp only [az]; done)) only [ru, eq_self, if_true, if_false, BEq.rfl, binI, AO.row?, splice, fillL, mmAll, loadV, storeV, zeros, Am.rowAt, Am.part, addOff, Nat.reduceAdd, Nat.reduceMul, Nat.reduceLeDiff, Nat.reduceSub, Nat.reduceLT, Int.reduceEq, Int.reduceLT, Int.reduceLE, Int.reduceGT, Int.reduceGE, Int.reduceAdd, Int.reduceSub, Int.reduceMul, Int.reduceNeg, Int.reduceToNat, reduceCtorEq, reduceIte, lenV_sl H]
  refine G_loop_ind (fun m ts hh mk => ∃ (i : Nat) (J : List AO), i ≤ L.length ∧ m = L.length - i ∧ ts.length = 26 ∧ ts.getD 2 .undef = .ptr 0 0 ∧ ts.getD 3 .undef = .ptr 1 0 ∧ ts.getD 6 .undef = v ∧ ts.getD 7 .undef = I L.length ∧ ts.getD 8 .undef = I i ∧
    hh = .cells [I 0, I 0] false :: .cells [I (slo (L.take i)), I (shi (L.take i))] false :: J ∧ mk = []) ?_ _ _ _ _ ⟨0, [], Nat.zero_le _, rfl, rfl, rfl, rfl, rfl, rfl, rfl, rfl, rfl⟩
  rintro m ts hh mk ih ⟨i, J, hi, rfl, hl', q2, q3, q6, q7, q8, rfl, rfl⟩
  rw [lit_all hl']
  simp only [lit0, litS, Nat.reduceAdd, q2, q3, q6, q7, q8]
  simp (disch := first | assumption | omega | (simp only [az]; done)) only [ru, eq_self, if_true, if_false, BEq.rfl, binI, AO.row?, splice, fillL, mmAll, loadV, storeV, zeros, Am.rowAt, Am.part, addOff, Nat.reduceAdd, Nat.reduceMul, Nat.reduceLeDiff, Nat.reduceSub, Nat.reduceLT, Int.reduceEq, Int.reduceLT, Int.reduceLE, Int.reduceGT, Int.reduceGE, Int.reduceAdd, Int.reduceSub, Int.reduceMul, Int.reduceNeg, Int.reduceToNat, reduceCtorEq, reduceIte]
  by_cases hlt : (i : Int) < L.length
  case pos =>
    have hi' : i < L.length := by omega
    have hall : ∀ j, (L.take j).all (spanOk · 12) = true := fun j => by
      rw [List.all_eq_true] at ha ⊢; exact fun x hx => ha x (List.mem_of_mem_take hx)
    obtain ⟨b1, b2, b3, b4⟩ := sum_bound (hall i) hi
    obtain ⟨c1, c2, c3, c4⟩ := sum_bound (hall (i + 1)) hi'
    obtain ⟨t1, t2⟩ := slo_take hi'
    obtain ⟨x, hx⟩ : ∃ x, x = L.getD i default := ⟨_, rfl⟩
    rw [← hx] at t1 t2
    have n1 : (J ++ [AO.cells [I x.lo, I x.hi] false])[J.length]? = some (.cells [I x.lo, I x.hi] false) := atE
    simp (disch := first | assumption | omega | (simp only [az]; done)) only [ru, eq_self, if_true, if_false, BEq.rfl, binI, AO.row?, splice, fillL, mmAll, loadV, storeV, zeros, Am.rowAt, Am.part, addOff, Nat.reduceAdd, Nat.reduceMul, Nat.reduceLeDiff, Nat.reduceSub, Nat.reduceLT, Int.reduceEq, Int.reduceLT, Int.reduceLE, Int.reduceGT, Int.reduceGE, Int.reduceAdd, Int.reduceSub, Int.reduceMul, Int.reduceNeg, Int.reduceToNat, reduceCtorEq, reduceIte, hlt, elem_sp H, Int.toNat_natCast, ← hx, n1, setE]
    exact ih (L.length - (i + 1)) _ _ _ (by omega) ⟨i + 1, J ++ [.cells [I x.lo, I x.hi] false], by omega, rfl, rfl, rfl, rfl, rfl, rfl, rfl, by rw [t1, t2], rfl⟩
  obtain rfl : i = L.length := by omega
  simp (disch := first | assumption | omega | (simp only [az]; done)) only [ru, eq_self, if_true, if_false, BEq.rfl, binI, AO.row?, splice, fillL, mmAll, loadV, storeV, zeros, Am.rowAt, Am.part, addOff, Nat.reduceAdd, Nat.reduceMul, Nat.reduceLeDiff, Nat.reduceSub, Nat.reduceLT, Int.reduceEq, Int.reduceLT, Int.reduceLE, Int.reduceGT, Int.reduceGE, Int.reduceAdd, Int.reduceSub, Int.reduceMul, Int.reduceNeg, Int.reduceToNat, reduceCtorEq, reduceIte, hlt, List.take_length, finC, getRes, Option.some.injEq, exists_eq_left']
end

section
variable {s : Sea} {p b : AV}
theorem s87 (H : SeaOk s p b) (st : Bool) : Iso E 87 [seaV s p b] st = some (Bo s.valid) := by
  have sp := H.sp; have sb := H.sb
  refine Iso_of (es _ _ _ _) e87 ?_
  simp only [f87, seaV]
  cases h1 : spanOk s.w 2000
  · have e : spanOk ⟨s.w.lo, s.w.hi⟩ 2000 = false := h1
    have ev : s.valid = false := by simp [Sea.valid, h1]
    simp (disch := first | assumption | omega | (simp only [az]; done)) only [ru, eq_self, if_true, if_false, BEq.rfl, binI, AO.row?, splice, fillL, mmAll, loadV, storeV, zeros, Am.rowAt, Am.part, addOff, Nat.reduceAdd, Nat.reduceMul, Nat.reduceLeDiff, Nat.reduceSub, Nat.reduceLT, Int.reduceEq, Int.reduceLT, Int.reduceLE, Int.reduceGT, Int.reduceGE, Int.reduceAdd, Int.reduceSub, Int.reduceMul, Int.reduceNeg, Int.reduceToNat, reduceCtorEq, reduceIte, lenV_sl H.p, lenV_sl H.b, elem_sp H.p, elem_bt H.b, view_sl H.p, view_sl H.b, scalar_sl H.p, scalar_sl H.b, cells_sl H.p, cells_sl H.b, pure_sl H.p, pure_sl H.b, Int.toNat_natCast, s116, e, ev, gUn]
  have e1 : spanOk ⟨s.w.lo, s.w.hi⟩ 2000 = true := h1
  by_cases h2 : s.pl.length ≤ 4
  case neg =>
    have e : ¬ (s.pl.length : Int) ≤ 4 := by omega
    have ev : s.valid = false := by simp [Sea.valid, h2]
    simp (disch := first | assumption | omega | (simp only [az]; done)) only [ru, eq_self, if_true, if_false, BEq.rfl, binI, AO.row?, splice, fillL, mmAll, loadV, storeV, zeros, Am.rowAt, Am.part, addOff, Nat.reduceAdd, Nat.reduceMul, Nat.reduceLeDiff, Nat.reduceSub, Nat.reduceLT, Int.reduceEq, Int.reduceLT, Int.reduceLE, Int.reduceGT, Int.reduceGE, Int.reduceAdd, Int.reduceSub, Int.reduceMul, Int.reduceNeg, Int.reduceToNat, reduceCtorEq, reduceIte, lenV_sl H.p, lenV_sl H.b, elem_sp H.p, elem_bt H.b, view_sl H.p, view_sl H.b, scalar_sl H.p, scalar_sl H.b, cells_sl H.p, cells_sl H.b, pure_sl H.p, pure_sl H.b, Int.toNat_natCast, s116, e1, e, ev, gUn]
  have e2 : (s.pl.length : Int) ≤ 4 := by omega
  have g1 := fun st => s119 H.p (by omega) st
  cases h4 : s.pl.all (spanOk · 12)
  · have ev : s.valid = false := by simp [Sea.valid, h4]
    simp (disch := first | assumption | omega | (simp only [az]; done)) only [ru, eq_self, if_true, if_false, BEq.rfl, binI, AO.row?, splice, fillL, mmAll, loadV, storeV, zeros, Am.rowAt, Am.part, addOff, Nat.reduceAdd, Nat.reduceMul, Nat.reduceLeDiff, Nat.reduceSub, Nat.reduceLT, Int.reduceEq, Int.reduceLT, Int.reduceLE, Int.reduceGT, Int.reduceGE, Int.reduceAdd, Int.reduceSub, Int.reduceMul, Int.reduceNeg, Int.reduceToNat, reduceCtorEq, reduceIte, lenV_sl H.p, lenV_sl H.b, elem_sp H.p, elem_bt H.b, view_sl H.p, view_sl H.b, scalar_sl H.p, scalar_sl H.b, cells_sl H.p, cells_sl H.b, pure_sl H.p, pure_sl H.b, Int.toNat_natCast, s116, e1, e2, g1, view_fn, h4, ev, gUn]
  have g2 := fun st => s108 H.p (by omega) h4 st
  have ew : inR 12 (slo s.pl) (shi s.pl) = (decide (slo s.pl ≤ 12) && decide (12 ≤ shi s.pl)) := rfl
  cases h5 : inR 12 (slo s.pl) (shi s.pl)
  · have ev : s.valid = false := by
      rw [h5] at ew
      simp only [Sea.valid, h1, h2, h4, Bool.and_assoc, ← ew, Bool.and_false]
    simp (disch := first | assumption | omega | (simp only [az]; done)) only [ru, eq_self, if_true, if_false, BEq.rfl, binI, AO.row?, splice, fillL, mmAll, loadV, storeV, zeros, Am.rowAt, Am.part, addOff, Nat.reduceAdd, Nat.reduceMul, Nat.reduceLeDiff, Nat.reduceSub, Nat.reduceLT, Int.reduceEq, Int.reduceLT, Int.reduceLE, Int.reduceGT, Int.reduceGE, Int.reduceAdd, Int.reduceSub, Int.reduceMul, Int.reduceNeg, Int.reduceToNat, reduceCtorEq, reduceIte, lenV_sl H.p, lenV_sl H.b, elem_sp H.p, elem_bt H.b, view_sl H.p, view_sl H.b, scalar_sl H.p, scalar_sl H.b, cells_sl H.p, cells_sl H.b, pure_sl H.p, pure_sl H.b, Int.toNat_natCast, s116, e1, e2, g1, view_fn, h4, g2, s106, h5, ev, gUn]
  rw [h5] at ew
  by_cases h3 : s.bo.length ≤ 6
  case neg =>
    have e : ¬ (s.bo.length : Int) ≤ 6 := by omega
    have ev : s.valid = false := by simp [Sea.valid, h3]
    simp (disch := first | assumption | omega | (simp only [az]; done)) only [ru, eq_self, if_true, if_false, BEq.rfl, binI, AO.row?, splice, fillL, mmAll, loadV, storeV, zeros, Am.rowAt, Am.part, addOff, Nat.reduceAdd, Nat.reduceMul, Nat.reduceLeDiff, Nat.reduceSub, Nat.reduceLT, Int.reduceEq, Int.reduceLT, Int.reduceLE, Int.reduceGT, Int.reduceGE, Int.reduceAdd, Int.reduceSub, Int.reduceMul, Int.reduceNeg, Int.reduceToNat, reduceCtorEq, reduceIte, lenV_sl H.p, lenV_sl H.b, elem_sp H.p, elem_bt H.b, view_sl H.p, view_sl H.b, scalar_sl H.p, scalar_sl H.b, cells_sl H.p, cells_sl H.b, pure_sl H.p, pure_sl H.b, Int.toNat_natCast, s116, e1, e2, g1, view_fn, h4, g2, s106, h5, e, ev, gUn]
  have e3 : (s.bo.length : Int) ≤ 6 := by omega
  have g3 := fun st => s120 H.b (by omega) st
  have ev : s.valid = s.bo.all btOk := by
    simp only [Sea.valid, h1, h2, h3, h4, Bool.and_assoc, ← ew, Bool.and_true, decide_true, Bool.true_and]
  simp (disch := first | assumption | omega | (simp only [az]; done)) only [ru, eq_self, if_true, if_false, BEq.rfl, binI, AO.row?, splice, fillL, mmAll, loadV, storeV, zeros, Am.rowAt, Am.part, addOff, Nat.reduceAdd, Nat.reduceMul, Nat.reduceLeDiff, Nat.reduceSub, Nat.reduceLT, Int.reduceEq, Int.reduceLT, Int.reduceLE, Int.reduceGT, Int.reduceGE, Int.reduceAdd, Int.reduceSub, Int.reduceMul, Int.reduceNeg, Int.reduceToNat, reduceCtorEq, reduceIte, lenV_sl H.p, lenV_sl H.b, elem_sp H.p, elem_bt H.b, view_sl H.p, view_sl H.b, scalar_sl H.p, scalar_sl H.b, cells_sl H.p, cells_sl H.b, pure_sl H.p, pure_sl H.b, Int.toNat_natCast, s116, e1, e2, g1, view_fn, h4, g2, s106, h5, e3, g3, ev, gUn]

theorem s52 (H : SeaOk s p b) (st : Bool) : Iso E 52 [seaV s p b] st = some (I (vE s.valid)) := by
  have g := fun st => s87 H st
  refine Iso_of (es _ _ _ _) e52 ?_
  simp only [f52, seaV] at g ⊢
  cases hv : s.valid
  · rw [hv] at g
    simp (disch := first | assumption | omega | (simp only [az]; done)) only [ru, eq_self, if_true, if_false, BEq.rfl, binI, AO.row?, splice, fillL, mmAll, loadV, storeV, zeros, Am.rowAt, Am.part, addOff, Nat.reduceAdd, Nat.reduceMul, Nat.reduceLeDiff, Nat.reduceSub, Nat.reduceLT, Int.reduceEq, Int.reduceLT, Int.reduceLE, Int.reduceGT, Int.reduceGE, Int.reduceAdd, Int.reduceSub, Int.reduceMul, Int.reduceNeg, Int.reduceToNat, reduceCtorEq, reduceIte, lenV_sl H.p, lenV_sl H.b, elem_sp H.p, elem_bt H.b, view_sl H.p, view_sl H.b, scalar_sl H.p, scalar_sl H.b, cells_sl H.p, cells_sl H.b, pure_sl H.p, pure_sl H.b, Int.toNat_natCast, g, vE]
  · rw [hv] at g
    simp (disch := first | assumption | omega | (simp only [az]; done)) only [ru, eq_self, if_true, if_false, BEq.rfl, binI, AO.row?, splice, fillL, mmAll, loadV, storeV, zeros, Am.rowAt, Am.part, addOff, Nat.reduceAdd, Nat.reduceMul, Nat.reduceLeDiff, Nat.reduceSub, Nat.reduceLT, Int.reduceEq, Int.reduceLT, Int.reduceLE, Int.reduceGT, Int.reduceGE, Int.reduceAdd, Int.reduceSub, Int.reduceMul, Int.reduceNeg, Int.reduceToNat, reduceCtorEq, reduceIte, lenV_sl H.p, lenV_sl H.b, elem_sp H.p, elem_bt H.b, view_sl H.p, view_sl H.b, scalar_sl H.p, scalar_sl H.b, cells_sl H.p, cells_sl H.b, pure_sl H.p, pure_sl H.b, Int.toNat_natCast, g, vE]

/-- the error of one who asks for something that is there, or is not -/
def aE (v q : Bool) (e : Int) : Int := if v then (if q then 0 else e) else 50
theorem s89 (H : SeaOk s p b) (q : Bool) (st : Bool) : Iso E 89 [seaV s p b, Bo q] st = some (I (aE s.valid q 1)) := by
  have g := fun st => s53 H st
  refine Iso_of (es _ _ _ _) e89 ?_
  simp only [f89, seaV] at g ⊢
  cases hv : s.valid
  · rw [hv] at g
    simp (disch := first | assumption | omega | (simp only [az]; done)) only [ru, eq_self, if_true, if_false, BEq.rfl, binI, AO.row?, splice, fillL, mmAll, loadV, storeV, zeros, Am.rowAt, Am.part, addOff, Nat.reduceAdd, Nat.reduceMul, Nat.reduceLeDiff, Nat.reduceSub, Nat.reduceLT, Int.reduceEq, Int.reduceLT, Int.reduceLE, Int.reduceGT, Int.reduceGE, Int.reduceAdd, Int.reduceSub, Int.reduceMul, Int.reduceNeg, Int.reduceToNat, reduceCtorEq, reduceIte, lenV_sl H.p, lenV_sl H.b, elem_sp H.p, elem_bt H.b, view_sl H.p, view_sl H.b, scalar_sl H.p, scalar_sl H.b, cells_sl H.p, cells_sl H.b, pure_sl H.p, pure_sl H.b, Int.toNat_natCast, g, vE, aE]
  · rw [hv] at g
    cases q <;> simp (disch := first | assumption | omega | (simp only [az]; done)) only [ru, eq_self, if_true, if_false, BEq.rfl, binI, AO.row?, splice, fillL, mmAll, loadV, storeV, zeros, Am.rowAt, Am.part, addOff, Nat.reduceAdd, Nat.reduceMul, Nat.reduceLeDiff, Nat.reduceSub, Nat.reduceLT, Int.reduceEq, Int.reduceLT, Int.reduceLE, Int.reduceGT, Int.reduceGE, Int.reduceAdd, Int.reduceSub, Int.reduceMul, Int.reduceNeg, Int.reduceToNat, reduceCtorEq, reduceIte, lenV_sl H.p, lenV_sl H.b, elem_sp H.p, elem_bt H.b, view_sl H.p, view_sl H.b, scalar_sl H.p, scalar_sl H.b, cells_sl H.p, cells_sl H.b, pure_sl H.p, pure_sl H.b, Int.toNat_natCast, g, vE, aE]
theorem s75 (H : SeaOk s p b) (i : Int) (st : Bool) : Iso E 75 [seaV s p b, I i] st = some (I (aE s.valid (inR i 0 (s.pl.length - 1)) 1)) := by
  have g := fun st => s52 H st
  have g2 := fun st => s107 H i st
  refine Iso_of (es _ _ _ _) e75 ?_
  simp only [f75, seaV] at g g2 ⊢
  obtain ⟨q, hq⟩ : ∃ q, q = inR i 0 (s.pl.length - 1) := ⟨_, rfl⟩
  simp only [← hq] at g2 ⊢
  cases hv : s.valid
  · rw [hv] at g
    simp (disch := first | assumption | omega | (simp only [az]; done)) only [ru, eq_self, if_true, if_false, BEq.rfl, binI, AO.row?, splice, fillL, mmAll, loadV, storeV, zeros, Am.rowAt, Am.part, addOff, Nat.reduceAdd, Nat.reduceMul, Nat.reduceLeDiff, Nat.reduceSub, Nat.reduceLT, Int.reduceEq, Int.reduceLT, Int.reduceLE, Int.reduceGT, Int.reduceGE, Int.reduceAdd, Int.reduceSub, Int.reduceMul, Int.reduceNeg, Int.reduceToNat, reduceCtorEq, reduceIte, lenV_sl H.p, lenV_sl H.b, elem_sp H.p, elem_bt H.b, view_sl H.p, view_sl H.b, scalar_sl H.p, scalar_sl H.b, cells_sl H.p, cells_sl H.b, pure_sl H.p, pure_sl H.b, Int.toNat_natCast, g, vE, aE, gUn]
  · rw [hv] at g
    cases q <;> simp (disch := first | assumption | omega | (simp only [az]; done)) only [ru, eq_self, if_true, if_false, BEq.rfl, binI, AO.row?, splice, fillL, mmAll, loadV, storeV, zeros, Am.rowAt, Am.part, addOff, Nat.reduceAdd, Nat.reduceMul, Nat.reduceLeDiff, Nat.reduceSub, Nat.reduceLT, Int.reduceEq, Int.reduceLT, Int.reduceLE, Int.reduceGT, Int.reduceGE, Int.reduceAdd, Int.reduceSub, Int.reduceMul, Int.reduceNeg, Int.reduceToNat, reduceCtorEq, reduceIte, lenV_sl H.p, lenV_sl H.b, elem_sp H.p, elem_bt H.b, view_sl H.p, view_sl H.b, scalar_sl H.p, scalar_sl H.b, cells_sl H.p, cells_sl H.b, pure_sl H.p, pure_sl H.b, Int.toNat_natCast, g, g2, vE, aE]
theorem s103 (H : SeaOk s p b) (st : Bool) : Iso E 103 [seaV s p b] st = some (I (aE s.valid (decide (s.pl.length ≤ s.bo.length)) 3)) := by
  have g := fun st => s53 H st
  refine Iso_of (es _ _ _ _) e103 ?_
  simp only [f103, seaV] at g ⊢
  cases hv : s.valid
  · rw [hv] at g
    simp (disch := first | assumption | omega | (simp only [az]; done)) only [ru, eq_self, if_true, if_false, BEq.rfl, binI, AO.row?, splice, fillL, mmAll, loadV, storeV, zeros, Am.rowAt, Am.part, addOff, Nat.reduceAdd, Nat.reduceMul, Nat.reduceLeDiff, Nat.reduceSub, Nat.reduceLT, Int.reduceEq, Int.reduceLT, Int.reduceLE, Int.reduceGT, Int.reduceGE, Int.reduceAdd, Int.reduceSub, Int.reduceMul, Int.reduceNeg, Int.reduceToNat, reduceCtorEq, reduceIte, lenV_sl H.p, lenV_sl H.b, elem_sp H.p, elem_bt H.b, view_sl H.p, view_sl H.b, scalar_sl H.p, scalar_sl H.b, cells_sl H.p, cells_sl H.b, pure_sl H.p, pure_sl H.b, Int.toNat_natCast, g, vE, aE]
  · rw [hv] at g
    by_cases hc : s.pl.length ≤ s.bo.length
    · have e : ¬ (s.bo.length : Int) < s.pl.length := by omega
      simp (disch := first | assumption | omega | (simp only [az]; done)) only [ru, eq_self, if_true, if_false, BEq.rfl, binI, AO.row?, splice, fillL, mmAll, loadV, storeV, zeros, Am.rowAt, Am.part, addOff, Nat.reduceAdd, Nat.reduceMul, Nat.reduceLeDiff, Nat.reduceSub, Nat.reduceLT, Int.reduceEq, Int.reduceLT, Int.reduceLE, Int.reduceGT, Int.reduceGE, Int.reduceAdd, Int.reduceSub, Int.reduceMul, Int.reduceNeg, Int.reduceToNat, reduceCtorEq, reduceIte, lenV_sl H.p, lenV_sl H.b, elem_sp H.p, elem_bt H.b, view_sl H.p, view_sl H.b, scalar_sl H.p, scalar_sl H.b, cells_sl H.p, cells_sl H.b, pure_sl H.p, pure_sl H.b, Int.toNat_natCast, g, vE, aE, hc, e, decide_true]
    · have e : (s.bo.length : Int) < s.pl.length := by omega
      simp (disch := first | assumption | omega | (simp only [az]; done)) only [ru, eq_self, if_true, if_false, BEq.rfl, binI, AO.row?, splice, fillL, mmAll, loadV, storeV, zeros, Am.rowAt, Am.part, addOff, Nat.reduceAdd, Nat.reduceMul, Nat.reduceLeDiff, Nat.reduceSub, Nat.reduceLT, Int.reduceEq, Int.reduceLT, Int.reduceLE, Int.reduceGT, Int.reduceGE, Int.reduceAdd, Int.reduceSub, Int.reduceMul, Int.reduceNeg, Int.reduceToNat, reduceCtorEq, reduceIte, lenV_sl H.p, lenV_sl H.b, elem_sp H.p, elem_bt H.b, view_sl H.p, view_sl H.b, scalar_sl H.p, scalar_sl H.b, cells_sl H.p, cells_sl H.b, pure_sl H.p, pure_sl H.b, Int.toNat_natCast, g, vE, aE, hc, e, decide_false]
theorem s85 (H : SeaOk s p b) (st : Bool) : Iso E 85 [seaV s p b] st = some (I (aE s.valid (decide (s.pl.length ≤ s.bo.length)) 3)) := by
  have g := fun st => s52 H st
  refine Iso_of (es _ _ _ _) e85 ?_
  simp only [f85, seaV] at g ⊢
  cases hv : s.valid
  · rw [hv] at g
    simp (disch := first | assumption | omega | (simp only [az]; done)) only [ru, eq_self, if_true, if_false, BEq.rfl, binI, AO.row?, splice, fillL, mmAll, loadV, storeV, zeros, Am.rowAt, Am.part, addOff, Nat.reduceAdd, Nat.reduceMul, Nat.reduceLeDiff, Nat.reduceSub, Nat.reduceLT, Int.reduceEq, Int.reduceLT, Int.reduceLE, Int.reduceGT, Int.reduceGE, Int.reduceAdd, Int.reduceSub, Int.reduceMul, Int.reduceNeg, Int.reduceToNat, reduceCtorEq, reduceIte, lenV_sl H.p, lenV_sl H.b, elem_sp H.p, elem_bt H.b, view_sl H.p, view_sl H.b, scalar_sl H.p, scalar_sl H.b, cells_sl H.p, cells_sl H.b, pure_sl H.p, pure_sl H.b, Int.toNat_natCast, g, vE, aE, gUn]
  · rw [hv] at g
    by_cases hc : s.pl.length ≤ s.bo.length
    · have e : ¬ (s.bo.length : Int) < s.pl.length := by omega
      simp (disch := first | assumption | omega | (simp only [az]; done)) only [ru, eq_self, if_true, if_false, BEq.rfl, binI, AO.row?, splice, fillL, mmAll, loadV, storeV, zeros, Am.rowAt, Am.part, addOff, Nat.reduceAdd, Nat.reduceMul, Nat.reduceLeDiff, Nat.reduceSub, Nat.reduceLT, Int.reduceEq, Int.reduceLT, Int.reduceLE, Int.reduceGT, Int.reduceGE, Int.reduceAdd, Int.reduceSub, Int.reduceMul, Int.reduceNeg, Int.reduceToNat, reduceCtorEq, reduceIte, lenV_sl H.p, lenV_sl H.b, elem_sp H.p, elem_bt H.b, view_sl H.p, view_sl H.b, scalar_sl H.p, scalar_sl H.b, cells_sl H.p, cells_sl H.b, pure_sl H.p, pure_sl H.b, Int.toNat_natCast, g, vE, aE, hc, e, decide_true]
    · have e : (s.bo.length : Int) < s.pl.length := by omega
      simp (disch := first | assumption | omega | (simp only [az]; done)) only [ru, eq_self, if_true, if_false, BEq.rfl, binI, AO.row?, splice, fillL, mmAll, loadV, storeV, zeros, Am.rowAt, Am.part, addOff, Nat.reduceAdd, Nat.reduceMul, Nat.reduceLeDiff, Nat.reduceSub, Nat.reduceLT, Int.reduceEq, Int.reduceLT, Int.reduceLE, Int.reduceGT, Int.reduceGE, Int.reduceAdd, Int.reduceSub, Int.reduceMul, Int.reduceNeg, Int.reduceToNat, reduceCtorEq, reduceIte, lenV_sl H.p, lenV_sl H.b, elem_sp H.p, elem_bt H.b, view_sl H.p, view_sl H.b, scalar_sl H.p, scalar_sl H.b, cells_sl H.p, cells_sl H.b, pure_sl H.p, pure_sl H.b, Int.toNat_natCast, g, vE, aE, hc, e, decide_false]
end
end Go.Proofs.Ytdmhbefdidmliaa.S

/-
Sums; are these the parts of a truth? What a place has, by the program.
-/
namespace Go.Proofs.Ytdmhbefdidmliaa.S
open Go Go.Am Go.Proofs.Ytdmhbefdidmliaa.T
set_option maxRecDepth 100000
set_option linter.unusedSimpArgs false
set_option linter.unusedVariables false

theorem sm_take {l : List Int} {i : Nat} (hi : i < l.length) : sm (l.take (i + 1)) = sm (l.take i) + l.getD i 0 := by
  rw [List.take_succ_eq_append_getElem hi, sm_app]
  simp [sm, List.getD_eq_getElem?_getD, hi]
theorem getD_memI {l : List Int} {i : Nat} (h : i < l.length) : l.getD i 0 ∈ l := by
  rw [List.getD_eq_getElem?_getD, List.getElem?_eq_getElem h]; exact List.getElem_mem h
theorem sm_bound {l : List Int} (hb : ∀ x ∈ l, 0 ≤ x ∧ x ≤ 1000) : ∀ {i : Nat}, i ≤ l.length → 0 ≤ sm (l.take i) ∧ sm (l.take i) ≤ 1000 * i
  | 0, _ => by simp [sm]
  | i + 1, hi => by
    have := sm_bound hb (i := i) (by omega)
    have := hb _ (getD_memI (l := l) (i := i) (by omega))
    rw [sm_take (by omega)]; omega
theorem s72 {l : List Int} {v : AV} (V : IsSl 1 intL l v) (hl : l.length ≤ 41) (hb : ∀ x ∈ l, 0 ≤ x ∧ x ≤ 1000) (st : Bool) : Iso E 72 [v] st = some (I (sm l)) := by
  refine Iso_of (es _ _ _ _) e72 ?_
  simp only [f72]
  simp (disch := first | assumption | omega | (simp only [az]; done)) only [ru, eq_self, if_true, if_false, BEq.rfl, binI, AO.row?, splice, fillL, mmAll, loadV, storeV, zeros, Am.rowAt, Am.part, addOff, Nat.reduceAdd, Nat.reduceMul, Nat.reduceLeDiff, Nat.reduceSub, Nat.reduceLT, Int.reduceEq, Int.reduceLT, Int.reduceLE, Int.reduceGT, Int.reduceGE, Int.reduceAdd, Int.reduceSub, Int.reduceMul, Int.reduceNeg, Int.reduceToNat, reduceCtorEq, reduceIte]
  refine G_loop_ind (fun m ts h mk => ∃ i : Nat, i ≤ l.length ∧ m = l.length - i ∧ ts.length = 18 ∧ ts.getD 0 .undef = v ∧ ts.getD 3 .undef = I (sm (l.take i)) ∧ ts.getD 4 .undef = I i ∧ h = [] ∧ mk = []) ?_ _ _ _ _ ⟨0, Nat.zero_le _, rfl, rfl, rfl, rfl, rfl, rfl, rfl⟩
  rintro m ts h mk ih ⟨i, hi, rfl, hl', q0, q3, q4, rfl, rfl⟩
  rw [lit_all hl']
  simp only [lit0, litS, Nat.reduceAdd, q0, q3, q4]
  simp (disch := first | assumption | omega | (simp only [az]; done)) only [ru, eq_self, if_true, if_false, BEq.rfl, binI, AO.row?, splice, fillL, mmAll, loadV, storeV, zeros, Am.rowAt, Am.part, addOff, Nat.reduceAdd, Nat.reduceMul, Nat.reduceLeDiff, Nat.reduceSub, Nat.reduceLT, Int.reduceEq, Int.reduceLT, Int.reduceLE, Int.reduceGT, Int.reduceGE, Int.reduceAdd, Int.reduceSub, Int.reduceMul, Int.reduceNeg, Int.reduceToNat, reduceCtorEq, reduceIte, lenV_sl V, elem_in V, view_sl V, scalar_sl V, cells_sl V, pure_sl V, Int.toNat_natCast]
  by_cases hlt : (i : Int) < l.length
  case pos =>
    have hi' : i < l.length := by omega
    have b1 := sm_bound hb hi
    have b2 := hb _ (getD_memI hi')
    obtain ⟨x, hx⟩ : ∃ x, x = l.getD i 0 := ⟨_, rfl⟩
    rw [← hx] at b2
    simp (disch := first | assumption | omega | (simp only [az]; done)) only [ru, eq_self, if_true, if_false, BEq.rfl, binI, AO.row?, splice, fillL, mmAll, loadV, storeV, zeros, Am.rowAt, Am.part, addOff, Nat.reduceAdd, Nat.reduceMul, Nat.reduceLeDiff, Nat.reduceSub, Nat.reduceLT, Int.reduceEq, Int.reduceLT, Int.reduceLE, Int.reduceGT, Int.reduceGE, Int.reduceAdd, Int.reduceSub, Int.reduceMul, Int.reduceNeg, Int.reduceToNat, reduceCtorEq, reduceIte, lenV_sl V, elem_in V, view_sl V, scalar_sl V, cells_sl V, pure_sl V, Int.toNat_natCast, hlt, ← hx]
    exact ih (l.length - (i + 1)) _ _ _ (by omega) ⟨i + 1, by omega, rfl, rfl, rfl, by rw [sm_take hi', ← hx]; rfl, rfl, rfl, rfl⟩
  obtain rfl : i = l.length := by omega
  simp (disch := first | assumption | omega | (simp only [az]; done)) only [ru, eq_self, if_true, if_false, BEq.rfl, binI, AO.row?, splice, fillL, mmAll, loadV, storeV, zeros, Am.rowAt, Am.part, addOff, Nat.reduceAdd, Nat.reduceMul, Nat.reduceLeDiff, Nat.reduceSub, Nat.reduceLT, Int.reduceEq, Int.reduceLT, Int.reduceLE, Int.reduceGT, Int.reduceGE, Int.reduceAdd, Int.reduceSub, Int.reduceMul, Int.reduceNeg, Int.reduceToNat, reduceCtorEq, reduceIte, hlt, List.take_length]

section
variable {s : Sea} {p b : AV}

/-- which numbers of a list are within the spans -/
def fitL (L : List Spn) (l : List Int) (i : Nat) : Bool := inR (l.getD i 0) (L.getD i default).lo (L.getD i default).hi
theorem areP_fit {L : List Spn} {l : List Int} (h1 : l.length = L.length) : areP L l = ((List.range l.length).all (fitL L l) && decide (sm l = 12)) := by
  simp only [areP, h1, decide_true, Bool.true_and]; rfl
theorem fit_bound {L : List Spn} (H : SpOk L) {l : List Int} (h1 : l.length = L.length) (h : (List.range l.length).all (fitL L l) = true) : ∀ x ∈ l, 0 ≤ x ∧ x ≤ 1000 := by
  intro x hx
  obtain ⟨i, hi, rfl⟩ := mem_getD (d := 0) hx
  rw [List.all_eq_true] at h
  have := inR_iff.1 (h i (List.mem_range.2 hi))
  have := H.at (p := i) (by omega)
  omega

theorem s18 (H : SeaOk s p b) (G : SpOk s.pl) {l : List Int} {v : AV} (V : IsSl 1 intL l v) (hl : l.length ≤ 41) (st : Bool) : Iso E 18 [seaV s p b, v] st = some (Bo (areP s.pl l)) := by
  have sp := H.sp
  refine Iso_of (es _ _ _ _) e18 ?_
  simp only [f18, seaV]
  by_cases h1 : l.length = s.pl.length
  case neg =>
    have e : ¬ (l.length : Int) = s.pl.length := by omega
    have ev : areP s.pl l = false := by simp [areP, h1]
    simp (disch := first | assumption | omega | (simp only [az]; done)) only [ru, eq_self, if_true, if_false, BEq.rfl, binI, AO.row?, splice, fillL, mmAll, loadV, storeV, zeros, Am.rowAt, Am.part, addOff, Nat.reduceAdd, Nat.reduceMul, Nat.reduceLeDiff, Nat.reduceSub, Nat.reduceLT, Int.reduceEq, Int.reduceLT, Int.reduceLE, Int.reduceGT, Int.reduceGE, Int.reduceAdd, Int.reduceSub, Int.reduceMul, Int.reduceNeg, Int.reduceToNat, reduceCtorEq, reduceIte, lenV_sl H.p, lenV_sl H.b, elem_sp H.p, elem_bt H.b, view_sl H.p, view_sl H.b, scalar_sl H.p, scalar_sl H.b, cells_sl H.p, cells_sl H.b, pure_sl H.p, pure_sl H.b, Int.toNat_natCast, lenV_sl V, elem_in V, view_sl V, scalar_sl V, cells_sl V, pure_sl V, Int.toNat_natCast, e, ev, decide_false, Bool.not_false]
  have e : (l.length : Int) = s.pl.length := by omega
  rw [areP_fit h1]
  simp (disch := first | assumption | omega | (simp only [az]; done)) only [ru, eq_self, if_true, if_false, BEq.rfl, binI, AO.row?, splice, fillL, mmAll, loadV, storeV, zeros, Am.rowAt, Am.part, addOff, Nat.reduceAdd, Nat.reduceMul, Nat.reduceLeDiff, Nat.reduceSub, Nat.reduceLT, Int.reduceEq, Int.reduceLT, Int.reduceLE, Int.reduceGT, Int.reduceGE, Int.reduceAdd, Int.reduceSub, Int.reduceMul, Int.reduceNeg, Int.reduceToNat, reduceCtorEq, reduceIte, lenV_sl H.p, lenV_sl H.b, elem_sp H.p, elem_bt H.b, view_sl H.p, view_sl H.b, scalar_sl H.p, scalar_sl H.b, cells_sl H.p, cells_sl H.b, pure_sl H.p, pure_sl H.b, Int.toNat_natCast, lenV_sl V, elem_in V, view_sl V, scalar_sl V, cells_sl V, pure_sl V, Int.toNat_natCast, e, decide_true, Bool.not_true]
  refine G_loop_ind (fun m ts h mk => ∃ i : Nat, i ≤ l.length ∧ m = l.length - i ∧ (List.range i).all (fitL s.pl l) = true ∧ ts.length = 39 ∧ ts.getD 1 .undef = v ∧ ts.getD 2 .undef = .ptr 0 0 ∧ ts.getD 5 .undef = I i ∧ h = [.cells [I s.w.lo, I s.w.hi, p, b] false] ∧ mk = []) ?_ _ _ _ _ ⟨0, Nat.zero_le _, rfl, rfl, rfl, rfl, rfl, rfl, rfl, rfl⟩
  rintro m ts h mk ih ⟨i, hi, rfl, hall, hl', q1, q2, q5, rfl, rfl⟩
  rw [lit_all hl']
  simp only [lit0, litS, Nat.reduceAdd, q1, q2, q5]
  simp (disch := first | assumption | omega | (simp only [az]; done)) only [ru, eq_self, if_true, if_false, BEq.rfl, binI, AO.row?, splice, fillL, mmAll, loadV, storeV, zeros, Am.rowAt, Am.part, addOff, Nat.reduceAdd, Nat.reduceMul, Nat.reduceLeDiff, Nat.reduceSub, Nat.reduceLT, Int.reduceEq, Int.reduceLT, Int.reduceLE, Int.reduceGT, Int.reduceGE, Int.reduceAdd, Int.reduceSub, Int.reduceMul, Int.reduceNeg, Int.reduceToNat, reduceCtorEq, reduceIte, lenV_sl V, elem_in V, view_sl V, scalar_sl V, cells_sl V, pure_sl V, Int.toNat_natCast]
  by_cases hlt : (i : Int) < l.length
  case pos =>
    have hi' : i < l.length := by omega
    have hlt2 : (i : Int) < s.pl.length := by omega
    cases hc : fitL s.pl l i
    · have ev := range_not (N := l.length) hi' hc
      have hc' : inR (l.getD i 0) (s.pl.getD i default).lo (s.pl.getD i default).hi = false := hc
      simp (disch := first | assumption | omega | (simp only [az]; done)) only [ru, eq_self, if_true, if_false, BEq.rfl, binI, AO.row?, splice, fillL, mmAll, loadV, storeV, zeros, Am.rowAt, Am.part, addOff, Nat.reduceAdd, Nat.reduceMul, Nat.reduceLeDiff, Nat.reduceSub, Nat.reduceLT, Int.reduceEq, Int.reduceLT, Int.reduceLE, Int.reduceGT, Int.reduceGE, Int.reduceAdd, Int.reduceSub, Int.reduceMul, Int.reduceNeg, Int.reduceToNat, reduceCtorEq, reduceIte, lenV_sl H.p, lenV_sl H.b, elem_sp H.p, elem_bt H.b, view_sl H.p, view_sl H.b, scalar_sl H.p, scalar_sl H.b, cells_sl H.p, cells_sl H.b, pure_sl H.p, pure_sl H.b, Int.toNat_natCast, lenV_sl V, elem_in V, view_sl V, scalar_sl V, cells_sl V, pure_sl V, Int.toNat_natCast, hlt, hlt2, s71, hc', ev, Bool.not_false, Bool.false_and]
    · have hc' : inR (l.getD i 0) (s.pl.getD i default).lo (s.pl.getD i default).hi = true := hc
      simp (disch := first | assumption | omega | (simp only [az]; done)) only [ru, eq_self, if_true, if_false, BEq.rfl, binI, AO.row?, splice, fillL, mmAll, loadV, storeV, zeros, Am.rowAt, Am.part, addOff, Nat.reduceAdd, Nat.reduceMul, Nat.reduceLeDiff, Nat.reduceSub, Nat.reduceLT, Int.reduceEq, Int.reduceLT, Int.reduceLE, Int.reduceGT, Int.reduceGE, Int.reduceAdd, Int.reduceSub, Int.reduceMul, Int.reduceNeg, Int.reduceToNat, reduceCtorEq, reduceIte, lenV_sl H.p, lenV_sl H.b, elem_sp H.p, elem_bt H.b, view_sl H.p, view_sl H.b, scalar_sl H.p, scalar_sl H.b, cells_sl H.p, cells_sl H.b, pure_sl H.p, pure_sl H.b, Int.toNat_natCast, lenV_sl V, elem_in V, view_sl V, scalar_sl V, cells_sl V, pure_sl V, Int.toNat_natCast, hlt, hlt2, s71, hc', Bool.not_true]
      exact ih (l.length - (i + 1)) _ _ _ (by omega) ⟨i + 1, by omega, rfl, range_all_succ hall hc, rfl, rfl, rfl, rfl, rfl, rfl⟩
  obtain rfl : i = l.length := by omega
  have hs := fun st => s72 V hl (fit_bound G h1 hall) st
  simp (disch := first | assumption | omega | (simp only [az]; done)) only [ru, eq_self, if_true, if_false, BEq.rfl, binI, AO.row?, splice, fillL, mmAll, loadV, storeV, zeros, Am.rowAt, Am.part, addOff, Nat.reduceAdd, Nat.reduceMul, Nat.reduceLeDiff, Nat.reduceSub, Nat.reduceLT, Int.reduceEq, Int.reduceLT, Int.reduceLE, Int.reduceGT, Int.reduceGE, Int.reduceAdd, Int.reduceSub, Int.reduceMul, Int.reduceNeg, Int.reduceToNat, reduceCtorEq, reduceIte, lenV_sl V, elem_in V, view_sl V, scalar_sl V, cells_sl V, pure_sl V, Int.toNat_natCast, hlt, hs, hall, Bool.true_and]

theorem s74 (H : SeaOk s p b) (G : SpOk s.pl) (w : Int) {l : List Int} {v : AV} (V : IsSl 1 intL l v) (hl : l.length ≤ 41) (st : Bool) : Iso E 74 [seaV s p b, I w, v] st = some (Bo (inR w s.w.lo s.w.hi && areP s.pl l)) := by
  have sp := H.sp
  refine Iso_of (es _ _ _ _) e74 ?_
  simp only [f74, seaV]
  cases hw : inR w s.w.lo s.w.hi
  · simp (disch := first | assumption | omega | (simp only [az]; done)) only [ru, eq_self, if_true, if_false, BEq.rfl, binI, AO.row?, splice, fillL, mmAll, loadV, storeV, zeros, Am.rowAt, Am.part, addOff, Nat.reduceAdd, Nat.reduceMul, Nat.reduceLeDiff, Nat.reduceSub, Nat.reduceLT, Int.reduceEq, Int.reduceLT, Int.reduceLE, Int.reduceGT, Int.reduceGE, Int.reduceAdd, Int.reduceSub, Int.reduceMul, Int.reduceNeg, Int.reduceToNat, reduceCtorEq, reduceIte, lenV_sl H.p, lenV_sl H.b, elem_sp H.p, elem_bt H.b, view_sl H.p, view_sl H.b, scalar_sl H.p, scalar_sl H.b, cells_sl H.p, cells_sl H.b, pure_sl H.p, pure_sl H.b, Int.toNat_natCast, lenV_sl V, elem_in V, view_sl V, scalar_sl V, cells_sl V, pure_sl V, Int.toNat_natCast, s106, hw, gUn, Bool.not_false, Bool.false_and]
  by_cases h1 : l.length = s.pl.length
  case neg =>
    have e : ¬ (l.length : Int) = s.pl.length := by omega
    have ev : areP s.pl l = false := by simp [areP, h1]
    simp (disch := first | assumption | omega | (simp only [az]; done)) only [ru, eq_self, if_true, if_false, BEq.rfl, binI, AO.row?, splice, fillL, mmAll, loadV, storeV, zeros, Am.rowAt, Am.part, addOff, Nat.reduceAdd, Nat.reduceMul, Nat.reduceLeDiff, Nat.reduceSub, Nat.reduceLT, Int.reduceEq, Int.reduceLT, Int.reduceLE, Int.reduceGT, Int.reduceGE, Int.reduceAdd, Int.reduceSub, Int.reduceMul, Int.reduceNeg, Int.reduceToNat, reduceCtorEq, reduceIte, lenV_sl H.p, lenV_sl H.b, elem_sp H.p, elem_bt H.b, view_sl H.p, view_sl H.b, scalar_sl H.p, scalar_sl H.b, cells_sl H.p, cells_sl H.b, pure_sl H.p, pure_sl H.b, Int.toNat_natCast, lenV_sl V, elem_in V, view_sl V, scalar_sl V, cells_sl V, pure_sl V, Int.toNat_natCast, s106, hw, e, ev, decide_false, Bool.not_false, Bool.not_true, Bool.and_false]
  have e : (l.length : Int) = s.pl.length := by omega
  rw [areP_fit h1]
  simp (disch := first | assumption | omega | (simp only [az]; done)) only [ru, eq_self, if_true, if_false, BEq.rfl, binI, AO.row?, splice, fillL, mmAll, loadV, storeV, zeros, Am.rowAt, Am.part, addOff, Nat.reduceAdd, Nat.reduceMul, Nat.reduceLeDiff, Nat.reduceSub, Nat.reduceLT, Int.reduceEq, Int.reduceLT, Int.reduceLE, Int.reduceGT, Int.reduceGE, Int.reduceAdd, Int.reduceSub, Int.reduceMul, Int.reduceNeg, Int.reduceToNat, reduceCtorEq, reduceIte, lenV_sl H.p, lenV_sl H.b, elem_sp H.p, elem_bt H.b, view_sl H.p, view_sl H.b, scalar_sl H.p, scalar_sl H.b, cells_sl H.p, cells_sl H.b, pure_sl H.p, pure_sl H.b, Int.toNat_natCast, lenV_sl V, elem_in V, view_sl V, scalar_sl V, cells_sl V, pure_sl V, Int.toNat_natCast, s106, hw, e, decide_true, Bool.not_true, Bool.true_and]
  refine G_loop_ind (fun m ts h mk => ∃ i : Nat, i ≤ l.length ∧ m = l.length - i ∧ (List.range i).all (fitL s.pl l) = true ∧ ts.length = 44 ∧ ts.getD 2 .undef = v ∧ ts.getD 3 .undef = .ptr 0 0 ∧ ts.getD 7 .undef = I (sm (l.take i)) ∧ ts.getD 23 .undef = v ∧ ts.getD 24 .undef = I s.pl.length ∧ ts.getD 25 .undef = I i ∧ h = [.cells [I s.w.lo, I s.w.hi, p, b] false] ∧ mk = []) ?_ _ _ _ _
    ⟨0, Nat.zero_le _, rfl, rfl, rfl, rfl, rfl, rfl, rfl, rfl, rfl, rfl, rfl⟩
  rintro m ts h mk ih ⟨i, hi, rfl, hall, hl', q2, q3, q7, q23, q24, q25, rfl, rfl⟩
  rw [lit_all hl']
  simp only [lit0, litS, Nat.reduceAdd, q2, q3, q7, q23, q24, q25]
  simp (disch := first | assumption | omega | (simp only [az]; done)) only [ru, eq_self, if_true, if_false, BEq.rfl, binI, AO.row?, splice, fillL, mmAll, loadV, storeV, zeros, Am.rowAt, Am.part, addOff, Nat.reduceAdd, Nat.reduceMul, Nat.reduceLeDiff, Nat.reduceSub, Nat.reduceLT, Int.reduceEq, Int.reduceLT, Int.reduceLE, Int.reduceGT, Int.reduceGE, Int.reduceAdd, Int.reduceSub, Int.reduceMul, Int.reduceNeg, Int.reduceToNat, reduceCtorEq, reduceIte, lenV_sl V, elem_in V, view_sl V, scalar_sl V, cells_sl V, pure_sl V, Int.toNat_natCast]
  by_cases hlt : (i : Int) < s.pl.length
  case pos =>
    have hi' : i < l.length := by omega
    have hlt2 : (i : Int) < l.length := by omega
    cases hc : fitL s.pl l i
    · have ev := range_not (N := l.length) hi' hc
      have hc' : inR (l.getD i 0) (s.pl.getD i default).lo (s.pl.getD i default).hi = false := hc
      simp (disch := first | assumption | omega | (simp only [az]; done)) only [ru, eq_self, if_true, if_false, BEq.rfl, binI, AO.row?, splice, fillL, mmAll, loadV, storeV, zeros, Am.rowAt, Am.part, addOff, Nat.reduceAdd, Nat.reduceMul, Nat.reduceLeDiff, Nat.reduceSub, Nat.reduceLT, Int.reduceEq, Int.reduceLT, Int.reduceLE, Int.reduceGT, Int.reduceGE, Int.reduceAdd, Int.reduceSub, Int.reduceMul, Int.reduceNeg, Int.reduceToNat, reduceCtorEq, reduceIte, lenV_sl H.p, lenV_sl H.b, elem_sp H.p, elem_bt H.b, view_sl H.p, view_sl H.b, scalar_sl H.p, scalar_sl H.b, cells_sl H.p, cells_sl H.b, pure_sl H.p, pure_sl H.b, Int.toNat_natCast, lenV_sl V, elem_in V, view_sl V, scalar_sl V, cells_sl V, pure_sl V, Int.toNat_natCast, hlt, hlt2, s106, hc', ev, Bool.not_false, Bool.false_and]
    · have hc' : inR (l.getD i 0) (s.pl.getD i default).lo (s.pl.getD i default).hi = true := hc
      have hr := range_all_succ hall hc
      have tl : (l.take (i + 1)).length = i + 1 := by rw [List.length_take]; omega
      have hb : ∀ j, j ≤ i → 0 ≤ l.getD j 0 ∧ l.getD j 0 ≤ 12 := fun j hj => by
        rw [List.all_eq_true] at hr
        have := inR_iff.1 (hr j (List.mem_range.2 (by omega)))
        have := G.at (p := j) (by omega)
        omega
      have hs : ∀ j, j ≤ i + 1 → 0 ≤ sm (l.take j) ∧ sm (l.take j) ≤ 12 * j := by
        intro j
        induction j with
        | zero => intro _; simp [sm]
        | succ j ihj =>
          intro hj
          have := ihj (by omega)
          have := hb j (by omega)
          rw [sm_take (by omega)]; omega
      have b1 := hs i (by omega)
      have b2 := hb i (by omega)
      obtain ⟨x, hx⟩ : ∃ x, x = l.getD i 0 := ⟨_, rfl⟩
      rw [← hx] at b2 hc'
      simp (disch := first | assumption | omega | (simp only [az]; done)) only [ru, eq_self, if_true, if_false, BEq.rfl, binI, AO.row?, splice, fillL, mmAll, loadV, storeV, zeros, Am.rowAt, Am.part, addOff, Nat.reduceAdd, Nat.reduceMul, Nat.reduceLeDiff, Nat.reduceSub, Nat.reduceLT, Int.reduceEq, Int.reduceLT, Int.reduceLE, Int.reduceGT, Int.reduceGE, Int.reduceAdd, Int.reduceSub, Int.reduceMul, Int.reduceNeg, Int.reduceToNat, reduceCtorEq, reduceIte, lenV_sl H.p, lenV_sl H.b, elem_sp H.p, elem_bt H.b, view_sl H.p, view_sl H.b, scalar_sl H.p, scalar_sl H.b, cells_sl H.p, cells_sl H.b, pure_sl H.p, pure_sl H.b, Int.toNat_natCast, lenV_sl V, elem_in V, view_sl V, scalar_sl V, cells_sl V, pure_sl V, Int.toNat_natCast, hlt, hlt2, s106, ← hx, hc', Bool.not_true]
      exact ih (l.length - (i + 1)) _ _ _ (by omega) ⟨i + 1, by omega, rfl, hr, rfl, rfl, rfl, by rw [sm_take hi', ← hx]; rfl, rfl, rfl, rfl, rfl, rfl⟩
  obtain rfl : i = l.length := by omega
  simp (disch := first | assumption | omega | (simp only [az]; done)) only [ru, eq_self, if_true, if_false, BEq.rfl, binI, AO.row?, splice, fillL, mmAll, loadV, storeV, zeros, Am.rowAt, Am.part, addOff, Nat.reduceAdd, Nat.reduceMul, Nat.reduceLeDiff, Nat.reduceSub, Nat.reduceLT, Int.reduceEq, Int.reduceLT, Int.reduceLE, Int.reduceGT, Int.reduceGE, Int.reduceAdd, Int.reduceSub, Int.reduceMul, Int.reduceNeg, Int.reduceToNat, reduceCtorEq, reduceIte, hlt, hall, List.take_length, Bool.true_and]

/-! what a place has -/
theorem slo_le {L : List Spn} (H : SpOk L) : 0 ≤ slo L ∧ shi L ≤ 48 := by
  have h := sum_bound (L := L) (i := L.length) (by rw [List.take_length, List.all_eq_true]; exact fun x hx => spanOk_iff.2 (H.s x hx)) (Nat.le_refl _)
  rw [List.take_length] at h
  have := H.le
  omega
theorem SpOk.all {L : List Spn} (H : SpOk L) : L.all (spanOk · 12) = true := by
  rw [List.all_eq_true]; exact fun x hx => spanOk_iff.2 (H.s x hx)
theorem s76 (H : SeaOk s p b) (G : SpOk s.pl) {i : Nat} (hi : i < s.pl.length) (st : Bool) : Iso E 76 [seaV s p b, I i] st = some (.agg [I (shL s.pl i), I (shH s.pl i)]) := by
  have g := fun st => s108 H.p (by have := G.le; omega) G.all st
  have b1 := slo_le G
  have b2 := G.lo; have b3 := G.hi
  have b4 := G.at hi
  have b5 := slo_ge (fun s hs => ⟨(G.s s hs).1, (G.s s hs).2.1⟩) hi
  have hlt : (i : Int) < s.pl.length := by omega
  refine Iso_of (es _ _ _ _) e76 ?_
  simp only [f76, seaV, shL, shH, mx, mn]
  obtain ⟨x, hx⟩ : ∃ x, x = s.pl.getD i default := ⟨_, rfl⟩
  obtain ⟨lo, hlo⟩ : ∃ lo, lo = slo s.pl := ⟨_, rfl⟩
  obtain ⟨hh, hhi⟩ : ∃ hh, hh = shi s.pl := ⟨_, rfl⟩
  simp only [← hx, ← hlo, ← hhi] at g b1 b2 b3 b4 b5 ⊢
  simp (disch := first | assumption | omega | (simp only [az]; done)) only [ru, eq_self, if_true, if_false, BEq.rfl, binI, AO.row?, splice, fillL, mmAll, loadV, storeV, zeros, Am.rowAt, Am.part, addOff, Nat.reduceAdd, Nat.reduceMul, Nat.reduceLeDiff, Nat.reduceSub, Nat.reduceLT, Int.reduceEq, Int.reduceLT, Int.reduceLE, Int.reduceGT, Int.reduceGE, Int.reduceAdd, Int.reduceSub, Int.reduceMul, Int.reduceNeg, Int.reduceToNat, reduceCtorEq, reduceIte, lenV_sl H.p, lenV_sl H.b, elem_sp H.p, elem_bt H.b, view_sl H.p, view_sl H.b, scalar_sl H.p, scalar_sl H.b, cells_sl H.p, cells_sl H.b, pure_sl H.p, pure_sl H.b, Int.toNat_natCast, g, hlt, ← hx, finC, getRes, Option.some.injEq, exists_eq_left', mmx]
theorem s77 (H : SeaOk s p b) (K : SeaG s) {i : Nat} (hi : i < s.pl.length) (st : Bool) : Iso E 77 [seaV s p b, I i] st = some (.agg [I (s.w.lo * shL s.pl i), I (s.w.hi * shH s.pl i)]) := by
  have g := fun st => s76 H K.sp hi st
  have h1 := shr_le K.sp hi
  have h2 := need_ok K hi
  have w0 := K.w0; have w1 := K.w1; have w2 := K.w2
  have h3 : 0 ≤ s.w.lo * shL s.pl i := Int.mul_nonneg w0 h1.1
  have h4 : s.w.lo * shL s.pl i ≤ 2000 * 12 := Int.mul_le_mul (by omega) (by omega) h1.1 (by omega)
  refine Iso_of (es _ _ _ _) e77 ?_
  simp only [f77, seaV] at g ⊢
  obtain ⟨x, hx⟩ : ∃ x, x = shL s.pl i := ⟨_, rfl⟩
  obtain ⟨y, hy⟩ : ∃ y, y = shH s.pl i := ⟨_, rfl⟩
  simp only [← hx, ← hy] at g h1 h2 h3 h4 ⊢
  have h5 := h2.1; have h6 := h2.2.1
  obtain ⟨u, hu⟩ : ∃ u, u = s.w.lo * x := ⟨_, rfl⟩
  obtain ⟨w, hw⟩ : ∃ w, w = s.w.hi * y := ⟨_, rfl⟩
  simp only [← hu, ← hw] at h3 h4 h5 h6 ⊢
  simp (disch := first | assumption | omega | (simp only [az]; done)) only [ru, eq_self, if_true, if_false, BEq.rfl, binI, AO.row?, splice, fillL, mmAll, loadV, storeV, zeros, Am.rowAt, Am.part, addOff, Nat.reduceAdd, Nat.reduceMul, Nat.reduceLeDiff, Nat.reduceSub, Nat.reduceLT, Int.reduceEq, Int.reduceLT, Int.reduceLE, Int.reduceGT, Int.reduceGE, Int.reduceAdd, Int.reduceSub, Int.reduceMul, Int.reduceNeg, Int.reduceToNat, reduceCtorEq, reduceIte, lenV_sl H.p, lenV_sl H.b, elem_sp H.p, elem_bt H.b, view_sl H.p, view_sl H.b, scalar_sl H.p, scalar_sl H.b, cells_sl H.p, cells_sl H.b, pure_sl H.p, pure_sl H.b, Int.toNat_natCast, g, ← hu, ← hw, finC, getRes, Option.some.injEq, exists_eq_left']
theorem s91 (H : SeaOk s p b) (K : SeaG s) {i : Nat} (hi : i < s.pl.length) (st : Bool) : Iso E 91 [seaV s p b, I i] st = some (I (needv s i)) := by
  have g := fun st => s77 H K hi st
  obtain ⟨h5, h6, _⟩ := need_ok K hi
  refine Iso_of (es _ _ _ _) e91 ?_
  simp only [f91, seaV, needv] at g ⊢
  obtain ⟨w, hw⟩ : ∃ w, w = s.w.hi * shH s.pl i := ⟨_, rfl⟩
  simp only [← hw] at g h5 h6 ⊢
  have e : (w + 12 - 1).tdiv 12 = (w + 11) / 12 := by rw [Int.tdiv_eq_ediv_of_nonneg (by omega)]; congr 1; omega
  simp (disch := first | assumption | omega | (simp only [az]; done)) only [ru, eq_self, if_true, if_false, BEq.rfl, binI, AO.row?, splice, fillL, mmAll, loadV, storeV, zeros, Am.rowAt, Am.part, addOff, Nat.reduceAdd, Nat.reduceMul, Nat.reduceLeDiff, Nat.reduceSub, Nat.reduceLT, Int.reduceEq, Int.reduceLT, Int.reduceLE, Int.reduceGT, Int.reduceGE, Int.reduceAdd, Int.reduceSub, Int.reduceMul, Int.reduceNeg, Int.reduceToNat, reduceCtorEq, reduceIte, lenV_sl H.p, lenV_sl H.b, elem_sp H.p, elem_bt H.b, view_sl H.p, view_sl H.b, scalar_sl H.p, scalar_sl H.b, cells_sl H.p, cells_sl H.b, pure_sl H.p, pure_sl H.b, Int.toNat_natCast, g, e]
theorem s112 (H : SeaOk s p b) (K : SeaG s) {i : Nat} (hi : i < s.pl.length) {x : Int} (h0 : 0 ≤ x) (h1 : x < s.bo.length) (st : Bool) : Iso E 112 [seaV s p b, I i, I x] st = some (I (brs s.pl (boat s x).c i)) := by
  have g := fun st => s76 H K.sp hi st
  have hs := shr_le K.sp hi
  have hb := boat_ok K x
  refine Iso_of (es _ _ _ _) e112 ?_
  simp only [f112, seaV, brs, mn] at g ⊢
  obtain ⟨y, hy⟩ : ∃ y, y = shH s.pl i := ⟨_, rfl⟩
  have eb : s.bo.getD x.toNat default = boat s x := rfl
  obtain ⟨z, hz⟩ : ∃ z, z = boat s x := ⟨_, rfl⟩
  simp only [← hy, ← hz] at g hs hb eb ⊢
  by_cases e : y = 0
  · simp (disch := first | assumption | omega | (simp only [az]; done)) only [ru, eq_self, if_true, if_false, BEq.rfl, binI, AO.row?, splice, fillL, mmAll, loadV, storeV, zeros, Am.rowAt, Am.part, addOff, Nat.reduceAdd, Nat.reduceMul, Nat.reduceLeDiff, Nat.reduceSub, Nat.reduceLT, Int.reduceEq, Int.reduceLT, Int.reduceLE, Int.reduceGT, Int.reduceGE, Int.reduceAdd, Int.reduceSub, Int.reduceMul, Int.reduceNeg, Int.reduceToNat, reduceCtorEq, reduceIte, lenV_sl H.p, lenV_sl H.b, elem_sp H.p, elem_bt H.b, view_sl H.p, view_sl H.b, scalar_sl H.p, scalar_sl H.b, cells_sl H.p, cells_sl H.b, pure_sl H.p, pure_sl H.b, Int.toNat_natCast, g, e]
  · have hd : (12 * z.c).tdiv y = 12 * z.c / y := Int.tdiv_eq_ediv_of_nonneg (by omega)
    have d0 : 0 ≤ 12 * z.c / y := Int.ediv_nonneg (by omega) (by omega)
    have d1 : 12 * z.c / y ≤ 12 * z.c := Int.ediv_le_self _ (by omega)
    simp (disch := first | assumption | omega | (simp only [az]; done)) only [ru, eq_self, if_true, if_false, BEq.rfl, binI, AO.row?, splice, fillL, mmAll, loadV, storeV, zeros, Am.rowAt, Am.part, addOff, Nat.reduceAdd, Nat.reduceMul, Nat.reduceLeDiff, Nat.reduceSub, Nat.reduceLT, Int.reduceEq, Int.reduceLT, Int.reduceLE, Int.reduceGT, Int.reduceGE, Int.reduceAdd, Int.reduceSub, Int.reduceMul, Int.reduceNeg, Int.reduceToNat, reduceCtorEq, reduceIte, lenV_sl H.p, lenV_sl H.b, elem_sp H.p, elem_bt H.b, view_sl H.p, view_sl H.b, scalar_sl H.p, scalar_sl H.b, cells_sl H.p, cells_sl H.b, pure_sl H.p, pure_sl H.b, Int.toNat_natCast, g, e, eb, hd, mmx]
end
end Go.Proofs.Ytdmhbefdidmliaa.S

/-
Lists of numbers that lie in a heap, lists of lists that are being made, appends.
-/
namespace Go.Proofs.Ytdmhbefdidmliaa.S
open Go Go.Am Go.Proofs.Ytdmhbefdidmliaa.T
set_option maxRecDepth 100000
set_option linter.unusedSimpArgs false
set_option linter.unusedVariables false

theorem mapM_view {st : Bool} {h : List AO} {n : Nat} : ∀ {c : List AV}, (∀ x ∈ c, view st h n x = some x) → c.mapM (view st h n) = some c
  | [], _ => rfl
  | a :: c, hc => by
    simp only [List.mapM_cons, hc a (by simp), mapM_view (c := c) (fun x hx => hc x (by simp [hx])), Option.bind_eq_bind, Option.bind_some, Option.pure_def]
theorem flat_view {α : Type} {enc : α → List AV} {st : Bool} {h : List AO} {n : Nat} (hi : ∀ a, ∀ x ∈ enc a, ∃ k i, x = .int k i) (l : List α) : (l.flatMap enc).mapM (view st h n) = some (l.flatMap enc) :=
  mapM_view fun x hx => by
    obtain ⟨a, _, hx⟩ := List.mem_flatMap.1 hx
    obtain ⟨k, i, rfl⟩ := hi a x hx
    exact view_int
theorem flat_take {α : Type} {enc : α → List AV} {l : List α} {k : Nat} (he : ∀ a, (enc a).length = k) : (l.flatMap enc).take (l.length * k) = l.flatMap enc := List.take_of_length_le (by rw [flat_len he]; omega)
theorem flat1 (l : List Int) : (l.flatMap fun n => [I n]).length = l.length := by
  have := flat_len (enc := fun n : Int => [I n]) (esz := 1) (fun _ => rfl) l
  omega
theorem Spn.iv (s : Spn) : ∀ x ∈ s.e, ∃ k i, x = .int k i := by simp [Spn.e]
theorem Bt.iv (s : Bt) : ∀ x ∈ s.e, ∃ k i, x = .int k i := by simp [Bt.e]
theorem intIv (n : Int) : ∀ x ∈ intL n, ∃ k i, x = .int k i := by simp
/-- a list of numbers that lies in the heap -/
def RdS (h : List AO) (v : AV) (l : List Int) : Prop := (l = [] ∧ v = .nils) ∨ (l ≠ [] ∧ ∃ o sh, v = .ms 1 o 0 l.length ∧ h[o]? = some (.cells (l.flatMap fun n => [I n]) sh))
/-- one heap came out of another: what was there is as it was -/
structure Fr (h h' : List AO) : Prop where
  l : h.length ≤ h'.length
  k : ∀ j, j < h.length → h'[j]? = h[j]?
theorem Fr.refl (h : List AO) : Fr h h := ⟨Nat.le_refl _, fun _ _ => rfl⟩
theorem Fr.trans {a b c : List AO} (h : Fr a b) (h' : Fr b c) : Fr a c := ⟨Nat.le_trans h.l h'.l, fun j hj => (h'.k j (Nat.lt_of_lt_of_le hj h.l)).trans (h.k j hj)⟩
theorem Fr.app (h J : List AO) : Fr h (h ++ J) := ⟨by simp, fun j hj => List.getElem?_append_left hj⟩
theorem Fr.at {h h' : List AO} (F : Fr h h') {j : Nat} {x : AO} (hx : h[j]? = some x) : h'[j]? = some x := by rw [F.k j (List.getElem?_eq_some_iff.1 hx).1]; exact hx
theorem RdS.fr {h h' : List AO} {v : AV} {l : List Int} (H : RdS h v l) (F : Fr h h') : RdS h' v l := by
  rcases H with h1 | ⟨hne, o, sh, rfl, hc⟩
  · exact .inl h1
  · exact .inr ⟨hne, o, sh, rfl, F.at hc⟩
theorem RdS.len {h : List AO} {v : AV} {l : List Int} (H : RdS h v l) : lenV v = some (I l.length) ∧ v.cells = [v] ∧ v.scalar = true := by
  rcases H with ⟨rfl, rfl⟩ | ⟨hne, o, sh, rfl, hc⟩ <;> exact ⟨rfl, rfl, rfl⟩
theorem RdS.row {h : List AO} {v : AV} {l : List Int} (H : RdS h v l) : lenOf v = some l.length ∧ Am.rowOf h v = some (l.flatMap fun n => [I n]) := by
  rcases H with ⟨rfl, rfl⟩ | ⟨hne, o, sh, rfl, hc⟩
  · exact ⟨rfl, rfl⟩
  · refine ⟨rfl, ?_⟩
    have e : (l.flatMap fun n => [I n]).take (l.length * 1) = l.flatMap fun n => [I n] := List.take_of_length_le (by rw [flat1]; omega)
    rw [Nat.mul_one] at e
    simp only [rowOf_ms, Am.rowAt, hc, Option.bind_some, AO.row?, List.drop_zero, Nat.mul_one, e, flat1, if_true]
theorem RdS.view {h : List AO} {v : AV} {l : List Int} (H : RdS h v l) {st : Bool} {k : Nat} : Am.view st h (k + 1) v = some (resL l) := by
  have hr := H.row.2
  rcases H with ⟨rfl, rfl⟩ | ⟨hne, o, sh, rfl, hc⟩
  · rfl
  · rw [view_ms, hr]
    simp only [flat_view (enc := fun n : Int => [I n]) (fun a x hx => ⟨_, _, by simpa using hx⟩), Option.map_some, resL, hne, if_false, slV]
theorem flat_sc (l : List Int) : (l.flatMap fun n => [I n]).all AV.scalar = true := scal_sl (fun _ => rfl) l
section
variable {α : Type} {l m : List α} {j : Nat} {x : α}
theorem setT : (l ++ m).set (l.length + j) x = l ++ m.set j x := by rw [List.set_append_right _ _ (by omega), Nat.add_sub_cancel_left]
theorem setT0 : (l ++ m).set l.length x = l ++ m.set 0 x := setT (j := 0)
theorem getT : (l ++ m).getD (l.length + j) x = m.getD j x := by simp [List.getD_eq_getElem?_getD, List.getElem?_append_right]
theorem getT0 : (l ++ m).getD l.length x = m.getD 0 x := getT (j := 0)
theorem atT : (l ++ m)[l.length + j]? = m[j]? := by rw [List.getElem?_append_right (by omega), Nat.add_sub_cancel_left]
theorem atT0 : (l ++ m)[l.length]? = m[0]? := atT (j := 0)
theorem set_same (h : l[j]? = some x) : l.set j x = l := by
  apply List.ext_getElem?
  intro i
  rw [List.getElem?_set]
  split
  · rename_i e; subst e
    rw [if_pos (List.getElem?_eq_some_iff.1 h).1, h]
  · rfl
end

/-! a list of lists that is being made -/
def OutLL (b : Nat) (h : List AO) (v : AV) (L : List (List Int)) : Prop := (L = [] ∧ v = .nils) ∨ (L ≠ [] ∧ ∃ o vs, b ≤ o ∧ v = .ms 1 o 0 L.length ∧ h[o]? = some (.cells vs false) ∧ vs.length = L.length ∧ ∀ i, i < L.length → RdS h (vs.getD i .undef) (L.getD i []))
theorem OutLL.fr {b : Nat} {h h' : List AO} {v : AV} {L : List (List Int)} (H : OutLL b h v L) (F : Fr h h') : OutLL b h' v L := by
  rcases H with h1 | ⟨hne, o, vs, ho, rfl, hc, hl, hr⟩
  · exact .inl h1
  · exact .inr ⟨hne, o, vs, ho, rfl, F.at hc, hl, fun i hi => (hr i hi).fr F⟩
theorem OutLL.len {b : Nat} {h : List AO} {v : AV} {L : List (List Int)} (H : OutLL b h v L) : lenV v = some (I L.length) := by
  rcases H with ⟨rfl, rfl⟩ | ⟨hne, o, vs, ho, rfl, hc, hl, hr⟩ <;> rfl

/-! appends in a region of open order -/
noncomputable def appG (keep : Bool) (lim p esz eb : Nat) (h : List AO) (s x : AV) : Option (AV × List AO) := exOp (fun _ _ _ _ => none) lim (some p) (fun o => match o with | .t 0 => s | _ => x) h (.append keep esz eb (.t 0) (.t 1))
theorem exOp_gapp {call : Am.Callee} {keep : Bool} {lim p esz eb : Nat} {ρ : Opd → AV} {h : List AO} {a x : Opd} : exOp call lim (some p) ρ h (.append keep esz eb a x) = appG keep lim p esz eb h (ρ a) (ρ x) := id rfl
theorem appG_zero {keep : Bool} {lim p esz eb sl : Nat} {h : List AO} {s x : AV} (hs : lenOf s = some sl) (hx : lenOf x = some 0) (hr : Am.rowOf h x = some []) : appG keep lim p esz eb h s x = some (s, h) := by
  simp only [appG, exOp, hs, hx, hr, List.length_nil, Nat.zero_mul, if_true]
theorem appG_nil {keep : Bool} {lim p esz eb n : Nat} {h : List AO} {x : AV} {xs : List AV} (hn : n ≠ 0) (hx : lenOf x = some n) (hr : Am.rowOf h x = some xs) (hl : xs.length = n * esz) (hs : xs.all AV.scalar = true) (hb : n * eb ≤ 140737488355328) (heb : 1 ≤ eb) :
    appG keep lim p esz eb h .nils x = some (.ms esz p 0 n, h.set p (.cells xs false)) := by
  simp only [appG, exOp, lenOf_nils, hx, hr, hl, hn, hs, hb, heb, Nat.zero_add, if_true, if_false, and_self, newAt, Option.getD_some]
theorem appG_ms {keep : Bool} {lim p esz eb n o len : Nat} {h : List AO} {x : AV} {c xs : List AV} (hn : n ≠ 0) (ho : h[o]? = some (.cells c false)) (hc : len * esz = c.length) (hx : lenOf x = some n) (hr : Am.rowOf h x = some xs) (hl : xs.length = n * esz) (hs : xs.all AV.scalar = true)
    (hb : (len + n) * eb ≤ 140737488355328) (heb : 1 ≤ eb) (hlim : lim ≤ o) :
    appG keep lim p esz eb h (.ms esz o 0 len) x = some (.ms esz p 0 (len + n), (h.set o (if keep then .ro c else .tomb)).set p (.cells (c ++ xs) (keep && len != 0))) := by
  simp only [appG, exOp, lenOf_ms, hx, hr, hl, hn, hs, hb, heb, ho, hc, hlim, if_true, if_false, and_self, true_and, true_or, newObj', Option.getD_some, List.take_length, Bool.or_false]

theorem GO_mcall0 {X : Cx} {base : Nat} {k : List KF} {ts : List AV} {h : List AO} {mk : List Nat} {r : List AOper} {d : Option Nat} {f : Nat} {args : List Opd} {m : List Nat} :
    GO X base (⟨d, .call 0 f args, none, none, m⟩ :: r) k ts h mk = GX X base ((R X.E (.fn f) (args.map (Opd.ev ts)) (hide base m h) X.lim).map fun y => (y.1, unhide base h m y.2)) d r k ts mk := by
  rw [GO_slot]
  congr 1
  show exMask (R X.E) X.lim base none (Opd.ev ts) h (.call 0 f args) m = _
  rw [exMask_eq]; rfl
theorem GO_mapp {X : Cx} {base : Nat} {k : List KF} {ts : List AV} {h : List AO} {mk : List Nat} {r : List AOper} {d : Option Nat} {kp : Bool} {e eb s : Nat} {a x : Opd} {m : List Nat} :
    GO X base (⟨d, .append kp e eb a x, none, some s, m⟩ :: r) k ts h mk = GX X base ((appG kp X.lim (base + s) e eb (hide base m h) (a.ev ts) (x.ev ts)).map fun y => (y.1, unhide base h m y.2)) d r k ts mk := by
  rw [GO_slot]
  congr 1
  show exMask (R X.E) X.lim base (some (base + s)) (Opd.ev ts) h (.append kp e eb a x) m = _
  rw [exMask_eq]; rfl
theorem unhN {b : Nat} {h g : List AO} : unhide b h [] g = g := id rfl
theorem unhC {b s : Nat} {r : List Nat} {h g : List AO} : unhide b h (s :: r) g = (unhide b h r g).set (b + s) (h.getD (b + s) .tomb) := id rfl
/-- the first append: a copy of the list so far -/
theorem app_one {lim : Nat} {h : List AO} {fv : AV} {F : List Int} (hF : RdS h fv F) (hb : F.length ≤ 1000) (hlim : lim ≤ h.length) : ∃ q x0 x1, q < 2 ∧ appG true lim (h.length + 1) 1 8 (h ++ [.cells [] false, .tomb, .tomb, .tomb, .tomb]) (.ms 1 h.length 0 0) fv = some (.ms 1 (h.length + q) 0 F.length, h ++ [x0, x1, .tomb, .tomb, .tomb]) ∧
    [x0, x1][q]? = some (.cells (F.flatMap fun n => [I n]) false) := by
  by_cases hz : F = []
  · subst hz
    refine ⟨0, .cells [] false, .tomb, by omega, ?_, rfl⟩
    have hr := (hF.fr (Fr.app h [.cells [] false, .tomb, .tomb, .tomb, .tomb])).row
    rw [appG_zero (sl := 0) rfl hr.1 hr.2]
    rfl
  · have hr := (hF.fr (Fr.app h [.cells [] false, .tomb, .tomb, .tomb, .tomb])).row
    have hn : F.length ≠ 0 := fun e => hz (List.eq_nil_of_length_eq_zero e)
    refine ⟨1, .ro [], .cells (F.flatMap fun n => [I n]) false, by omega, ?_, rfl⟩
    rw [appG_ms (c := []) hn atA0 rfl hr.1 hr.2 (by rw [flat1]; omega) (flat_sc F) (by omega) (by omega) hlim, setT0, setT]
    simp
theorem app_two {lim : Nat} {h : List AO} {F : List Int} {q : Nat} {x0 x1 : AO} {y : Int} (hq : q < 2) (hx : [x0, x1][q]? = some (.cells (F.flatMap fun n => [I n]) false)) (hb : F.length ≤ 1000) (hlim : lim ≤ h.length) :
    ∃ y0 y1 sh, appG true lim (h.length + 3) 1 8 (h ++ [x0, x1, .cells [I y] false, .tomb, .tomb]) (.ms 1 (h.length + q) 0 F.length) (.ms 1 (h.length + 2) 0 1) = some (.ms 1 (h.length + 3) 0 (F.length + 1), h ++ [y0, y1, .cells [I y] false, .cells ((F ++ [y]).flatMap fun n => [I n]) sh, .tomb]) := by
  have hr : Am.rowOf (h ++ [x0, x1, .cells [I y] false, .tomb, .tomb]) (.ms 1 (h.length + 2) 0 1) = some [I y] := by
    simp only [rowOf_ms, Am.rowAt, atT]; rfl
  have ho : (h ++ [x0, x1, .cells [I y] false, .tomb, .tomb])[h.length + q]? = some (.cells (F.flatMap fun n => [I n]) false) := by
    rw [atT]
    match q, hq with
    | 0, _ => exact hx
    | 1, _ => exact hx
  have key := appG_ms (keep := true) (lim := lim) (p := h.length + 3) (esz := 1) (eb := 8) (n := 1) (len := F.length) (x := .ms 1 (h.length + 2) 0 1) (xs := [I y]) (by omega) ho (by rw [flat1]; omega) rfl hr rfl rfl (by omega) (by omega) (by omega)
  rw [key, setT, setT]
  match q, hq with
  | 0, _ => exact ⟨_, _, _, by simp only [set0, setS, List.flatMap_append]; rfl⟩
  | 1, _ => exact ⟨_, _, _, by simp only [set0, setS, List.flatMap_append]; rfl⟩

/-- the last append: the lists of one grip behind those so far -/
theorem app_ll {lim b p : Nat} {h : List AO} {v x : AV} {L M : List (List Int)} (hL : OutLL b h v L) (hM : OutLL b h x M) (hMn : M ≠ []) (hp : h[p]? = some .tomb) (hbp : b ≤ p) (hlim : lim ≤ b) (hlen : L.length + M.length ≤ 100000) :
    ∃ h', appG false lim p 1 24 h v x = some (.ms 1 p 0 (L.length + M.length), h') ∧ h.length = h'.length ∧ (∀ j, j < b → h'[j]? = h[j]?) ∧ OutLL b h' (.ms 1 p 0 (L.length + M.length)) (L ++ M) := by
  rcases hM with ⟨rfl, _⟩ | ⟨_, o2, vs2, ho2, rfl, hc2, hl2, hr2⟩
  · exact absurd rfl hMn
  have hn : M.length ≠ 0 := fun e => hMn (List.eq_nil_of_length_eq_zero e)
  have hrow : Am.rowOf h (.ms 1 o2 0 M.length) = some vs2 := by
    simp only [rowOf_ms, Am.rowAt, hc2, Option.bind_some, AO.row?, List.drop_zero, Nat.mul_one, ← hl2, List.take_length, if_true]
  have hsc : ∀ {vs : List AV} {K : List (List Int)}, vs.length = K.length → (∀ i, i < K.length → RdS h (vs.getD i .undef) (K.getD i [])) → vs.all AV.scalar = true := by
    intro vs K hl hr
    rw [List.all_eq_true]
    intro y hy
    obtain ⟨i, hi, rfl⟩ := List.mem_iff_getElem.1 hy
    have := (hr i (by omega)).len.2.2
    simpa [List.getD_eq_getElem?_getD, hi] using this
  have hpl := (List.getElem?_eq_some_iff.1 hp).1
  -- what a list of numbers is, is no list of lists
  have keep : ∀ {k : Nat} {y : AO} {u : AV} {l : List Int}, RdS h u l → (h[k]? = some .tomb ∨ ∃ vs : List AV, h[k]? = some (.cells vs false) ∧ ∃ z, vs.head? = some z ∧ ∀ i, z ≠ I i) → RdS (h.set k y) u l := by
    rintro k y u l (h1 | ⟨hne, o, sh, rfl, hc⟩) hk
    · exact .inl h1
    · refine .inr ⟨hne, o, sh, rfl, ?_⟩
      rw [List.getElem?_set_ne, hc]
      rintro rfl
      rcases hk with hk | ⟨vs, hk, z, hz, hzi⟩
      · rw [hk] at hc; cases hc
      · rw [hk] at hc
        simp only [Option.some.injEq, AO.cells.injEq] at hc
        obtain ⟨rfl, _⟩ := hc
        match l, hne with
        | i :: l, _ => simp at hz; exact hzi i hz.symm
  rcases hL with ⟨rfl, rfl⟩ | ⟨hne, o, vs, ho, rfl, hc, hl, hr⟩
  · refine ⟨h.set p (.cells vs2 false), ?_, by simp, fun j hj => by rw [List.getElem?_set_ne (by omega)], .inr ⟨by simpa using hMn, p, vs2, hbp, ?_, by simp [hpl], by simpa using hl2, fun i hi => ?_⟩⟩
    · rw [appG_nil hn rfl hrow (by omega) (hsc hl2 hr2) (by simp at hlen; omega) (by omega)]
      simp
    · simp
    · simp only [List.nil_append] at hi ⊢
      exact keep (hr2 i hi) (.inl hp)
  · have hnL : L.length ≠ 0 := fun e => hne (List.eq_nil_of_length_eq_zero e)
    have hop : o ≠ p := by rintro rfl; rw [hc] at hp; cases hp
    have hz : ∃ z, vs.head? = some z ∧ ∀ i, z ≠ I i := by
      match vs, hl with
      | [], hl => simp at hl; omega
      | z :: vs, hl =>
        refine ⟨z, rfl, fun i e => ?_⟩
        have := hr 0 (by omega)
        simp only [get0] at this
        subst e
        rcases this with ⟨_, h⟩ | ⟨_, _, _, h, _⟩ <;> cases h
    obtain ⟨z, hz1, hz2⟩ := hz
    have k2 : ∀ {u : AV} {l : List Int}, RdS h u l → RdS ((h.set o .tomb).set p (.cells (vs ++ vs2) false)) u l := by
      intro u l hu
      have h1 := keep (k := o) (y := .tomb) hu (.inr ⟨vs, hc, z, hz1, hz2⟩)
      rcases h1 with h1 | ⟨hne', o', sh, rfl, hc'⟩
      · exact .inl h1
      · refine .inr ⟨hne', o', sh, rfl, ?_⟩
        rw [List.getElem?_set_ne, hc']
        rintro rfl
        rw [List.getElem?_set_ne hop, hp] at hc'; cases hc'
    refine ⟨(h.set o .tomb).set p (.cells (vs ++ vs2) false), ?_, by simp, fun j hj => by rw [List.getElem?_set_ne (by omega), List.getElem?_set_ne (by omega)], .inr ⟨by simp [hne], p, vs ++ vs2, hbp, by simp, by simp [hpl], by simp [hl, hl2], fun i hi => ?_⟩⟩
    · rw [appG_ms (c := vs) hn hc (by omega) rfl hrow (by omega) (hsc hl2 hr2) (by omega) (by omega) (by omega)]
      rfl
    · simp only [List.getD_eq_getElem?_getD]
      by_cases h1 : i < L.length
      · rw [List.getElem?_append_left (by omega), List.getElem?_append_left h1, ← List.getD_eq_getElem?_getD, ← List.getD_eq_getElem?_getD]
        exact k2 (hr i h1)
      · rw [List.getElem?_append_right (by omega), List.getElem?_append_right (by omega), ← List.getD_eq_getElem?_getD, ← List.getD_eq_getElem?_getD, hl]
        exact k2 (hr2 (i - L.length) (by simp at hi; omega))
/-- the same, where the lists behind may be none -/
theorem app_ll0 {lim b p : Nat} {h : List AO} {v x : AV} {L M : List (List Int)} (hL : OutLL b h v L) (hM : OutLL b h x M) (hp : h[p]? = some .tomb) (hbp : b ≤ p) (hlim : lim ≤ b) (hlen : L.length + M.length ≤ 100000) :
    ∃ v' h', appG false lim p 1 24 h v x = some (v', h') ∧ h.length = h'.length ∧ (∀ j, j < b → h'[j]? = h[j]?) ∧ OutLL b h' v' (L ++ M) := by
  by_cases hM0 : M = []
  · subst hM0
    rcases hM with ⟨_, rfl⟩ | ⟨h, _⟩
    · refine ⟨v, h, ?_, rfl, fun _ _ => rfl, by simpa using hL⟩
      rcases hL with ⟨rfl, rfl⟩ | ⟨_, o, vs, _, rfl, _⟩
      · exact appG_zero rfl rfl rfl
      · exact appG_zero (sl := L.length) rfl rfl rfl
    · exact absurd rfl h
  · obtain ⟨h', e1, e2, e3, e4⟩ := app_ll (lim := lim) (p := p) hL hM hM0 hp hbp hlim hlen
    exact ⟨_, h', e1, e2, e3, e4⟩
theorem OutLL.deep {b b' : Nat} {h : List AO} {v : AV} {L : List (List Int)} (H : OutLL b h v L) (hb : b' ≤ b) : OutLL b' h v L := by
  rcases H with h1 | ⟨hne, o, vs, ho, rfl, hc, hl, hr⟩
  · exact .inl h1
  · exact .inr ⟨hne, o, vs, by omega, rfl, hc, hl, hr⟩
theorem at_ap {α : Type} {l m : List α} {k : Nat} (h : k < l.length) : (l ++ m)[k]? = l[k]? := List.getElem?_append_left h
theorem mapM_pt {α β : Type} {f : AV → Option β} {g : α → β} {d : AV} {e : α} : ∀ {vs : List AV} {L : List α}, vs.length = L.length → (∀ i, i < L.length → f (vs.getD i d) = some (g (L.getD i e))) → vs.mapM f = some (L.map g)
  | [], [], _, _ => rfl
  | v :: vs, a :: L, hl, h => by
    have h0 := h 0 (by simp)
    have ih := mapM_pt (f := f) (g := g) (d := d) (e := e) (vs := vs) (L := L) (by simpa using hl) (fun i hi => h (i + 1) (by simpa using hi))
    simp only [get0] at h0
    simp only [List.mapM_cons, h0, ih, Option.bind_eq_bind, Option.bind_some, Option.pure_def, List.map_cons]
  | [], _ :: _, hl, _ => by simp at hl
  | _ :: _, [], hl, _ => by simp at hl

def resE (l : List Int) : List AV := [resL l]
theorem resE_len (l : List Int) : (resE l).length = 1 := rfl
theorem resE_map : ∀ L : List (List Int), L.map resL = L.flatMap resE
  | [] => rfl
  | a :: l => by simp only [List.map_cons, List.flatMap_cons, resE_map l]; rfl
/-- a list of lists, as a value -/
def resLL (L : List (List Int)) : AV := if L = [] then .nils else slV 1 resE L
theorem resLL_is (L : List (List Int)) : IsSl 1 resE L (resLL L) := by
  unfold resLL; split
  · exact .inr ⟨rfl, by assumption⟩
  · exact slV_is
theorem OutLL.view {b k : Nat} {h : List AO} {v : AV} {L : List (List Int)} (H : OutLL b h v L) (st : Bool) : Am.view st h (k + 2) v = some (resLL L) := by
  rcases H with ⟨rfl, rfl⟩ | ⟨hne, o, vs, _, rfl, hc, hl, hrd⟩
  · rfl
  have e1 : vs.mapM (Am.view st h (k + 1)) = some (L.map resL) := mapM_pt (d := .undef) (e := []) hl fun i hi => (hrd i hi).view
  rw [resE_map] at e1
  rw [resLL, if_neg hne]
  simp only [view_ms, rowOf_ms, Am.rowAt, hc, Option.bind_some, AO.row?, List.drop_zero, Nat.mul_one, ← hl, List.take_length, if_true]
  rw [e1, hl]
  rfl
/-- a list that is being made, of whatever -/
def OutE {α : Type} (enc : α → List AV) (esz b : Nat) (h : List AO) (v : AV) (l : List α) : Prop := (l = [] ∧ v = .nils) ∨ (l ≠ [] ∧ ∃ o, b ≤ o ∧ v = .ms esz o 0 l.length ∧ h[o]? = some (.cells (l.flatMap enc) false))
theorem outE_app {α : Type} {enc : α → List AV} {esz eb : Nat} (he : ∀ a, (enc a).length = esz) (hs : ∀ a, (enc a).all AV.scalar = true) (h1 : 1 ≤ esz) (heb : 1 ≤ eb) (hb : eb ≤ 1000) {pre J : List AO} {v : AV} {l : List α} {lim : Nat} (H : OutE enc esz pre.length (pre ++ J) v l) (hlim : lim ≤ pre.length) (hl : l.length ≤ 1000000) (x : α) :
    ∃ v' J', appV lim (pre ++ J) esz eb v (.cs esz 1 (enc x)) = some (v', pre ++ J') ∧ OutE enc esz pre.length (pre ++ J') v' (l ++ [x]) := by
  have hx : (enc x).length = 1 * esz := by rw [he]; omega
  rcases H with ⟨rfl, rfl⟩ | ⟨hne, o, ho, rfl, hc⟩
  · refine ⟨_, J ++ [AO.cells (enc x) false], ?_, .inr ⟨by simp, (pre ++ J).length, by simp, rfl, ?_⟩⟩
    · rw [appV_nil (n := 1) (xs := enc x) rfl rfl hx (hs x) (by omega) heb, if_neg (by omega)]
      simp
    · simp only [← List.append_assoc, List.nil_append, List.flatMap_cons, List.flatMap_nil, List.append_nil]
      exact atE
  · have ho' : o < (pre ++ J).length := (List.getElem?_eq_some_iff.1 hc).1
    refine ⟨_, J.set (o - pre.length) .tomb ++ [AO.cells ((l ++ [x]).flatMap enc) false], ?_, .inr ⟨by simp, (pre ++ J).length, by simp, rfl, ?_⟩⟩
    · have hbb : (l.length + 1) * eb ≤ 140737488355328 := by
        have := Nat.mul_le_mul (show l.length + 1 ≤ 1000001 by omega) hb
        omega
      rw [appV_ms (n := 1) (xs := enc x) (c := l.flatMap enc) (sh := false) hc (by rw [flat_len he]) rfl rfl hx (hs x) hbb heb (by omega), if_neg (by omega)]
      rw [List.set_append_right _ _ ho]
      simp
    · have e : (pre ++ J).length = (pre ++ J.set (o - pre.length) .tomb).length := by simp
      rw [e, ← List.append_assoc]
      exact atE
theorem outE_view {α : Type} {enc : α → List AV} {esz b : Nat} {h : List AO} {v : AV} {l : List α} (he : ∀ a, (enc a).length = esz) (H : OutE enc esz b h v l) (hne : l ≠ []) {st : Bool} {k : Nat} (hvw : ∀ a, (enc a).mapM (view st h k) = some (enc a)) : view st h (k + 1) v = some (slV esz enc l) := by
  rcases H with ⟨e, _⟩ | ⟨_, o, ho, rfl, hc⟩
  · exact absurd e hne
  · have e := flat_take (l := l) he
    have e2 : (l.flatMap enc).mapM (view st h k) = some (l.flatMap enc) := by
      apply mapM_view
      intro x hx
      obtain ⟨a, _, hx⟩ := List.mem_flatMap.1 hx
      exact mapM_fix (hvw a) x hx
    simp only [view_ms, rowOf_ms, Am.rowAt, hc, Option.bind_some, AO.row?, List.drop_zero, e, flat_len he, if_true, e2]
    rfl
where
  mapM_fix {f : AV → Option AV} : ∀ {c : List AV}, c.mapM f = some c → ∀ x ∈ c, f x = some x
    | [], _, x, hx => by simp at hx
    | a :: c, h, x, hx => by
      simp only [List.mapM_cons, Option.bind_eq_bind, Option.bind_eq_some_iff, Option.pure_def, Option.some.injEq, List.cons.injEq] at h
      obtain ⟨y, h1, ys, h2, rfl, rfl⟩ := h
      rcases List.mem_cons.1 hx with rfl | hx
      · exact h1
      · exact mapM_fix h2 x hx
end Go.Proofs.Ytdmhbefdidmliaa.S

/-
All lists of parts, as the specification makes them.
-/
namespace Go.Proofs.Ytdmhbefdidmliaa.S
open Go Go.Am Go.Proofs.Ytdmhbefdidmliaa.T
set_option maxRecDepth 100000
set_option linter.unusedSimpArgs false
set_option linter.unusedVariables false

/-- the lists with the first k values of a place -/
def part6 (L : List Spn) (d : Nat) (F : List Int) (lo : Int) (k : Nat) : List (List Int) := ((List.range k).map fun (i : Nat) => lo + (i : Int)).flatMap fun x => ptg L d (F ++ [x])
theorem part6_succ {L : List Spn} {d : Nat} {F : List Int} {lo : Int} {k : Nat} : part6 L d F lo (k + 1) = part6 L d F lo k ++ ptg L d (F ++ [lo + (k : Int)]) := by
  unfold part6; rw [List.range_succ, List.map_append, List.flatMap_append]; simp
theorem part6_len {L : List Spn} (H : SpOk L) {d : Nat} {F : List Int} {lo : Int} (h : F.length + (d + 1) = L.length) : ∀ {k : Nat}, (part6 L d F lo k).length ≤ k * 2197
  | 0 => by simp [part6]
  | k + 1 => by
    have := part6_len H (lo := lo) h (k := k)
    have e := ptg_len H (d := d) (F := F ++ [lo + (k : Int)]) (by simp; omega)
    have hd : d ≤ 3 := by have := H.le; omega
    have : 13 ^ d ≤ 2197 := by
      match d, hd with
      | 0, _ => decide
      | 1, _ => decide
      | 2, _ => decide
      | 3, _ => decide
    rw [part6_succ, List.length_append]; omega

set_option maxHeartbeats 1000000 in
theorem r95 {s : Sea} {p b : AV} (H : SeaOk s p b) (G : SpOk s.pl) : ∀ (d : Nat) (F : List Int) (fv : AV) (h : List AO) (lim : Nat), F.length + d = s.pl.length → RdS h fv F → lim ≤ h.length →
    ∃ v h', R E (.fn 95) [seaV s p b, fv] h lim = some (v, h') ∧ Fr h h' ∧ OutLL h.length h' v (ptg s.pl d F) := by
  have sp := H.sp
  have lg := G.le
  intro d
  induction d with
  | zero =>
    intro F fv h lim hd hF hlim
    have hl : (F.length : Int) = s.pl.length := by omega
    obtain ⟨f1, f2, f3⟩ := hF.len
    have fw := (hF.fr (Fr.app h [.cells [I s.w.lo, I s.w.hi, p, b] false])).view (st := false) (k := 7)
    have q := fun st => s18 H G (resL_is F) (by omega) st
    simp only [seaV] at q
    have key : ∃ r h', R E (.fn 95) [seaV s p b, fv] h lim = some (r, h') ∧ (Fr h h' ∧ OutLL h.length h' r (ptg s.pl 0 F)) := by
      refine R_of _ (es _ _ _ _) e95 ?_
      simp only [f95, seaV]
      cases hc : areP s.pl F
      · simp (disch := first | assumption | omega | (simp only [az]; done)) only [ru, eq_self, if_true, if_false, BEq.rfl, binI, AO.row?, splice, fillL, mmAll, loadV, storeV, zeros, Am.rowAt, Am.part, addOff, Nat.reduceAdd, Nat.reduceMul, Nat.reduceLeDiff, Nat.reduceSub, Nat.reduceLT, Int.reduceEq, Int.reduceLT, Int.reduceLE, Int.reduceGT, Int.reduceGE, Int.reduceAdd, Int.reduceSub, Int.reduceMul, Int.reduceNeg, Int.reduceToNat, reduceCtorEq, reduceIte, lenV_sl H.p, lenV_sl H.b, elem_sp H.p, elem_bt H.b, view_sl H.p, view_sl H.b, scalar_sl H.p, scalar_sl H.b, cells_sl H.p, cells_sl H.b, pure_sl H.p, pure_sl H.b, Int.toNat_natCast, f1, f2, f3, hl, fw, q, hc]
        exact ⟨Fr.app _ _, .inl ⟨by simp [ptg, hc], rfl⟩⟩
      · simp (disch := first | assumption | omega | (simp only [az]; done)) only [ru, eq_self, if_true, if_false, BEq.rfl, binI, AO.row?, splice, fillL, mmAll, loadV, storeV, zeros, Am.rowAt, Am.part, addOff, Nat.reduceAdd, Nat.reduceMul, Nat.reduceLeDiff, Nat.reduceSub, Nat.reduceLT, Int.reduceEq, Int.reduceLT, Int.reduceLE, Int.reduceGT, Int.reduceGE, Int.reduceAdd, Int.reduceSub, Int.reduceMul, Int.reduceNeg, Int.reduceToNat, reduceCtorEq, reduceIte, lenV_sl H.p, lenV_sl H.b, elem_sp H.p, elem_bt H.b, view_sl H.p, view_sl H.b, scalar_sl H.p, scalar_sl H.b, cells_sl H.p, cells_sl H.b, pure_sl H.p, pure_sl H.b, Int.toNat_natCast, f1, f2, f3, hl, fw, q, hc]
        refine ⟨by rw [List.append_assoc]; exact Fr.app _ _, .inr ⟨by simp [ptg, hc], (h ++ [(.cells [I s.w.lo, I s.w.hi, p, b] false : AO)]).length, [fv], by simp, by simp [ptg, hc], by simp, by simp [ptg, hc], fun i hi => ?_⟩⟩
        have hi0 : i = 0 := by simp [ptg, hc] at hi; omega
        subst hi0
        simp only [ptg, hc, if_true, get0]
        exact hF.fr (by rw [List.append_assoc]; exact Fr.app _ _)
    exact key
  | succ d ih =>
    intro F fv h lim hd hF hlim
    have hl : ¬ (F.length : Int) = s.pl.length := by omega
    have hFl : (F.length : Int) < s.pl.length := by omega
    have hF0 : (0 : Int) ≤ F.length := by omega
    obtain ⟨f1, f2, f3⟩ := hF.len
    have key : ∃ r h', R E (.fn 95) [seaV s p b, fv] h lim = some (r, h') ∧ (Fr h h' ∧ OutLL h.length h' r (ptg s.pl (d + 1) F)) := by
      refine R_of _ (es _ _ _ _) e95 ?_
      simp only [f95, seaV]
      obtain ⟨x, hx⟩ : ∃ x, x = s.pl.getD F.length default := ⟨_, rfl⟩
      have B := G.at (p := F.length) (by omega)
      rw [← hx] at B
      obtain ⟨N, hN⟩ : ∃ N, N = (x.hi - x.lo + 1).toNat := ⟨_, rfl⟩
      have hex : ptg s.pl (d + 1) F = part6 s.pl d F x.lo N := by rw [ptg, ← hx, hN]; rfl
      have hlim1 : lim ≤ (h ++ [(.cells [I s.w.lo, I s.w.hi, p, b] false : AO)]).length := by simp; omega
      simp (disch := first | assumption | omega | (simp only [az]; done)) only [ru, eq_self, if_true, if_false, BEq.rfl, binI, AO.row?, splice, fillL, mmAll, loadV, storeV, zeros, Am.rowAt, Am.part, addOff, Nat.reduceAdd, Nat.reduceMul, Nat.reduceLeDiff, Nat.reduceSub, Nat.reduceLT, Int.reduceEq, Int.reduceLT, Int.reduceLE, Int.reduceGT, Int.reduceGE, Int.reduceAdd, Int.reduceSub, Int.reduceMul, Int.reduceNeg, Int.reduceToNat, reduceCtorEq, reduceIte, lenV_sl H.p, lenV_sl H.b, elem_sp H.p, elem_bt H.b, view_sl H.p, view_sl H.b, scalar_sl H.p, scalar_sl H.b, cells_sl H.p, cells_sl H.b, pure_sl H.p, pure_sl H.b, Int.toNat_natCast, f1, hl, hFl, hF0, ← hx, hlim1]
      obtain ⟨p6, hp6⟩ : ∃ p6, p6 = (h ++ [(.cells [I s.w.lo, I s.w.hi, p, b] false : AO)]).length := ⟨_, rfl⟩
      have hp6' : p6 = h.length + 1 := by rw [hp6]; simp
      rw [← hp6]
      refine G_loop_ind (fun m ts hk mk => ∃ (k : Nat) (o : AV), k ≤ N ∧ m = N - k ∧ Fr h hk ∧ hk[h.length]? = some (.cells [I s.w.lo, I s.w.hi, p, b] false) ∧ hk[p6]? = some (.cells [I x.lo, I x.hi] false) ∧ OutLL (h.length + 2) hk o (part6 s.pl d F x.lo k) ∧
        ts.length = 44 ∧ ts.getD 1 .undef = fv ∧ ts.getD 2 .undef = .ptr h.length 0 ∧ ts.getD 5 .undef = o ∧ ts.getD 6 .undef = .ptr p6 0 ∧ ts.getD 7 .undef = I (x.lo + (k : Int)) ∧ mk = []) ?_ _ _ _ _
        ⟨0, .nils, Nat.zero_le _, rfl, by rw [List.append_assoc]; exact Fr.app _ _, by simp, by rw [hp6]; exact atE, .inl ⟨rfl, rfl⟩, rfl, rfl, rfl, rfl, rfl, by simp, rfl⟩
      rintro m ts hk mk ihk ⟨k, o, hkN, rfl, fr, c2, c6, ho, hl', q1, q2, q5, q6, q7, rfl⟩
      rw [lit_all hl']
      simp only [lit0, litS, Nat.reduceAdd, q1, q2, q5, q6, q7]
      simp (disch := first | assumption | omega | (simp only [az]; done)) only [ru, eq_self, if_true, if_false, BEq.rfl, binI, AO.row?, splice, fillL, mmAll, loadV, storeV, zeros, Am.rowAt, Am.part, addOff, Nat.reduceAdd, Nat.reduceMul, Nat.reduceLeDiff, Nat.reduceSub, Nat.reduceLT, Int.reduceEq, Int.reduceLT, Int.reduceLE, Int.reduceGT, Int.reduceGE, Int.reduceAdd, Int.reduceSub, Int.reduceMul, Int.reduceNeg, Int.reduceToNat, reduceCtorEq, reduceIte, c6]
      by_cases hlt : x.lo + (k : Int) ≤ x.hi
      case pos =>
        have n2 := (List.getElem?_eq_some_iff.1 c2).1
        have n6 := (List.getElem?_eq_some_iff.1 c6).1
        obtain ⟨y, hy⟩ : ∃ y, y = x.lo + (k : Int) := ⟨_, rfl⟩
        have hF' := hF.fr fr
        have hlk : lim ≤ hk.length := by have := fr.l; omega
        obtain ⟨q, x0, x1, hq, A1, hx'⟩ := app_one (lim := lim) hF' (by omega) hlk
        obtain ⟨y0, y1, sh, A2⟩ := app_two (lim := lim) (h := hk) (y := y) hq hx' (by omega) hlk
        obtain ⟨H5, hH5⟩ : ∃ H5, H5 = hk ++ [y0, y1, .cells [I y] false, .cells ((F ++ [y]).flatMap fun n => [I n]) sh, .tomb] := ⟨_, rfl⟩
        rw [← hH5] at A2
        have l5 : H5.length = hk.length + 5 := by rw [hH5]; simp
        have t5 : H5[hk.length + 4]? = some .tomb := by rw [hH5, atT]; rfl
        have fr5 : Fr hk H5 := by rw [hH5]; exact Fr.app _ _
        have rd : RdS H5 (.ms 1 (hk.length + 3) 0 (F.length + 1)) (F ++ [y]) := .inr ⟨by simp, hk.length + 3, sh, by simp, by rw [hH5, atT]; rfl⟩
        obtain ⟨v', h', hr, fr', ho'⟩ := ih (F ++ [y]) (.ms 1 (hk.length + 3) 0 (F.length + 1)) H5 lim (by simp; omega) rd (by omega)
        have t5' : h'[hk.length + 4]? = some .tomb := fr'.at t5
        have u1 : H5.set (hk.length + 4) .tomb = H5 := set_same t5
        have u2 : h'.set (hk.length + 4) (H5.getD (hk.length + 4) .tomb) = h' := by
          rw [List.getD_eq_getElem?_getD, t5]; exact set_same t5'
        have lp := part6_len G (lo := x.lo) hd (k := k + 1)
        rw [part6_succ, List.length_append, ← hy] at lp
        have hkb : k ≤ 13 := by omega
        obtain ⟨v'', h'', A3, e1, e2, e3⟩ := app_ll0 (lim := lim) (p := hk.length + 4) (ho.fr (fr5.trans fr')) (ho'.deep (by have := fr.l; omega)) t5' (by have := fr.l; omega) (by omega) (by omega)
        have fr'' : Fr h h'' := ⟨by have := fr.l; have := fr'.l; omega, fun j hj => by rw [e2 j (by omega)]; exact (fr.trans (fr5.trans fr')).k j hj⟩
        rw [← hy] at hlt ⊢
        simp (disch := first | assumption | omega | (simp only [az]; done)) only [ru, eq_self, if_true, if_false, BEq.rfl, binI, AO.row?, splice, fillL, mmAll, loadV, storeV, zeros, Am.rowAt, Am.part, addOff, Nat.reduceAdd, Nat.reduceMul, Nat.reduceLeDiff, Nat.reduceSub, Nat.reduceLT, Int.reduceEq, Int.reduceLT, Int.reduceLE, Int.reduceGT, Int.reduceGE, Int.reduceAdd, Int.reduceSub, Int.reduceMul, Int.reduceNeg, Int.reduceToNat, reduceCtorEq, reduceIte, hlt, GO_mapp, GO_mcall0, unhN, unhC, setT, setT0, getT, getT0, atT, atT0, c2, at_ap, n2, A1, A2, hr, u1, u2, A3]
        have lk := fr.l
        refine ihk (N - (k + 1)) _ _ _ (by omega) ⟨k + 1, _, by omega, rfl, fr'', ?_, ?_, ?_, rfl, rfl, rfl, rfl, rfl, ?_, rfl⟩
        · rw [e2 _ (by omega)]; exact (fr5.trans fr').at c2
        · rw [e2 _ (by omega)]; exact (fr5.trans fr').at c6
        · rw [part6_succ, ← hy]; exact e3
        · show I _ = I _; congr 1; omega
      obtain rfl : k = N := by omega
      simp (disch := first | assumption | omega | (simp only [az]; done)) only [ru, eq_self, if_true, if_false, BEq.rfl, binI, AO.row?, splice, fillL, mmAll, loadV, storeV, zeros, Am.rowAt, Am.part, addOff, Nat.reduceAdd, Nat.reduceMul, Nat.reduceLeDiff, Nat.reduceSub, Nat.reduceLT, Int.reduceEq, Int.reduceLT, Int.reduceLE, Int.reduceGT, Int.reduceGE, Int.reduceAdd, Int.reduceSub, Int.reduceMul, Int.reduceNeg, Int.reduceToNat, reduceCtorEq, reduceIte, hlt]
      rw [hex]
      exact ⟨fr, ho.deep (by omega)⟩
    exact key
theorem s95 {s : Sea} {p b : AV} (H : SeaOk s p b) (G : SpOk s.pl) (st : Bool) : Iso E 95 [seaV s p b, .nils] st = some (resLL (pts s.pl)) := by
  obtain ⟨v, h', hr, _, ho⟩ := r95 H G s.pl.length [] .nils [] 0 (by simp) (.inl ⟨rfl, rfl⟩) (Nat.zero_le _)
  simp only [Iso, hr]
  exact ho.view st
end Go.Proofs.Ytdmhbefdidmliaa.S

/-
What a place has, and what a boat lifts, by the specification; Share, Load, Need, Holds of both sides.
-/
namespace Go.Proofs.Ytdmhbefdidmliaa.S
open Go Go.Am Go.Proofs.Ytdmhbefdidmliaa.T
set_option maxRecDepth 100000
set_option linter.unusedSimpArgs false
set_option linter.unusedVariables false

theorem elem_ll {L : List (List Int)} {v : AV} (h : IsSl 1 resE L v) : ∀ i : Int, 0 ≤ i → i < L.length → elemAt 1 v (I i) = some (.cptr [resL (L.getD i.toNat [])]) := elem_sl resE_len h
theorem getD_memL {L : List (List Int)} {i : Nat} (h : i < L.length) : L.getD i [] ∈ L := by
  rw [List.getD_eq_getElem?_getD, List.getElem?_eq_getElem h]; exact List.getElem_mem h
theorem pts_le {L : List Spn} (H : SpOk L) : (pts L).length ≤ 28561 := by
  have e := ptg_len H (d := L.length) (F := []) (by simp)
  have : 13 ^ L.length ≤ 28561 := by
    match L.length, H.le with
    | 0, _ => decide
    | 1, _ => decide
    | 2, _ => decide
    | 3, _ => decide
    | 4, _ => decide
  exact Nat.le_trans e this

theorem finC2 {lim i j s : Nat} {a : Bool} {P : AV → List AO → Prop} {ts : List AV} {h : List AO} : Done lim [.cell a s i, .tmp j] P .ret ⟨ts, h, []⟩ = ∃ v, getRes ts h (.cell a s i) = some v ∧ P (.tup [v, ts.getD j .undef]) h := by
  simp only [Done, finish, takeMarks, List.all_nil, if_true, List.mapM_cons, List.mapM_nil, Option.bind_eq_bind, Option.pure_def]
  cases getRes ts h (.cell a s i) <;> simp [getRes]
section
variable {s : Sea} {p b : AV}

set_option maxHeartbeats 1000000 in
theorem s90 (H : SeaOk s p b) (G : SpOk s.pl) {i : Nat} (hi : i < s.pl.length) (st : Bool) : Iso E 90 [seaV s p b, I i] st = some (.agg [I (shL s.pl i), I (shH s.pl i)]) := by
  have g := fun st => s95 H G st
  have hne := pts_ne G
  have hle := pts_le G
  have hmem : ∀ K ∈ pts s.pl, K.length = s.pl.length := fun K hK => (InL_iff.1 (mem_pts.1 hK).1).1
  have hmin := fun {x y : Int} => pts_min G hi (a := x) (b := y)
  obtain ⟨L, hL⟩ : ∃ L, L = pts s.pl := ⟨_, rfl⟩
  rw [← hL] at hne hle hmem
  simp only [← hL] at hmin
  have LL := resLL_is L
  have vs := fun h n => view_sl LL h n
  have l0 : 0 < L.length := List.length_pos_iff.2 hne
  have hpos : (0 : Int) < L.length := by omega
  have m0 := getD_memL l0
  have e0 := hmem _ m0
  have hi0 : (i : Int) < (L.getD 0 []).length := by rw [e0]; omega
  refine Iso_of (es _ _ _ _) e90 ?_
  simp only [f90, seaV, ← hL] at g ⊢
  obtain ⟨lv, hlv⟩ : ∃ lv, lv = resLL L := ⟨_, rfl⟩
  rw [← hlv] at LL vs
  simp only [← hlv] at g
  simp (disch := first | assumption | omega | (simp only [az]; done)) only [ru, eq_self, if_true, if_false, BEq.rfl, binI, AO.row?, splice, fillL, mmAll, loadV, storeV, zeros, Am.rowAt, Am.part, addOff, Nat.reduceAdd, Nat.reduceMul, Nat.reduceLeDiff, Nat.reduceSub, Nat.reduceLT, Int.reduceEq, Int.reduceLT, Int.reduceLE, Int.reduceGT, Int.reduceGE, Int.reduceAdd, Int.reduceSub, Int.reduceMul, Int.reduceNeg, Int.reduceToNat, reduceCtorEq, reduceIte, lenV_sl H.p, lenV_sl H.b, elem_sp H.p, elem_bt H.b, view_sl H.p, view_sl H.b, scalar_sl H.p, scalar_sl H.b, cells_sl H.p, cells_sl H.b, pure_sl H.p, pure_sl H.b, Int.toNat_natCast, g, view_nils, elem_ll LL, hpos, Int.toNat_zero, elem_in (resL_is _), hi0, Int.toNat_natCast]
  refine G_loop_ind (fun m ts h mk => ∃ (k : Nat) (x y : Int), k ≤ L.length ∧ m = L.length - k ∧ (∃ K ∈ L, x = K.getD i 0) ∧ (∃ K ∈ L, y = K.getD i 0) ∧ (∀ j, j < k → x ≤ (L.getD j []).getD i 0 ∧ (L.getD j []).getD i 0 ≤ y) ∧ ts.length = 51 ∧ ts.getD 1 .undef = I i ∧ ts.getD 4 .undef = .ptr 1 0 ∧
    ts.getD 5 .undef = lv ∧ ts.getD 6 .undef = .ptr 2 0 ∧ ts.getD 7 .undef = I k ∧ h = [.cells [I s.w.lo, I s.w.hi, p, b] false, .cells [I 0, I 0] false, .cells [I x, I y] false] ∧ mk = []) ?_ _ _ _ _ ⟨0, (L.getD 0 []).getD i 0, (L.getD 0 []).getD i 0, Nat.zero_le _, rfl, ⟨_, m0, rfl⟩, ⟨_, m0, rfl⟩, fun j h => by omega, rfl, rfl, rfl, rfl, rfl, rfl, rfl, rfl⟩
  rintro m ts h mk ih ⟨k, x, y, hk, rfl, hx, hy, hall, hl, q1, q4, q5, q6, q7, rfl, rfl⟩
  rw [lit_all hl]
  simp only [lit0, litS, Nat.reduceAdd, q1, q4, q5, q6, q7]
  simp (disch := first | assumption | omega | (simp only [az]; done)) only [ru, eq_self, if_true, if_false, BEq.rfl, binI, AO.row?, splice, fillL, mmAll, loadV, storeV, zeros, Am.rowAt, Am.part, addOff, Nat.reduceAdd, Nat.reduceMul, Nat.reduceLeDiff, Nat.reduceSub, Nat.reduceLT, Int.reduceEq, Int.reduceLT, Int.reduceLE, Int.reduceGT, Int.reduceGE, Int.reduceAdd, Int.reduceSub, Int.reduceMul, Int.reduceNeg, Int.reduceToNat, reduceCtorEq, reduceIte, lenV_sl LL]
  by_cases hlt : (k : Int) < L.length
  case pos =>
    have hk' : k < L.length := by omega
    have mk := getD_memL hk'
    have ek := hmem _ mk
    have hik : (i : Int) < (L.getD k []).length := by rw [ek]; omega
    obtain ⟨z, hz⟩ : ∃ z, z = (L.getD k []).getD i 0 := ⟨_, rfl⟩
    have e1 : mmx false x z = mn x z := rfl
    have e2 : mmx true y z = mx y z := rfl
    simp (disch := first | assumption | omega | (simp only [az]; done)) only [ru, eq_self, if_true, if_false, BEq.rfl, binI, AO.row?, splice, fillL, mmAll, loadV, storeV, zeros, Am.rowAt, Am.part, addOff, Nat.reduceAdd, Nat.reduceMul, Nat.reduceLeDiff, Nat.reduceSub, Nat.reduceLT, Int.reduceEq, Int.reduceLT, Int.reduceLE, Int.reduceGT, Int.reduceGE, Int.reduceAdd, Int.reduceSub, Int.reduceMul, Int.reduceNeg, Int.reduceToNat, reduceCtorEq, reduceIte, hlt, elem_ll LL, elem_in (resL_is _), hik, Int.toNat_natCast, ← hz, e1, e2]
    refine ih (L.length - (k + 1)) _ _ _ (by omega) ⟨k + 1, mn x z, mx y z, by omega, rfl, ?_, ?_, fun j hj => ?_, rfl, rfl, rfl, rfl, rfl, rfl, rfl, rfl⟩
    · rcases mn_or (x := x) (y := z) with e | e
      · rw [e]; exact hx
      · rw [e]; exact ⟨_, mk, hz⟩
    · rcases mx_or (x := y) (y := z) with e | e
      · rw [e]; exact hy
      · rw [e]; exact ⟨_, mk, hz⟩
    · by_cases e : j = k
      · subst e; rw [← hz]; exact ⟨mn_le2, le_mx2⟩
      · have := hall j (by omega)
        exact ⟨Int.le_trans mn_le1 this.1, Int.le_trans this.2 le_mx1⟩
  obtain rfl : k = L.length := by omega
  obtain ⟨rfl, rfl⟩ := hmin hx hy fun K hK => by
    obtain ⟨j, hj, rfl⟩ := mem_getD (d := []) hK
    exact hall j hj
  simp (disch := first | assumption | omega | (simp only [az]; done)) only [ru, eq_self, if_true, if_false, BEq.rfl, binI, AO.row?, splice, fillL, mmAll, loadV, storeV, zeros, Am.rowAt, Am.part, addOff, Nat.reduceAdd, Nat.reduceMul, Nat.reduceLeDiff, Nat.reduceSub, Nat.reduceLT, Int.reduceEq, Int.reduceLT, Int.reduceLE, Int.reduceGT, Int.reduceGE, Int.reduceAdd, Int.reduceSub, Int.reduceMul, Int.reduceNeg, Int.reduceToNat, reduceCtorEq, reduceIte, hlt, finC, getRes, Option.some.injEq, exists_eq_left']

theorem s92 (H : SeaOk s p b) (K : SeaG s) {i : Nat} (hi : i < s.pl.length) (st : Bool) : Iso E 92 [seaV s p b, I i] st = some (I (needv s i)) := by
  have g := fun st => s90 H K.sp hi st
  obtain ⟨h5, h6, h7, h8⟩ := need_ok K hi
  refine Iso_of (es _ _ _ _) e92 ?_
  simp only [f92, seaV] at g ⊢
  have hc : ∀ c, needv s i ≤ c ↔ s.w.hi * shH s.pl i ≤ 12 * c := fun c => need_le
  obtain ⟨w, hw⟩ : ∃ w, w = s.w.hi * shH s.pl i := ⟨_, rfl⟩
  obtain ⟨nv, hn⟩ : ∃ nv, nv = needv s i := ⟨_, rfl⟩
  simp only [← hn, ← hw] at h5 h6 h7 h8 hc ⊢
  simp (disch := first | assumption | omega | (simp only [az]; done)) only [ru, eq_self, if_true, if_false, BEq.rfl, binI, AO.row?, splice, fillL, mmAll, loadV, storeV, zeros, Am.rowAt, Am.part, addOff, Nat.reduceAdd, Nat.reduceMul, Nat.reduceLeDiff, Nat.reduceSub, Nat.reduceLT, Int.reduceEq, Int.reduceLT, Int.reduceLE, Int.reduceGT, Int.reduceGE, Int.reduceAdd, Int.reduceSub, Int.reduceMul, Int.reduceNeg, Int.reduceToNat, reduceCtorEq, reduceIte]
  refine G_loop_ind (fun m ts h mk => ∃ k : Nat, (k : Int) ≤ nv ∧ m = (nv - k).toNat ∧ ts.length = 20 ∧ ts.getD 1 .undef = I i ∧ ts.getD 2 .undef = .ptr 0 0 ∧ ts.getD 5 .undef = I k ∧ h = [.cells [I s.w.lo, I s.w.hi, p, b] false] ∧ mk = []) ?_ _ _ _ _ ⟨0, by omega, rfl, rfl, rfl, rfl, rfl, rfl, rfl⟩
  rintro m ts h mk ih ⟨k, hk, rfl, hl, q1, q2, q5, rfl, rfl⟩
  rw [lit_all hl]
  simp only [lit0, litS, Nat.reduceAdd, q1, q2, q5]
  have hk0 := hc k
  by_cases hlt : 12 * (k : Int) < w
  case pos =>
    simp (disch := first | assumption | omega | (simp only [az]; done)) only [ru, eq_self, if_true, if_false, BEq.rfl, binI, AO.row?, splice, fillL, mmAll, loadV, storeV, zeros, Am.rowAt, Am.part, addOff, Nat.reduceAdd, Nat.reduceMul, Nat.reduceLeDiff, Nat.reduceSub, Nat.reduceLT, Int.reduceEq, Int.reduceLT, Int.reduceLE, Int.reduceGT, Int.reduceGE, Int.reduceAdd, Int.reduceSub, Int.reduceMul, Int.reduceNeg, Int.reduceToNat, reduceCtorEq, reduceIte, lenV_sl H.p, lenV_sl H.b, elem_sp H.p, elem_bt H.b, view_sl H.p, view_sl H.b, scalar_sl H.p, scalar_sl H.b, cells_sl H.p, cells_sl H.b, pure_sl H.p, pure_sl H.b, Int.toNat_natCast, g, ← hw, hlt]
    exact ih (nv - (k + 1 : Nat)).toNat _ _ _ (by omega) ⟨k + 1, by omega, rfl, rfl, rfl, rfl, rfl, rfl, rfl⟩
  have e : (k : Int) = nv := by omega
  rw [e] at hlt
  simp (disch := first | assumption | omega | (simp only [az]; done)) only [ru, eq_self, if_true, if_false, BEq.rfl, binI, AO.row?, splice, fillL, mmAll, loadV, storeV, zeros, Am.rowAt, Am.part, addOff, Nat.reduceAdd, Nat.reduceMul, Nat.reduceLeDiff, Nat.reduceSub, Nat.reduceLT, Int.reduceEq, Int.reduceLT, Int.reduceLE, Int.reduceGT, Int.reduceGE, Int.reduceAdd, Int.reduceSub, Int.reduceMul, Int.reduceNeg, Int.reduceToNat, reduceCtorEq, reduceIte, lenV_sl H.p, lenV_sl H.b, elem_sp H.p, elem_bt H.b, view_sl H.p, view_sl H.b, scalar_sl H.p, scalar_sl H.b, cells_sl H.p, cells_sl H.b, pure_sl H.p, pure_sl H.b, Int.toNat_natCast, g, ← hw, hlt, e]

/-! Share, Load, Need -/
def shrR (s : Sea) (i : Int) : AV := if s.valid then (if inR i 0 (s.pl.length - 1) then .tup [.agg [I (shL s.pl i.toNat), I (shH s.pl i.toNat)], I 0] else .tup [.agg [I 0, I 0], I 1]) else .tup [.agg [I 0, I 0], I 50]
def loaR (s : Sea) (i : Int) : AV := if s.valid then (if inR i 0 (s.pl.length - 1) then .tup [.agg [I (s.w.lo * shL s.pl i.toNat), I (s.w.hi * shH s.pl i.toNat)], I 0] else .tup [.agg [I 0, I 0], I 1]) else .tup [.agg [I 0, I 0], I 50]
def neeR (s : Sea) (i : Int) : AV := if s.valid then (if inR i 0 (s.pl.length - 1) then .tup [I (needv s i.toNat), I 0] else .tup [I 0, I 1]) else .tup [I 0, I 50]
theorem s55 (H : SeaOk s p b) (i : Int) (st : Bool) : Iso E 55 [seaV s p b, I i] st = some (shrR s i) := by
  have g1 := fun st => s25 H i st
  have g2 := fun q st => s89 H q st
  refine Iso_of (es _ _ _ _) e55 ?_
  simp only [f55, seaV, shrR] at g1 g2 ⊢
  cases hv : s.valid
  · simp (disch := first | assumption | omega | (simp only [az]; done)) only [ru, eq_self, if_true, if_false, BEq.rfl, binI, AO.row?, splice, fillL, mmAll, loadV, storeV, zeros, Am.rowAt, Am.part, addOff, Nat.reduceAdd, Nat.reduceMul, Nat.reduceLeDiff, Nat.reduceSub, Nat.reduceLT, Int.reduceEq, Int.reduceLT, Int.reduceLE, Int.reduceGT, Int.reduceGE, Int.reduceAdd, Int.reduceSub, Int.reduceMul, Int.reduceNeg, Int.reduceToNat, reduceCtorEq, reduceIte, lenV_sl H.p, lenV_sl H.b, elem_sp H.p, elem_bt H.b, view_sl H.p, view_sl H.b, scalar_sl H.p, scalar_sl H.b, cells_sl H.p, cells_sl H.b, pure_sl H.p, pure_sl H.b, Int.toNat_natCast, g1, g2, hv, aE, finC2, getRes, Option.some.injEq, exists_eq_left', view_agg, view_int, Bool.false_eq_true]
  cases hq : inR i 0 (s.pl.length - 1)
  · simp (disch := first | assumption | omega | (simp only [az]; done)) only [ru, eq_self, if_true, if_false, BEq.rfl, binI, AO.row?, splice, fillL, mmAll, loadV, storeV, zeros, Am.rowAt, Am.part, addOff, Nat.reduceAdd, Nat.reduceMul, Nat.reduceLeDiff, Nat.reduceSub, Nat.reduceLT, Int.reduceEq, Int.reduceLT, Int.reduceLE, Int.reduceGT, Int.reduceGE, Int.reduceAdd, Int.reduceSub, Int.reduceMul, Int.reduceNeg, Int.reduceToNat, reduceCtorEq, reduceIte, lenV_sl H.p, lenV_sl H.b, elem_sp H.p, elem_bt H.b, view_sl H.p, view_sl H.b, scalar_sl H.p, scalar_sl H.b, cells_sl H.p, cells_sl H.b, pure_sl H.p, pure_sl H.b, Int.toNat_natCast, g1, g2, hv, hq, aE, finC2, getRes, Option.some.injEq, exists_eq_left', view_agg, view_int, Bool.false_eq_true]
  have hi := inR_iff.1 hq
  have g3 := fun st => s90 H (valid_good hv).1.sp (i := i.toNat) (by omega) st
  simp only [seaV, show ((i.toNat : Nat) : Int) = i by omega] at g3
  simp (disch := first | assumption | omega | (simp only [az]; done)) only [ru, eq_self, if_true, if_false, BEq.rfl, binI, AO.row?, splice, fillL, mmAll, loadV, storeV, zeros, Am.rowAt, Am.part, addOff, Nat.reduceAdd, Nat.reduceMul, Nat.reduceLeDiff, Nat.reduceSub, Nat.reduceLT, Int.reduceEq, Int.reduceLT, Int.reduceLE, Int.reduceGT, Int.reduceGE, Int.reduceAdd, Int.reduceSub, Int.reduceMul, Int.reduceNeg, Int.reduceToNat, reduceCtorEq, reduceIte, lenV_sl H.p, lenV_sl H.b, elem_sp H.p, elem_bt H.b, view_sl H.p, view_sl H.b, scalar_sl H.p, scalar_sl H.b, cells_sl H.p, cells_sl H.b, pure_sl H.p, pure_sl H.b, Int.toNat_natCast, g1, g2, g3, hv, hq, aE, finC2, getRes, Option.some.injEq, exists_eq_left', view_agg, view_int]
theorem s56 (H : SeaOk s p b) (i : Int) (st : Bool) : Iso E 56 [seaV s p b, I i] st = some (loaR s i) := by
  have g1 := fun st => s55 H i st
  refine Iso_of (es _ _ _ _) e56 ?_
  simp only [f56, seaV, shrR, loaR] at g1 ⊢
  cases hv : s.valid
  · simp only [hv, Bool.false_eq_true, if_false] at g1
    simp (disch := first | assumption | omega | (simp only [az]; done)) only [ru, eq_self, if_true, if_false, BEq.rfl, binI, AO.row?, splice, fillL, mmAll, loadV, storeV, zeros, Am.rowAt, Am.part, addOff, Nat.reduceAdd, Nat.reduceMul, Nat.reduceLeDiff, Nat.reduceSub, Nat.reduceLT, Int.reduceEq, Int.reduceLT, Int.reduceLE, Int.reduceGT, Int.reduceGE, Int.reduceAdd, Int.reduceSub, Int.reduceMul, Int.reduceNeg, Int.reduceToNat, reduceCtorEq, reduceIte, lenV_sl H.p, lenV_sl H.b, elem_sp H.p, elem_bt H.b, view_sl H.p, view_sl H.b, scalar_sl H.p, scalar_sl H.b, cells_sl H.p, cells_sl H.b, pure_sl H.p, pure_sl H.b, Int.toNat_natCast, g1, hv, finC2, getRes, Option.some.injEq, exists_eq_left', view_agg, view_int, Bool.false_eq_true]
  cases hq : inR i 0 (s.pl.length - 1)
  · simp only [hv, hq, Bool.false_eq_true, if_false, if_true] at g1
    simp (disch := first | assumption | omega | (simp only [az]; done)) only [ru, eq_self, if_true, if_false, BEq.rfl, binI, AO.row?, splice, fillL, mmAll, loadV, storeV, zeros, Am.rowAt, Am.part, addOff, Nat.reduceAdd, Nat.reduceMul, Nat.reduceLeDiff, Nat.reduceSub, Nat.reduceLT, Int.reduceEq, Int.reduceLT, Int.reduceLE, Int.reduceGT, Int.reduceGE, Int.reduceAdd, Int.reduceSub, Int.reduceMul, Int.reduceNeg, Int.reduceToNat, reduceCtorEq, reduceIte, lenV_sl H.p, lenV_sl H.b, elem_sp H.p, elem_bt H.b, view_sl H.p, view_sl H.b, scalar_sl H.p, scalar_sl H.b, cells_sl H.p, cells_sl H.b, pure_sl H.p, pure_sl H.b, Int.toNat_natCast, g1, hv, hq, finC2, getRes, Option.some.injEq, exists_eq_left', view_agg, view_int, Bool.false_eq_true]
  simp only [hv, hq, if_true] at g1
  have hi := inR_iff.1 hq
  have K := (valid_good hv).1
  obtain ⟨u1, u2, _⟩ := need_ok K (p := i.toNat) (by omega)
  have h1 := shr_le K.sp (p := i.toNat) (by omega)
  have w0 := K.w0; have w1 := K.w1; have w2 := K.w2
  have h3 : 0 ≤ s.w.lo * shL s.pl i.toNat := Int.mul_nonneg w0 h1.1
  have h4 : s.w.lo * shL s.pl i.toNat ≤ 2000 * 12 := Int.mul_le_mul (by omega) (by omega) h1.1 (by omega)
  simp (disch := first | assumption | omega | (simp only [az]; done)) only [ru, eq_self, if_true, if_false, BEq.rfl, binI, AO.row?, splice, fillL, mmAll, loadV, storeV, zeros, Am.rowAt, Am.part, addOff, Nat.reduceAdd, Nat.reduceMul, Nat.reduceLeDiff, Nat.reduceSub, Nat.reduceLT, Int.reduceEq, Int.reduceLT, Int.reduceLE, Int.reduceGT, Int.reduceGE, Int.reduceAdd, Int.reduceSub, Int.reduceMul, Int.reduceNeg, Int.reduceToNat, reduceCtorEq, reduceIte, lenV_sl H.p, lenV_sl H.b, elem_sp H.p, elem_bt H.b, view_sl H.p, view_sl H.b, scalar_sl H.p, scalar_sl H.b, cells_sl H.p, cells_sl H.b, pure_sl H.p, pure_sl H.b, Int.toNat_natCast, g1, hv, hq, finC2, getRes, Option.some.injEq, exists_eq_left', view_agg, view_int]
theorem s58 (H : SeaOk s p b) (i : Int) (st : Bool) : Iso E 58 [seaV s p b, I i] st = some (neeR s i) := by
  have g1 := fun st => s25 H i st
  have g2 := fun q st => s89 H q st
  refine Iso_of (es _ _ _ _) e58 ?_
  simp only [f58, seaV, neeR] at g1 g2 ⊢
  cases hv : s.valid
  · simp (disch := first | assumption | omega | (simp only [az]; done)) only [ru, eq_self, if_true, if_false, BEq.rfl, binI, AO.row?, splice, fillL, mmAll, loadV, storeV, zeros, Am.rowAt, Am.part, addOff, Nat.reduceAdd, Nat.reduceMul, Nat.reduceLeDiff, Nat.reduceSub, Nat.reduceLT, Int.reduceEq, Int.reduceLT, Int.reduceLE, Int.reduceGT, Int.reduceGE, Int.reduceAdd, Int.reduceSub, Int.reduceMul, Int.reduceNeg, Int.reduceToNat, reduceCtorEq, reduceIte, lenV_sl H.p, lenV_sl H.b, elem_sp H.p, elem_bt H.b, view_sl H.p, view_sl H.b, scalar_sl H.p, scalar_sl H.b, cells_sl H.p, cells_sl H.b, pure_sl H.p, pure_sl H.b, Int.toNat_natCast, g1, g2, hv, aE, Bool.false_eq_true]
  cases hq : inR i 0 (s.pl.length - 1)
  · simp (disch := first | assumption | omega | (simp only [az]; done)) only [ru, eq_self, if_true, if_false, BEq.rfl, binI, AO.row?, splice, fillL, mmAll, loadV, storeV, zeros, Am.rowAt, Am.part, addOff, Nat.reduceAdd, Nat.reduceMul, Nat.reduceLeDiff, Nat.reduceSub, Nat.reduceLT, Int.reduceEq, Int.reduceLT, Int.reduceLE, Int.reduceGT, Int.reduceGE, Int.reduceAdd, Int.reduceSub, Int.reduceMul, Int.reduceNeg, Int.reduceToNat, reduceCtorEq, reduceIte, lenV_sl H.p, lenV_sl H.b, elem_sp H.p, elem_bt H.b, view_sl H.p, view_sl H.b, scalar_sl H.p, scalar_sl H.b, cells_sl H.p, cells_sl H.b, pure_sl H.p, pure_sl H.b, Int.toNat_natCast, g1, g2, hv, hq, aE, Bool.false_eq_true]
  have hi := inR_iff.1 hq
  have g3 := fun st => s92 H (valid_good hv).1 (i := i.toNat) (by omega) st
  simp only [seaV, show ((i.toNat : Nat) : Int) = i by omega] at g3
  simp (disch := first | assumption | omega | (simp only [az]; done)) only [ru, eq_self, if_true, if_false, BEq.rfl, binI, AO.row?, splice, fillL, mmAll, loadV, storeV, zeros, Am.rowAt, Am.part, addOff, Nat.reduceAdd, Nat.reduceMul, Nat.reduceLeDiff, Nat.reduceSub, Nat.reduceLT, Int.reduceEq, Int.reduceLT, Int.reduceLE, Int.reduceGT, Int.reduceGE, Int.reduceAdd, Int.reduceSub, Int.reduceMul, Int.reduceNeg, Int.reduceToNat, reduceCtorEq, reduceIte, lenV_sl H.p, lenV_sl H.b, elem_sp H.p, elem_bt H.b, view_sl H.p, view_sl H.b, scalar_sl H.p, scalar_sl H.b, cells_sl H.p, cells_sl H.b, pure_sl H.p, pure_sl H.b, Int.toNat_natCast, g1, g2, g3, hv, hq, aE]
theorem s22 (H : SeaOk s p b) (i : Int) (st : Bool) : Iso E 22 [seaV s p b, I i] st = some (shrR s i) := by
  have g1 := fun st => s75 H i st
  refine Iso_of (es _ _ _ _) e22 ?_
  simp only [f22, seaV, shrR] at g1 ⊢
  cases hv : s.valid
  · simp (disch := first | assumption | omega | (simp only [az]; done)) only [ru, eq_self, if_true, if_false, BEq.rfl, binI, AO.row?, splice, fillL, mmAll, loadV, storeV, zeros, Am.rowAt, Am.part, addOff, Nat.reduceAdd, Nat.reduceMul, Nat.reduceLeDiff, Nat.reduceSub, Nat.reduceLT, Int.reduceEq, Int.reduceLT, Int.reduceLE, Int.reduceGT, Int.reduceGE, Int.reduceAdd, Int.reduceSub, Int.reduceMul, Int.reduceNeg, Int.reduceToNat, reduceCtorEq, reduceIte, lenV_sl H.p, lenV_sl H.b, elem_sp H.p, elem_bt H.b, view_sl H.p, view_sl H.b, scalar_sl H.p, scalar_sl H.b, cells_sl H.p, cells_sl H.b, pure_sl H.p, pure_sl H.b, Int.toNat_natCast, g1, hv, aE, finC2, getRes, Option.some.injEq, exists_eq_left', view_agg, view_int, Bool.false_eq_true]
  cases hq : inR i 0 (s.pl.length - 1)
  · simp (disch := first | assumption | omega | (simp only [az]; done)) only [ru, eq_self, if_true, if_false, BEq.rfl, binI, AO.row?, splice, fillL, mmAll, loadV, storeV, zeros, Am.rowAt, Am.part, addOff, Nat.reduceAdd, Nat.reduceMul, Nat.reduceLeDiff, Nat.reduceSub, Nat.reduceLT, Int.reduceEq, Int.reduceLT, Int.reduceLE, Int.reduceGT, Int.reduceGE, Int.reduceAdd, Int.reduceSub, Int.reduceMul, Int.reduceNeg, Int.reduceToNat, reduceCtorEq, reduceIte, lenV_sl H.p, lenV_sl H.b, elem_sp H.p, elem_bt H.b, view_sl H.p, view_sl H.b, scalar_sl H.p, scalar_sl H.b, cells_sl H.p, cells_sl H.b, pure_sl H.p, pure_sl H.b, Int.toNat_natCast, g1, hv, hq, aE, finC2, getRes, Option.some.injEq, exists_eq_left', view_agg, view_int, Bool.false_eq_true]
  have hi := inR_iff.1 hq
  have g3 := fun st => s76 H (valid_good hv).1.sp (i := i.toNat) (by omega) st
  simp only [seaV, show ((i.toNat : Nat) : Int) = i by omega] at g3
  simp (disch := first | assumption | omega | (simp only [az]; done)) only [ru, eq_self, if_true, if_false, BEq.rfl, binI, AO.row?, splice, fillL, mmAll, loadV, storeV, zeros, Am.rowAt, Am.part, addOff, Nat.reduceAdd, Nat.reduceMul, Nat.reduceLeDiff, Nat.reduceSub, Nat.reduceLT, Int.reduceEq, Int.reduceLT, Int.reduceLE, Int.reduceGT, Int.reduceGE, Int.reduceAdd, Int.reduceSub, Int.reduceMul, Int.reduceNeg, Int.reduceToNat, reduceCtorEq, reduceIte, lenV_sl H.p, lenV_sl H.b, elem_sp H.p, elem_bt H.b, view_sl H.p, view_sl H.b, scalar_sl H.p, scalar_sl H.b, cells_sl H.p, cells_sl H.b, pure_sl H.p, pure_sl H.b, Int.toNat_natCast, g1, g3, hv, hq, aE, finC2, getRes, Option.some.injEq, exists_eq_left', view_agg, view_int]
theorem s23 (H : SeaOk s p b) (i : Int) (st : Bool) : Iso E 23 [seaV s p b, I i] st = some (loaR s i) := by
  have g1 := fun st => s75 H i st
  refine Iso_of (es _ _ _ _) e23 ?_
  simp only [f23, seaV, loaR] at g1 ⊢
  cases hv : s.valid
  · simp (disch := first | assumption | omega | (simp only [az]; done)) only [ru, eq_self, if_true, if_false, BEq.rfl, binI, AO.row?, splice, fillL, mmAll, loadV, storeV, zeros, Am.rowAt, Am.part, addOff, Nat.reduceAdd, Nat.reduceMul, Nat.reduceLeDiff, Nat.reduceSub, Nat.reduceLT, Int.reduceEq, Int.reduceLT, Int.reduceLE, Int.reduceGT, Int.reduceGE, Int.reduceAdd, Int.reduceSub, Int.reduceMul, Int.reduceNeg, Int.reduceToNat, reduceCtorEq, reduceIte, lenV_sl H.p, lenV_sl H.b, elem_sp H.p, elem_bt H.b, view_sl H.p, view_sl H.b, scalar_sl H.p, scalar_sl H.b, cells_sl H.p, cells_sl H.b, pure_sl H.p, pure_sl H.b, Int.toNat_natCast, g1, hv, aE, finC2, getRes, Option.some.injEq, exists_eq_left', view_agg, view_int, Bool.false_eq_true]
  cases hq : inR i 0 (s.pl.length - 1)
  · simp (disch := first | assumption | omega | (simp only [az]; done)) only [ru, eq_self, if_true, if_false, BEq.rfl, binI, AO.row?, splice, fillL, mmAll, loadV, storeV, zeros, Am.rowAt, Am.part, addOff, Nat.reduceAdd, Nat.reduceMul, Nat.reduceLeDiff, Nat.reduceSub, Nat.reduceLT, Int.reduceEq, Int.reduceLT, Int.reduceLE, Int.reduceGT, Int.reduceGE, Int.reduceAdd, Int.reduceSub, Int.reduceMul, Int.reduceNeg, Int.reduceToNat, reduceCtorEq, reduceIte, lenV_sl H.p, lenV_sl H.b, elem_sp H.p, elem_bt H.b, view_sl H.p, view_sl H.b, scalar_sl H.p, scalar_sl H.b, cells_sl H.p, cells_sl H.b, pure_sl H.p, pure_sl H.b, Int.toNat_natCast, g1, hv, hq, aE, finC2, getRes, Option.some.injEq, exists_eq_left', view_agg, view_int, Bool.false_eq_true]
  have hi := inR_iff.1 hq
  have g3 := fun st => s77 H (valid_good hv).1 (i := i.toNat) (by omega) st
  simp only [seaV, show ((i.toNat : Nat) : Int) = i by omega] at g3
  simp (disch := first | assumption | omega | (simp only [az]; done)) only [ru, eq_self, if_true, if_false, BEq.rfl, binI, AO.row?, splice, fillL, mmAll, loadV, storeV, zeros, Am.rowAt, Am.part, addOff, Nat.reduceAdd, Nat.reduceMul, Nat.reduceLeDiff, Nat.reduceSub, Nat.reduceLT, Int.reduceEq, Int.reduceLT, Int.reduceLE, Int.reduceGT, Int.reduceGE, Int.reduceAdd, Int.reduceSub, Int.reduceMul, Int.reduceNeg, Int.reduceToNat, reduceCtorEq, reduceIte, lenV_sl H.p, lenV_sl H.b, elem_sp H.p, elem_bt H.b, view_sl H.p, view_sl H.b, scalar_sl H.p, scalar_sl H.b, cells_sl H.p, cells_sl H.b, pure_sl H.p, pure_sl H.b, Int.toNat_natCast, g1, g3, hv, hq, aE, finC2, getRes, Option.some.injEq, exists_eq_left', view_agg, view_int]
theorem s57 (H : SeaOk s p b) (i : Int) (st : Bool) : Iso E 57 [seaV s p b, I i] st = some (neeR s i) := by
  have g1 := fun st => s75 H i st
  refine Iso_of (es _ _ _ _) e57 ?_
  simp only [f57, seaV, neeR] at g1 ⊢
  cases hv : s.valid
  · simp (disch := first | assumption | omega | (simp only [az]; done)) only [ru, eq_self, if_true, if_false, BEq.rfl, binI, AO.row?, splice, fillL, mmAll, loadV, storeV, zeros, Am.rowAt, Am.part, addOff, Nat.reduceAdd, Nat.reduceMul, Nat.reduceLeDiff, Nat.reduceSub, Nat.reduceLT, Int.reduceEq, Int.reduceLT, Int.reduceLE, Int.reduceGT, Int.reduceGE, Int.reduceAdd, Int.reduceSub, Int.reduceMul, Int.reduceNeg, Int.reduceToNat, reduceCtorEq, reduceIte, lenV_sl H.p, lenV_sl H.b, elem_sp H.p, elem_bt H.b, view_sl H.p, view_sl H.b, scalar_sl H.p, scalar_sl H.b, cells_sl H.p, cells_sl H.b, pure_sl H.p, pure_sl H.b, Int.toNat_natCast, g1, hv, aE, Bool.false_eq_true]
  cases hq : inR i 0 (s.pl.length - 1)
  · simp (disch := first | assumption | omega | (simp only [az]; done)) only [ru, eq_self, if_true, if_false, BEq.rfl, binI, AO.row?, splice, fillL, mmAll, loadV, storeV, zeros, Am.rowAt, Am.part, addOff, Nat.reduceAdd, Nat.reduceMul, Nat.reduceLeDiff, Nat.reduceSub, Nat.reduceLT, Int.reduceEq, Int.reduceLT, Int.reduceLE, Int.reduceGT, Int.reduceGE, Int.reduceAdd, Int.reduceSub, Int.reduceMul, Int.reduceNeg, Int.reduceToNat, reduceCtorEq, reduceIte, lenV_sl H.p, lenV_sl H.b, elem_sp H.p, elem_bt H.b, view_sl H.p, view_sl H.b, scalar_sl H.p, scalar_sl H.b, cells_sl H.p, cells_sl H.b, pure_sl H.p, pure_sl H.b, Int.toNat_natCast, g1, hv, hq, aE, Bool.false_eq_true]
  have hi := inR_iff.1 hq
  have g3 := fun st => s91 H (valid_good hv).1 (i := i.toNat) (by omega) st
  simp only [seaV, show ((i.toNat : Nat) : Int) = i by omega] at g3
  simp (disch := first | assumption | omega | (simp only [az]; done)) only [ru, eq_self, if_true, if_false, BEq.rfl, binI, AO.row?, splice, fillL, mmAll, loadV, storeV, zeros, Am.rowAt, Am.part, addOff, Nat.reduceAdd, Nat.reduceMul, Nat.reduceLeDiff, Nat.reduceSub, Nat.reduceLT, Int.reduceEq, Int.reduceLT, Int.reduceLE, Int.reduceGT, Int.reduceGE, Int.reduceAdd, Int.reduceSub, Int.reduceMul, Int.reduceNeg, Int.reduceToNat, reduceCtorEq, reduceIte, lenV_sl H.p, lenV_sl H.b, elem_sp H.p, elem_bt H.b, view_sl H.p, view_sl H.b, scalar_sl H.p, scalar_sl H.b, cells_sl H.p, cells_sl H.b, pure_sl H.p, pure_sl H.b, Int.toNat_natCast, g1, g3, hv, hq, aE]
def holR (s : Sea) (w : Int) (l : List Int) : AV := if s.valid then .tup [Bo (inR w s.w.lo s.w.hi && areP s.pl l), I 0] else .tup [Bo false, I 50]
theorem s51 (H : SeaOk s p b) (w : Int) {l : List Int} {v : AV} (V : IsSl 1 intL l v) (hl : l.length ≤ 41) (st : Bool) : Iso E 51 [seaV s p b, I w, v] st = some (holR s w l) := by
  have g1 := fun st => s53 H st
  refine Iso_of (es _ _ _ _) e51 ?_
  simp only [f51, seaV, holR] at g1 ⊢
  cases hv : s.valid
  · simp (disch := first | assumption | omega | (simp only [az]; done)) only [ru, eq_self, if_true, if_false, BEq.rfl, binI, AO.row?, splice, fillL, mmAll, loadV, storeV, zeros, Am.rowAt, Am.part, addOff, Nat.reduceAdd, Nat.reduceMul, Nat.reduceLeDiff, Nat.reduceSub, Nat.reduceLT, Int.reduceEq, Int.reduceLT, Int.reduceLE, Int.reduceGT, Int.reduceGE, Int.reduceAdd, Int.reduceSub, Int.reduceMul, Int.reduceNeg, Int.reduceToNat, reduceCtorEq, reduceIte, lenV_sl H.p, lenV_sl H.b, elem_sp H.p, elem_bt H.b, view_sl H.p, view_sl H.b, scalar_sl H.p, scalar_sl H.b, cells_sl H.p, cells_sl H.b, pure_sl H.p, pure_sl H.b, Int.toNat_natCast, g1, hv, vE, Bool.false_eq_true]
  have g3 := fun st => s18 H (valid_good hv).1.sp V hl st
  simp only [seaV] at g3
  cases hw : inR w s.w.lo s.w.hi <;> simp (disch := first | assumption | omega | (simp only [az]; done)) only [ru, eq_self, if_true, if_false, BEq.rfl, binI, AO.row?, splice, fillL, mmAll, loadV, storeV, zeros, Am.rowAt, Am.part, addOff, Nat.reduceAdd, Nat.reduceMul, Nat.reduceLeDiff, Nat.reduceSub, Nat.reduceLT, Int.reduceEq, Int.reduceLT, Int.reduceLE, Int.reduceGT, Int.reduceGE, Int.reduceAdd, Int.reduceSub, Int.reduceMul, Int.reduceNeg, Int.reduceToNat, reduceCtorEq, reduceIte, lenV_sl H.p, lenV_sl H.b, elem_sp H.p, elem_bt H.b, view_sl H.p, view_sl H.b, scalar_sl H.p, scalar_sl H.b, cells_sl H.p, cells_sl H.b, pure_sl H.p, pure_sl H.b, Int.toNat_natCast, lenV_sl V, elem_in V, view_sl V, scalar_sl V, cells_sl V, pure_sl V, Int.toNat_natCast, g1, g3, hv, vE, s71, hw, gUn, Bool.true_and, Bool.false_and]
theorem s21 (H : SeaOk s p b) (w : Int) {l : List Int} {v : AV} (V : IsSl 1 intL l v) (hl : l.length ≤ 41) (st : Bool) : Iso E 21 [seaV s p b, I w, v] st = some (holR s w l) := by
  have g1 := fun st => s52 H st
  refine Iso_of (es _ _ _ _) e21 ?_
  simp only [f21, seaV, holR] at g1 ⊢
  cases hv : s.valid
  · simp (disch := first | assumption | omega | (simp only [az]; done)) only [ru, eq_self, if_true, if_false, BEq.rfl, binI, AO.row?, splice, fillL, mmAll, loadV, storeV, zeros, Am.rowAt, Am.part, addOff, Nat.reduceAdd, Nat.reduceMul, Nat.reduceLeDiff, Nat.reduceSub, Nat.reduceLT, Int.reduceEq, Int.reduceLT, Int.reduceLE, Int.reduceGT, Int.reduceGE, Int.reduceAdd, Int.reduceSub, Int.reduceMul, Int.reduceNeg, Int.reduceToNat, reduceCtorEq, reduceIte, lenV_sl H.p, lenV_sl H.b, elem_sp H.p, elem_bt H.b, view_sl H.p, view_sl H.b, scalar_sl H.p, scalar_sl H.b, cells_sl H.p, cells_sl H.b, pure_sl H.p, pure_sl H.b, Int.toNat_natCast, g1, hv, vE, Bool.false_eq_true]
  have g3 := fun st => s74 H (valid_good hv).1.sp w V hl st
  simp only [seaV] at g3
  simp (disch := first | assumption | omega | (simp only [az]; done)) only [ru, eq_self, if_true, if_false, BEq.rfl, binI, AO.row?, splice, fillL, mmAll, loadV, storeV, zeros, Am.rowAt, Am.part, addOff, Nat.reduceAdd, Nat.reduceMul, Nat.reduceLeDiff, Nat.reduceSub, Nat.reduceLT, Int.reduceEq, Int.reduceLT, Int.reduceLE, Int.reduceGT, Int.reduceGE, Int.reduceAdd, Int.reduceSub, Int.reduceMul, Int.reduceNeg, Int.reduceToNat, reduceCtorEq, reduceIte, lenV_sl H.p, lenV_sl H.b, elem_sp H.p, elem_bt H.b, view_sl H.p, view_sl H.b, scalar_sl H.p, scalar_sl H.b, cells_sl H.p, cells_sl H.b, pure_sl H.p, pure_sl H.b, Int.toNat_natCast, lenV_sl V, elem_in V, view_sl V, scalar_sl V, cells_sl V, pure_sl V, Int.toNat_natCast, g1, g3, hv, vE]
end
end Go.Proofs.Ytdmhbefdidmliaa.S

