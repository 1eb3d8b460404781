/-
Functions of both sides of stage 5, one after another (A1).
-/
import Derived.Test.YtokhneffambgmaaTab

/-
Spans of parts: what sums they can have, what a place has at least and at most, and all lists of parts.
-/
namespace Go.Proofs.Ytokhneffambgmaa.A
set_option linter.unusedSimpArgs false
set_option linter.unusedVariables false

structure Spn where
  lo : Int
  hi : Int
  deriving Inhabited, DecidableEq

def mx (x y : Int) : Int := if y > x then y else x
def mn (x y : Int) : Int := if y < x then y else x
theorem le_mx1 {x y : Int} : x ≤ mx x y := by unfold mx; split <;> omega
theorem le_mx2 {x y : Int} : y ≤ mx x y := by unfold mx; split <;> omega
theorem mx_le {x y z : Int} (h1 : x ≤ z) (h2 : y ≤ z) : mx x y ≤ z := by unfold mx; split <;> omega
theorem mn_le1 {x y : Int} : mn x y ≤ x := by unfold mn; split <;> omega
theorem mn_le2 {x y : Int} : mn x y ≤ y := by unfold mn; split <;> omega
theorem le_mn {x y z : Int} (h1 : z ≤ x) (h2 : z ≤ y) : z ≤ mn x y := by unfold mn; split <;> omega
theorem mx_or {x y : Int} : mx x y = x ∨ mx x y = y := by unfold mx; split <;> simp
def inR (n lo hi : Int) : Bool := decide (lo ≤ n) && decide (n ≤ hi)
theorem inR_iff {n lo hi : Int} : inR n lo hi = true ↔ lo ≤ n ∧ n ≤ hi := by simp [inR]

def sm : List Int → Int
  | [] => 0
  | a :: l => a + sm l
theorem sm_app : ∀ {a b : List Int}, sm (a ++ b) = sm a + sm b
  | [], b => by simp [sm]
  | x :: a, b => by simp [sm, sm_app (a := a)]; omega
def slo (L : List Spn) : Int := sm (L.map Spn.lo)
def shi (L : List Spn) : Int := sm (L.map Spn.hi)
theorem slo_cons {s : Spn} {L : List Spn} : slo (s :: L) = s.lo + slo L := rfl
theorem shi_cons {s : Spn} {L : List Spn} : shi (s :: L) = s.hi + shi L := rfl

/-- numbers that are in spans -/
def InL : List Spn → List Int → Prop
  | [], [] => True
  | s :: L, x :: l => (s.lo ≤ x ∧ x ≤ s.hi) ∧ InL L l
  | _, _ => False

theorem InL_iff : ∀ {L : List Spn} {l : List Int}, InL L l ↔ l.length = L.length ∧ ∀ i, i < L.length → (L.getD i default).lo ≤ l.getD i 0 ∧ l.getD i 0 ≤ (L.getD i default).hi
  | [], [] => by simp [InL]
  | [], _ :: _ => by simp [InL]
  | _ :: _, [] => by simp [InL]
  | s :: L, x :: l => by
    simp only [InL, InL_iff (L := L) (l := l), List.length_cons, Nat.add_right_cancel_iff]
    constructor
    · rintro ⟨h0, hl, h⟩
      refine ⟨hl, fun i hi => ?_⟩
      cases i with
      | zero => simpa using h0
      | succ i => simpa using h i (by omega)
    · rintro ⟨hl, h⟩
      exact ⟨by simpa using h 0 (by omega), hl, fun i hi => by simpa using h (i + 1) (by omega)⟩

theorem InL_sum : ∀ {L : List Spn} {l : List Int}, InL L l → slo L ≤ sm l ∧ sm l ≤ shi L
  | [], [], _ => by simp [slo, shi, sm]
  | [], _ :: _, h => h.elim
  | _ :: _, [], h => h.elim
  | s :: L, x :: l, h => by
    have := InL_sum h.2
    have := h.1
    simp only [slo_cons, shi_cons, sm]; omega

theorem InL_ex : ∀ {L : List Spn} {N : Int}, (∀ s ∈ L, s.lo ≤ s.hi) → slo L ≤ N → N ≤ shi L → ∃ l, InL L l ∧ sm l = N
  | [], N, _, h1, h2 => by
    simp only [slo, shi, List.map_nil, sm] at h1 h2
    exact ⟨[], trivial, by simp only [sm]; omega⟩
  | s :: L, N, hs, h1, h2 => by
    have h0 := hs s (by simp)
    simp only [slo_cons, shi_cons] at h1 h2
    by_cases c : N - shi L ≤ s.lo
    · obtain ⟨l, h, e⟩ := InL_ex (L := L) (N := N - s.lo) (fun x hx => hs x (by simp [hx])) (by omega) (by omega)
      exact ⟨s.lo :: l, ⟨⟨by omega, h0⟩, h⟩, by simp only [sm]; omega⟩
    · have hL : slo L ≤ shi L := by
        clear h1 h2 c
        have : ∀ {L : List Spn}, (∀ s ∈ L, s.lo ≤ s.hi) → slo L ≤ shi L := by
          intro L
          induction L with
          | nil => intro _; simp [slo, shi, sm]
          | cons a L ih =>
            intro h
            have := h a (by simp)
            have := ih (fun x hx => h x (by simp [hx]))
            simp only [slo_cons, shi_cons]; omega
        exact this (fun x hx => hs x (by simp [hx]))
      obtain ⟨l, h, e⟩ := InL_ex (L := L) (N := shi L) (fun x hx => hs x (by simp [hx])) hL (Int.le_refl _)
      exact ⟨(N - shi L) :: l, ⟨⟨by omega, by omega⟩, h⟩, by simp only [sm]; omega⟩

theorem InL_at : ∀ {L : List Spn} {l : List Int} {p : Nat}, InL L l → p < L.length → slo L - (L.getD p default).lo ≤ sm l - l.getD p 0 ∧ sm l - l.getD p 0 ≤ shi L - (L.getD p default).hi
  | [], _, _, _, hp => by simp at hp
  | _ :: _, [], _, h, _ => h.elim
  | s :: L, x :: l, 0, h, _ => by
    have := InL_sum h.2
    simp only [slo_cons, shi_cons, sm, List.getD_cons_zero]; omega
  | s :: L, x :: l, p + 1, h, hp => by
    have := InL_at (p := p) h.2 (by simpa using hp)
    have := h.1
    simp only [slo_cons, shi_cons, sm, List.getD_cons_succ]; omega

theorem set_slo : ∀ {L : List Spn} {p : Nat} {s : Spn}, p < L.length → slo (L.set p s) = slo L - (L.getD p default).lo + s.lo ∧ shi (L.set p s) = shi L - (L.getD p default).hi + s.hi
  | [], _, _, hp => by simp at hp
  | a :: L, 0, s, _ => by simp only [List.set_cons_zero, slo_cons, shi_cons, List.getD_cons_zero]; omega
  | a :: L, p + 1, s, hp => by
    have := set_slo (L := L) (p := p) (s := s) (by simpa using hp)
    simp only [List.set_cons_succ, slo_cons, shi_cons, List.getD_cons_succ]; omega

theorem getD_mem {α : Type} [Inhabited α] {l : List α} {i : Nat} (h : i < l.length) : l.getD i default ∈ l := by
  rw [List.getD_eq_getElem?_getD, List.getElem?_eq_getElem h]; exact List.getElem_mem h
theorem mem_getD {α : Type} {d : α} {l : List α} {x : α} (h : x ∈ l) : ∃ i, i < l.length ∧ l.getD i d = x := by
  obtain ⟨i, hi, e⟩ := List.mem_iff_getElem.1 h
  exact ⟨i, hi, by rw [List.getD_eq_getElem?_getD, List.getElem?_eq_getElem hi]; exact e⟩

theorem InL_att {L : List Spn} {N x : Int} {p : Nat} (hs : ∀ s ∈ L, s.lo ≤ s.hi) (hp : p < L.length) (h1 : (L.getD p default).lo ≤ x) (h2 : x ≤ (L.getD p default).hi)
    (h3 : slo L - (L.getD p default).lo + x ≤ N) (h4 : N ≤ shi L - (L.getD p default).hi + x) : ∃ l, InL L l ∧ sm l = N ∧ l.getD p 0 = x := by
  obtain ⟨e1, e2⟩ := set_slo (L := L) (s := ⟨x, x⟩) hp
  obtain ⟨l, hl, e⟩ := InL_ex (L := L.set p ⟨x, x⟩) (N := N) (fun s hx => by
    rcases List.mem_or_eq_of_mem_set hx with h | h
    · exact hs s h
    · subst h; exact Int.le_refl _) (by rw [e1]; exact h3) (by rw [e2]; exact h4)
  obtain ⟨hlen, hat⟩ := InL_iff.1 hl
  rw [List.length_set] at hlen hat
  refine ⟨l, InL_iff.2 ⟨hlen, fun i hi => ?_⟩, e, ?_⟩
  · have := hat i hi
    by_cases c : p = i
    · subst c
      simp only [List.getD_eq_getElem?_getD, List.getElem?_set_self hp, Option.getD_some] at this h1 h2 ⊢
      omega
    · simpa only [List.getD_eq_getElem?_getD, List.getElem?_set_ne c] using this
  · have := hat p hp
    simp only [List.getD_eq_getElem?_getD, List.getElem?_set_self hp, Option.getD_some] at this ⊢
    omega

/-! what a place has -/
def shL (L : List Spn) (p : Nat) : Int := mx (L.getD p default).lo (12 - (shi L - (L.getD p default).hi))
def shH (L : List Spn) (p : Nat) : Int := mn (L.getD p default).hi (12 - (slo L - (L.getD p default).lo))

/-- spans of a sea that is valid -/
structure SpOk (L : List Spn) : Prop where
  le : L.length ≤ 4
  s : ∀ s ∈ L, 0 ≤ s.lo ∧ s.lo ≤ s.hi ∧ s.hi ≤ 12
  lo : slo L ≤ 12
  hi : 12 ≤ shi L

theorem SpOk.ne {L : List Spn} (H : SpOk L) : 0 < L.length := by
  have := H.hi
  cases L with
  | nil => simp [shi, sm] at this
  | cons a L => simp
theorem SpOk.at {L : List Spn} (H : SpOk L) {p : Nat} (hp : p < L.length) : 0 ≤ (L.getD p default).lo ∧ (L.getD p default).lo ≤ (L.getD p default).hi ∧ (L.getD p default).hi ≤ 12 := H.s _ (getD_mem hp)

theorem slo_ge : ∀ {L : List Spn} {p : Nat}, (∀ s ∈ L, 0 ≤ s.lo ∧ s.lo ≤ s.hi) → p < L.length → (L.getD p default).lo ≤ slo L ∧ (L.getD p default).hi ≤ shi L ∧ (L.getD p default).hi - (L.getD p default).lo ≤ shi L - slo L
  | [], _, _, hp => by simp at hp
  | s :: L, p, h, hp => by
    have h0 := h s (by simp)
    have key : ∀ {L : List Spn}, (∀ s ∈ L, 0 ≤ s.lo ∧ s.lo ≤ s.hi) → 0 ≤ slo L ∧ slo L ≤ shi L := by
      intro L
      induction L with
      | nil => intro _; simp [slo, shi, sm]
      | cons a L ih =>
        intro h
        have := h a (by simp)
        have := ih (fun x hx => h x (by simp [hx]))
        simp only [slo_cons, shi_cons]; omega
    have hk := key (L := L) (fun x hx => h x (by simp [hx]))
    cases p with
    | zero => simp only [slo_cons, shi_cons, List.getD_cons_zero]; omega
    | succ p =>
      have := slo_ge (L := L) (p := p) (fun x hx => h x (by simp [hx])) (by simpa using hp)
      simp only [slo_cons, shi_cons, List.getD_cons_succ]; omega

theorem shr_ok {L : List Spn} {l : List Int} {p : Nat} (h : InL L l) (e : sm l = 12) (hp : p < L.length) : shL L p ≤ l.getD p 0 ∧ l.getD p 0 ≤ shH L p := by
  have h1 := InL_at h hp
  have h2 := (InL_iff.1 h).2 p hp
  exact ⟨mx_le h2.1 (by omega), le_mn h2.2 (by omega)⟩
theorem shr_le {L : List Spn} (H : SpOk L) {p : Nat} (hp : p < L.length) : 0 ≤ shL L p ∧ shL L p ≤ shH L p ∧ shH L p ≤ 12 := by
  have h1 := H.at hp
  have h2 := slo_ge (fun s hs => ⟨(H.s s hs).1, (H.s s hs).2.1⟩) hp
  have := H.lo; have := H.hi
  refine ⟨Int.le_trans h1.1 le_mx1, mx_le (le_mn h1.2.1 (by omega)) (le_mn (by omega) (by omega)), Int.le_trans mn_le1 h1.2.2⟩
theorem shr_att {L : List Spn} (H : SpOk L) {p : Nat} (hp : p < L.length) {x : Int} (h1 : shL L p ≤ x) (h2 : x ≤ shH L p) : ∃ l, InL L l ∧ sm l = 12 ∧ l.getD p 0 = x := by
  have a1 : (L.getD p default).lo ≤ shL L p := le_mx1
  have a2 : 12 - (shi L - (L.getD p default).hi) ≤ shL L p := le_mx2
  have a3 : shH L p ≤ (L.getD p default).hi := mn_le1
  have a4 : shH L p ≤ 12 - (slo L - (L.getD p default).lo) := mn_le2
  exact InL_att (fun s hs => (H.s s hs).2.1) hp (by omega) (by omega) (by omega) (by omega)

/-! all lists of parts -/
def areP (L : List Spn) (l : List Int) : Bool := decide (l.length = L.length) && ((List.range l.length).all fun i => inR (l.getD i 0) (L.getD i default).lo (L.getD i default).hi) && decide (sm l = 12)
theorem areP_iff {L : List Spn} {l : List Int} : areP L l = true ↔ InL L l ∧ sm l = 12 := by
  simp only [areP, Bool.and_eq_true, decide_eq_true_eq, List.all_eq_true, List.mem_range, inR_iff, InL_iff]
  constructor
  · rintro ⟨⟨h1, h2⟩, h3⟩; exact ⟨⟨h1, fun i hi => h2 i (by omega)⟩, h3⟩
  · rintro ⟨⟨h1, h2⟩, h3⟩; exact ⟨⟨h1, fun i hi => h2 i (by omega)⟩, h3⟩

def vals (s : Spn) : List Int := (List.range (s.hi - s.lo + 1).toNat).map fun (i : Nat) => s.lo + (i : Int)
theorem mem_vals {s : Spn} {x : Int} : x ∈ vals s ↔ s.lo ≤ x ∧ x ≤ s.hi := by
  simp only [vals, List.mem_map, List.mem_range]
  constructor
  · rintro ⟨i, hi, rfl⟩; omega
  · intro h; exact ⟨(x - s.lo).toNat, by omega, by omega⟩
def ptg (L : List Spn) : Nat → List Int → List (List Int)
  | 0, F => if areP L F = true then [F] else []
  | d + 1, F => (vals (L.getD F.length default)).flatMap fun x => ptg L d (F ++ [x])
theorem mem_ptg {L : List Spn} : ∀ {d : Nat} {F G : List Int}, F.length + d = L.length → (G ∈ ptg L d F ↔ areP L G = true ∧ ∃ T, G = F ++ T ∧ T.length = d)
  | 0, F, G, h => by
    simp only [ptg]
    constructor
    · intro hg
      split at hg
      · rename_i hp; rw [List.mem_singleton] at hg; subst hg; exact ⟨hp, [], by simp, rfl⟩
      · simp at hg
    · rintro ⟨hp, T, rfl, ht⟩
      rw [List.eq_nil_of_length_eq_zero ht, List.append_nil] at hp ⊢
      rw [if_pos hp]; simp
  | d + 1, F, G, h => by
    simp only [ptg, List.mem_flatMap]
    constructor
    · rintro ⟨x, hx, hg⟩
      obtain ⟨hp, T, rfl, ht⟩ := (mem_ptg (by simp; omega)).1 hg
      exact ⟨hp, x :: T, by simp, by simp [ht]⟩
    · rintro ⟨hp, T, rfl, ht⟩
      match T, ht with
      | x :: T, ht =>
        refine ⟨x, mem_vals.2 ?_, (mem_ptg (by simp; omega)).2 ⟨by simpa using hp, T, by simp, by simpa using ht⟩⟩
        have := (InL_iff.1 (areP_iff.1 hp).1).2 F.length (by omega)
        simpa [List.getD_eq_getElem?_getD] using this
/-- all lists of parts -/
abbrev pts (L : List Spn) : List (List Int) := ptg L L.length []
theorem mem_pts {L : List Spn} {G : List Int} : G ∈ pts L ↔ InL L G ∧ sm G = 12 := by
  rw [mem_ptg (by simp), areP_iff]
  constructor
  · rintro ⟨h, _⟩; exact h
  · intro h; exact ⟨h, G, rfl, (InL_iff.1 h.1).1⟩
theorem pts_ne {L : List Spn} (H : SpOk L) : pts L ≠ [] := by
  obtain ⟨l, h, e⟩ := InL_ex (fun s hs => (H.s s hs).2.1) H.lo H.hi
  exact List.ne_nil_of_mem (mem_pts.2 ⟨h, e⟩)
end Go.Proofs.Ytokhneffambgmaa.A

/-
Boats and crews: what a crew lifts, which crews there are, the cheapest one, and who is short.
-/
namespace Go.Proofs.Ytokhneffambgmaa.A
set_option linter.unusedSimpArgs false
set_option linter.unusedVariables false

structure Bt where
  c : Int
  p : Int
  deriving Inhabited, DecidableEq
structure Sea where
  w : Spn
  pl : List Spn
  bo : List Bt

/-- a sea that is valid, or one whose boats can carry a pound more -/
structure SeaG (s : Sea) : Prop where
  sp : SpOk s.pl
  w0 : 0 ≤ s.w.lo
  w1 : s.w.lo ≤ s.w.hi
  w2 : s.w.hi ≤ 2000
  nb : s.bo.length ≤ 6
  b : ∀ b ∈ s.bo, 0 ≤ b.c ∧ b.c ≤ 1000 ∧ 0 ≤ b.p ∧ b.p ≤ 99

def boat (s : Sea) (b : Int) : Bt := s.bo.getD b.toNat default
theorem boat_ok {s : Sea} (H : SeaG s) (b : Int) : 0 ≤ (boat s b).c ∧ (boat s b).c ≤ 1000 ∧ 0 ≤ (boat s b).p ∧ (boat s b).p ≤ 99 := by
  unfold boat
  by_cases h : b.toNat < s.bo.length
  · exact H.b _ (getD_mem h)
  · rw [List.getD_eq_getElem?_getD, List.getElem?_eq_none (by omega)]; decide

/-- what a boat surely bears at a place -/
def brs (L : List Spn) (c : Int) (p : Nat) : Int := if shH L p = 0 then 2000 else mn (12 * c / shH L p) 2000
theorem le_brs {L : List Spn} (H : SpOk L) {p : Nat} (hp : p < L.length) {c x : Int} (h0 : 0 ≤ c) (hx : x ≤ 2000) : x ≤ brs L c p ↔ x * shH L p ≤ 12 * c := by
  have hs := shr_le H hp
  unfold brs
  split
  · rename_i e; rw [e]; constructor
    · intro _; omega
    · intro _; exact hx
  · rename_i e
    have h1 : 0 < shH L p := by omega
    constructor
    · intro h
      have := Int.le_trans h mn_le1
      exact (Int.le_ediv_iff_mul_le h1).1 this
    · intro h
      exact le_mn ((Int.le_ediv_iff_mul_le h1).2 h) hx
theorem brs_ge {L : List Spn} (H : SpOk L) {p : Nat} (hp : p < L.length) {c : Int} (h0 : 0 ≤ c) : 0 ≤ brs L c p := (le_brs H hp h0 (by omega)).2 (by omega)

/-- what the first boats of a crew lift -/
def lftU (s : Sea) (l : List Int) : Nat → Int
  | 0 => 2000
  | k + 1 => mn (lftU s l k) (brs s.pl (boat s (l.getD k 0)).c k)
abbrev lft (s : Sea) (l : List Int) : Int := lftU s l l.length
theorem lftU_le {s : Sea} {l : List Int} : ∀ {k : Nat}, lftU s l k ≤ 2000
  | 0 => Int.le_refl _
  | k + 1 => Int.le_trans mn_le1 (lftU_le (k := k))
theorem le_lftU {s : Sea} {l : List Int} {x : Int} (hx : x ≤ 2000) : ∀ {k : Nat}, x ≤ lftU s l k ↔ ∀ i, i < k → x ≤ brs s.pl (boat s (l.getD i 0)).c i
  | 0 => by simp [lftU, hx]
  | k + 1 => by
    have ih := le_lftU (s := s) (l := l) hx (k := k)
    constructor
    · intro h i hi
      by_cases e : i = k
      · subst e; exact Int.le_trans h mn_le2
      · exact ih.1 (Int.le_trans h mn_le1) i (by omega)
    · intro h
      exact le_mn (ih.2 fun i hi => h i (by omega)) (h k (by omega))
theorem le_lft {s : Sea} (H : SeaG s) {l : List Int} (hl : l.length = s.pl.length) {x : Int} (hx : x ≤ 2000) : x ≤ lft s l ↔ ∀ i, i < s.pl.length → x * shH s.pl i ≤ 12 * (boat s (l.getD i 0)).c := by
  rw [le_lftU hx, hl]
  constructor
  · intro h i hi; exact (le_brs H.sp hi (boat_ok H _).1 hx).1 (h i hi)
  · intro h i hi; exact (le_brs H.sp hi (boat_ok H _).1 hx).2 (h i hi)
theorem lftU_ge {s : Sea} (H : SeaG s) {l : List Int} {k : Nat} (hk : k ≤ s.pl.length) : 0 ≤ lftU s l k :=
  (le_lftU (by omega)).2 fun i hi => brs_ge H.sp (by omega) (boat_ok H _).1

/-- the need of a place -/
def needv (s : Sea) (p : Nat) : Int := (s.w.hi * shH s.pl p + 11) / 12
theorem need_le {s : Sea} {p : Nat} {c : Int} : needv s p ≤ c ↔ s.w.hi * shH s.pl p ≤ 12 * c := by unfold needv; omega
/-- each boat of a crew can carry the need of its place -/
def fts (s : Sea) (l : List Int) : Bool := (List.range l.length).all fun i => decide (needv s i ≤ (boat s (l.getD i 0)).c)
theorem fts_iff {s : Sea} {l : List Int} : fts s l = true ↔ ∀ i, i < l.length → needv s i ≤ (boat s (l.getD i 0)).c := by
  simp [fts]
theorem fts_lft {s : Sea} (H : SeaG s) {l : List Int} (hl : l.length = s.pl.length) : fts s l = decide (s.w.hi ≤ lft s l) := by
  rw [Bool.eq_iff_iff, decide_eq_true_eq, fts_iff, le_lft H hl H.w2, hl]
  constructor
  · intro h i hi; exact need_le.1 (h i hi)
  · intro h i hi; exact need_le.2 (h i hi)

/-- some boat of a crew is over its load -/
def ovr (s : Sea) (l : List Int) (w : Int) (p : List Int) : Bool := (List.range l.length).any fun i => decide (w * p.getD i 0 > 12 * (boat s (l.getD i 0)).c)
theorem ovr_no {s : Sea} {l : List Int} {w : Int} {p : List Int} : ovr s l w p = false ↔ ∀ i, i < l.length → w * p.getD i 0 ≤ 12 * (boat s (l.getD i 0)).c := by
  simp only [ovr, List.any_eq_false, List.mem_range, decide_eq_true_eq]
  constructor
  · intro h i hi; have := h i hi; omega
  · intro h i hi; have := h i hi; omega
/-- a weight that a crew surely holds -/
theorem safe_iff {s : Sea} (H : SeaG s) {l : List Int} (hl : l.length = s.pl.length) {w : Int} (h0 : 0 ≤ w) : (∀ G ∈ pts s.pl, ovr s l w G = false) ↔ ∀ i, i < s.pl.length → w * shH s.pl i ≤ 12 * (boat s (l.getD i 0)).c := by
  constructor
  · intro h i hi
    have hs := shr_le H.sp hi
    obtain ⟨G, h1, h2, h3⟩ := shr_att H.sp hi hs.2.1 (Int.le_refl _)
    have := ovr_no.1 (h G (mem_pts.2 ⟨h1, h2⟩)) i (by omega)
    rwa [h3] at this
  · intro h G hG
    obtain ⟨h1, h2⟩ := mem_pts.1 hG
    refine ovr_no.2 fun i hi => ?_
    have := (shr_ok h1 h2 (p := i) (by omega)).2
    exact Int.le_trans (Int.mul_le_mul_of_nonneg_left this h0) (h i (by omega))

/-! can a crew hold? -/
def capP (s : Sea) (l : List Int) (i : Nat) : Int := if s.w.lo > 0 then mn (s.pl.getD i default).hi (12 * (boat s (l.getD i 0)).c / s.w.lo) else (s.pl.getD i default).hi
def canB (s : Sea) (l : List Int) : Bool := ((List.range l.length).all fun i => decide ((s.pl.getD i default).lo ≤ capP s l i)) && decide (12 ≤ sm ((List.range l.length).map (capP s l)))
theorem capP_iff {s : Sea} (H : SeaG s) {l : List Int} {i : Nat} {x : Int} : x ≤ capP s l i ↔ x ≤ (s.pl.getD i default).hi ∧ s.w.lo * x ≤ 12 * (boat s (l.getD i 0)).c := by
  have hb := (boat_ok H (l.getD i 0)).1
  unfold capP
  split
  · rename_i h
    constructor
    · intro hx
      refine ⟨Int.le_trans hx mn_le1, ?_⟩
      have := (Int.le_ediv_iff_mul_le h).1 (Int.le_trans hx mn_le2)
      rwa [Int.mul_comm]
    · rintro ⟨h1, h2⟩
      exact le_mn h1 ((Int.le_ediv_iff_mul_le h).2 (by rwa [Int.mul_comm]))
  · rename_i h
    have e : s.w.lo = 0 := by have := H.w0; omega
    rw [e]
    constructor
    · intro hx; exact ⟨hx, by omega⟩
    · rintro ⟨h1, _⟩; exact h1
theorem can_iff {s : Sea} (H : SeaG s) {l : List Int} (hl : l.length = s.pl.length) : canB s l = true ↔ ∃ G ∈ pts s.pl, ovr s l s.w.lo G = false := by
  have key : ∀ {i : Nat}, i < s.pl.length → ((List.range s.pl.length).map fun i => (⟨(s.pl.getD i default).lo, capP s l i⟩ : Spn)).getD i default = ⟨(s.pl.getD i default).lo, capP s l i⟩ := by
    intro i hi
    simp only [List.getD_eq_getElem?_getD, List.getElem?_map, List.getElem?_range hi, Option.map_some, Option.getD_some]
  have e1 : slo ((List.range s.pl.length).map fun i => (⟨(s.pl.getD i default).lo, capP s l i⟩ : Spn)) = slo s.pl := by
    simp only [slo, List.map_map]
    congr 1
    apply List.ext_getElem
    · simp
    · intro i h1 h2
      simp at h1 h2
      simp [h1]
  have e2 : shi ((List.range s.pl.length).map fun i => (⟨(s.pl.getD i default).lo, capP s l i⟩ : Spn)) = sm ((List.range s.pl.length).map (capP s l)) := by
    simp only [shi, List.map_map]; rfl
  simp only [canB, Bool.and_eq_true, List.all_eq_true, List.mem_range, decide_eq_true_eq, hl]
  constructor
  · rintro ⟨h1, h2⟩
    obtain ⟨G, hG, e⟩ := InL_ex (L := (List.range s.pl.length).map fun i => (⟨(s.pl.getD i default).lo, capP s l i⟩ : Spn)) (N := 12) (by
      intro x hx
      obtain ⟨i, hi, rfl⟩ := List.mem_map.1 hx
      exact h1 i (List.mem_range.1 hi)) (by rw [e1]; exact H.sp.lo) (by rw [e2]; exact h2)
    obtain ⟨g1, g2⟩ := InL_iff.1 hG
    simp only [List.length_map, List.length_range] at g1 g2
    refine ⟨G, mem_pts.2 ⟨InL_iff.2 ⟨g1, fun i hi => ?_⟩, e⟩, ovr_no.2 fun i hi => ?_⟩
    · have := g2 i hi
      rw [key hi] at this
      exact ⟨this.1, ((capP_iff H).1 this.2).1⟩
    · have := g2 i (by omega)
      rw [key (by omega)] at this
      exact ((capP_iff H).1 this.2).2
  · rintro ⟨G, hG, ho⟩
    obtain ⟨h1, h2⟩ := mem_pts.1 hG
    have g := (InL_iff.1 h1).2
    have o := ovr_no.1 ho
    have c : ∀ i, i < s.pl.length → G.getD i 0 ≤ capP s l i := fun i hi => (capP_iff H).2 ⟨(g i hi).2, o i (by omega)⟩
    refine ⟨fun i hi => Int.le_trans (g i hi).1 (c i hi), ?_⟩
    have hI : InL ((List.range s.pl.length).map fun i => (⟨(s.pl.getD i default).lo, capP s l i⟩ : Spn)) G := InL_iff.2 ⟨by simp [(InL_iff.1 h1).1], fun i hi => by
      simp only [List.length_map, List.length_range] at hi
      rw [key hi]; exact ⟨(g i hi).1, c i hi⟩⟩
    have := (InL_sum hI).2
    rw [e2] at this; omega

/-! all crews -/
def crw (nb : Nat) : Nat → List Int → List (List Int)
  | 0, F => [F]
  | d + 1, F => (List.range nb).flatMap fun (b : Nat) => if (b : Int) ∈ F then [] else crw nb d (F ++ [(b : Int)])
def okC (nb : Nat) (l : List Int) : Prop := (∀ x ∈ l, 0 ≤ x ∧ x < nb) ∧ l.Nodup
theorem okC_snoc {nb : Nat} {l : List Int} {x : Int} : okC nb (l ++ [x]) ↔ okC nb l ∧ (0 ≤ x ∧ x < nb) ∧ x ∉ l := by
  simp only [okC, List.mem_append, List.mem_singleton, List.nodup_append, List.nodup_cons, List.not_mem_nil, not_false_eq_true, List.nodup_nil, and_true, true_and]
  constructor
  · rintro ⟨h1, h2, h3⟩
    exact ⟨⟨fun y hy => h1 y (.inl hy), h2⟩, h1 x (.inr rfl), fun hx => h3 x hx x rfl rfl⟩
  · rintro ⟨⟨h1, h2⟩, h3, h4⟩
    refine ⟨fun y hy => ?_, h2, fun a ha b hb e => ?_⟩
    · rcases hy with hy | rfl
      · exact h1 y hy
      · exact h3
    · subst hb; subst e; exact h4 ha
theorem mem_crw {nb : Nat} : ∀ {d : Nat} {F G : List Int}, okC nb F → (G ∈ crw nb d F ↔ okC nb G ∧ ∃ T, G = F ++ T ∧ T.length = d)
  | 0, F, G, h => by
    simp only [crw, List.mem_singleton]
    constructor
    · rintro rfl; exact ⟨h, [], by simp, rfl⟩
    · rintro ⟨_, T, rfl, ht⟩; rw [List.eq_nil_of_length_eq_zero ht, List.append_nil]
  | d + 1, F, G, h => by
    simp only [crw, List.mem_flatMap, List.mem_range]
    constructor
    · rintro ⟨b, hb, hg⟩
      split at hg
      · simp at hg
      · rename_i hn
        obtain ⟨hp, T, rfl, ht⟩ := (mem_crw (okC_snoc.2 ⟨h, ⟨by omega, by omega⟩, hn⟩)).1 hg
        exact ⟨hp, (b : Int) :: T, by simp, by simp [ht]⟩
    · rintro ⟨hp, T, rfl, ht⟩
      match T, ht with
      | x :: T, ht =>
        have e : F ++ x :: T = (F ++ [x]) ++ T := by simp
        have hx : okC nb (F ++ [x]) := by
          rw [e] at hp
          exact ⟨fun y hy => hp.1 y (List.mem_append_left _ hy), (List.nodup_append.1 hp.2).1⟩
        have h3 := okC_snoc.1 hx
        refine ⟨x.toNat, by omega, ?_⟩
        rw [show ((x.toNat : Nat) : Int) = x by omega, if_neg h3.2.2]
        exact (mem_crw hx).2 ⟨hp, T, by simp, by simpa using ht⟩
abbrev crws (s : Sea) : List (List Int) := crw s.bo.length s.pl.length []
def isCr (s : Sea) (l : List Int) : Prop := l.length = s.pl.length ∧ okC s.bo.length l
theorem mem_crws {s : Sea} {l : List Int} : l ∈ crws s ↔ isCr s l := by
  rw [mem_crw ⟨by simp, by simp⟩]
  constructor
  · rintro ⟨h, T, rfl, ht⟩; exact ⟨by simpa using ht, h⟩
  · rintro ⟨h1, h2⟩; exact ⟨h2, l, by simp, h1⟩

/-- one list ahead of another one -/
def ear : List Int → List Int → Bool
  | a :: l, b :: m => if a ≠ b then decide (a < b) else ear l m
  | _, _ => false
theorem ear_app : ∀ {F l m : List Int}, ear (F ++ l) (F ++ m) = ear l m
  | [], _, _ => rfl
  | a :: F, l, m => by simp [ear, ear_app (F := F)]
theorem ear_asym : ∀ {l m : List Int}, ear l m = true → ear m l = false
  | [], m, h => by simp [ear] at h
  | a :: l, [], h => by simp [ear] at h
  | a :: l, b :: m, h => by
    simp only [ear] at h ⊢
    by_cases e : a = b
    · subst e; simp only [ne_eq, not_true_eq_false, if_false] at h ⊢; exact ear_asym h
    · rw [if_pos e] at h; rw [if_pos (Ne.symm e)]; simp at h ⊢; omega
theorem crw_sorted {nb : Nat} : ∀ {d : Nat} {F : List Int}, (crw nb d F).Pairwise fun x y => ear x y = true
  | 0, F => by simp [crw]
  | d + 1, F => by
    rw [crw, List.pairwise_flatMap]
    refine ⟨fun b hb => ?_, ?_⟩
    · split
      · exact List.Pairwise.nil
      · exact crw_sorted
    · refine List.pairwise_lt_range.imp ?_
      intro a b hab x hx y hy
      split at hx
      · simp at hx
      split at hy
      · simp at hy
      have pre : ∀ {d : Nat} {F G : List Int}, G ∈ crw nb d F → ∃ T, G = F ++ T := by
        intro d
        induction d with
        | zero => intro F G h; simp [crw] at h; exact ⟨[], by simp [h]⟩
        | succ d ih =>
          intro F G h
          simp only [crw, List.mem_flatMap] at h
          obtain ⟨b, _, h⟩ := h
          split at h
          · simp at h
          · obtain ⟨T, rfl⟩ := ih h; exact ⟨(b : Int) :: T, by simp⟩
      obtain ⟨T, rfl⟩ := pre hx
      obtain ⟨U, rfl⟩ := pre hy
      rw [List.append_assoc, List.append_assoc, ear_app]
      simp only [List.cons_append, List.nil_append, ear]
      rw [if_pos (by omega)]; simp; omega

/-! the first of the cheapest -/
def bstS (f : List Int → Bool) (cost : List Int → Int) (b : Option (List Int)) (c : List Int) : Option (List Int) :=
  if f c then (match b with | none => some c | some x => if cost c < cost x then some c else b) else b
def bst (f : List Int → Bool) (cost : List Int → Int) (l : List (List Int)) : Option (List Int) := l.foldl (bstS f cost) none
theorem bst_snoc {f : List Int → Bool} {cost : List Int → Int} {l : List (List Int)} {c : List Int} : bst f cost (l ++ [c]) = bstS f cost (bst f cost l) c := by
  simp [bst, List.foldl_append]
theorem snocRec {α : Type} (P : List α → Prop) (l : List α) (nil : P []) (snoc : ∀ l c, P l → P (l ++ [c])) : P l := by
  rw [← List.reverse_reverse l]
  induction l.reverse with
  | nil => exact nil
  | cons c l ih => rw [List.reverse_cons]; exact snoc _ _ ih
theorem bst_none {f : List Int → Bool} {cost : List Int → Int} {l : List (List Int)} : bst f cost l = none ↔ ∀ c ∈ l, f c = false := by
  refine snocRec (fun l => bst f cost l = none ↔ ∀ c ∈ l, f c = false) l (by simp [bst]) ?_
  intro l c ih
  rw [bst_snoc]
  constructor
  · intro h x hx
    unfold bstS at h
    split at h
    · split at h
      · cases h
      · split at h
        · cases h
        · rename_i e _; rw [e] at h; cases h
    · rename_i hf
      rcases List.mem_append.1 hx with hx | hx
      · exact ih.1 h x hx
      · rw [List.mem_singleton] at hx; subst hx; simpa using hf
  · intro h
    unfold bstS
    rw [if_neg (by rw [h c (by simp)]; simp)]
    exact ih.2 fun x hx => h x (by simp [hx])
theorem bst_some {f : List Int → Bool} {cost : List Int → Int} {l : List (List Int)} : l.Pairwise (fun x y => ear x y = true) → ∀ {x : List Int}, bst f cost l = some x → (x ∈ l ∧ f x = true ∧ ∀ c ∈ l, f c = true → cost x ≤ cost c ∧ (cost c = cost x → ear c x = false)) := by
  refine snocRec (fun l => l.Pairwise (fun x y => ear x y = true) → ∀ {x : List Int}, bst f cost l = some x → (x ∈ l ∧ f x = true ∧ ∀ c ∈ l, f c = true → cost x ≤ cost c ∧ (cost c = cost x → ear c x = false))) l (by intro _ x h; cases h) ?_
  intro l c ih hp x h
  rw [List.pairwise_append] at hp
  obtain ⟨hp, _, hc⟩ := hp
  rw [bst_snoc] at h
  unfold bstS at h
  split at h
  · rename_i hf
    split at h
    · rename_i e
      cases h
      refine ⟨by simp, hf, fun y hy hfy => ?_⟩
      rcases List.mem_append.1 hy with hy | hy
      · rw [bst_none.1 e y hy] at hfy; cases hfy
      · rw [List.mem_singleton] at hy; subst hy
        refine ⟨Int.le_refl _, fun _ => ?_⟩
        cases hh : ear y y with
        | false => rfl
        | true => have := ear_asym hh; rw [hh] at this; cases this
    · rename_i z e
      split at h
      · rename_i hlt
        cases h
        obtain ⟨h1, h2, h3⟩ := ih hp e
        refine ⟨by simp, hf, fun y hy hfy => ?_⟩
        rcases List.mem_append.1 hy with hy | hy
        · have := (h3 y hy hfy).1
          exact ⟨by omega, fun e => by omega⟩
        · rw [List.mem_singleton] at hy; subst hy
          refine ⟨Int.le_refl _, fun _ => ?_⟩
          cases hh : ear y y with
          | false => rfl
          | true => have := ear_asym hh; rw [hh] at this; cases this
      · rename_i hlt
        obtain ⟨h1, h2, h3⟩ := ih hp h
        rw [e] at h
        cases h
        refine ⟨by simp [h1], h2, fun y hy hfy => ?_⟩
        rcases List.mem_append.1 hy with hy | hy
        · exact h3 y hy hfy
        · rw [List.mem_singleton] at hy; subst hy
          exact ⟨by omega, fun _ => ear_asym (hc _ h1 _ (by simp))⟩
  · rename_i hf
    obtain ⟨h1, h2, h3⟩ := ih hp h
    refine ⟨by simp [h1], h2, fun y hy hfy => ?_⟩
    rcases List.mem_append.1 hy with hy | hy
    · exact h3 y hy hfy
    · rw [List.mem_singleton] at hy; subst hy; exact absurd hfy hf
/-- the cost of a crew -/
def cstU (s : Sea) (l : List Int) : Nat → Int
  | 0 => 0
  | k + 1 => cstU s l k + (boat s (l.getD k 0)).p
abbrev cst (s : Sea) (l : List Int) : Int := cstU s l l.length
theorem cstU_le {s : Sea} (H : SeaG s) {l : List Int} : ∀ {k : Nat}, 0 ≤ cstU s l k ∧ cstU s l k ≤ 99 * k
  | 0 => by simp [cstU]
  | k + 1 => by
    have := cstU_le H (l := l) (k := k)
    have := boat_ok H (l.getD k 0)
    simp only [cstU]; omega
abbrev crew (s : Sea) : Option (List Int) := bst (fts s) (cst s) (crws s)
theorem crew_none {s : Sea} : crew s = none ↔ ∀ l, isCr s l → fts s l = false := by
  rw [bst_none]
  constructor
  · intro h l hl; exact h l (mem_crws.2 hl)
  · intro h l hl; exact h l (mem_crws.1 hl)
theorem crew_some {s : Sea} {x : List Int} (h : crew s = some x) : isCr s x ∧ fts s x = true ∧ ∀ l, isCr s l → fts s l = true → cst s x ≤ cst s l ∧ (cst s l = cst s x → ear l x = false) := by
  obtain ⟨h1, h2, h3⟩ := bst_some crw_sorted h
  exact ⟨mem_crws.1 h1, h2, fun l hl hf => h3 l (mem_crws.2 hl) hf⟩

/-! the most of all crews -/
def mst (f : List Int → Int) (l : List (List Int)) : Int := l.foldl (fun m c => mx m (f c)) 0
theorem mst_snoc {f : List Int → Int} {l : List (List Int)} {c : List Int} : mst f (l ++ [c]) = mx (mst f l) (f c) := by simp [mst, List.foldl_append]
theorem mst_ge {f : List Int → Int} {l : List (List Int)} : 0 ≤ mst f l ∧ ∀ c ∈ l, f c ≤ mst f l := by
  refine snocRec (fun l => 0 ≤ mst f l ∧ ∀ c ∈ l, f c ≤ mst f l) l (by simp [mst]) ?_
  intro l c ih
  rw [mst_snoc]
  refine ⟨Int.le_trans ih.1 le_mx1, fun x hx => ?_⟩
  rcases List.mem_append.1 hx with hx | hx
  · exact Int.le_trans (ih.2 x hx) le_mx1
  · rw [List.mem_singleton] at hx; subst hx; exact le_mx2
theorem mst_at {f : List Int → Int} {l : List (List Int)} : mst f l = 0 ∨ ∃ c ∈ l, f c = mst f l := by
  refine snocRec (fun l => mst f l = 0 ∨ ∃ c ∈ l, f c = mst f l) l (by simp [mst]) ?_
  intro l c ih
  rw [mst_snoc]
  rcases mx_or (x := mst f l) (y := f c) with h | h
  · rw [h]
    rcases ih with ih | ⟨x, hx, e⟩
    · exact .inl ih
    · exact .inr ⟨x, by simp [hx], e⟩
  · rw [h]; exact .inr ⟨c, by simp, rfl⟩
theorem mst_le {f : List Int → Int} {l : List (List Int)} {x : Int} (h0 : 0 ≤ x) (h : ∀ c ∈ l, f c ≤ x) : mst f l ≤ x := by
  rcases mst_at (f := f) (l := l) with e | ⟨c, hc, e⟩
  · omega
  · rw [← e]; exact h c hc
abbrev most (s : Sea) : Int := mst (lft s) (crws s)
end Go.Proofs.Ytokhneffambgmaa.A

/-
Who is short: places for which there are too few boats; there is a crew that holds just if there are none.
-/
namespace Go.Proofs.Ytokhneffambgmaa.A
set_option linter.unusedSimpArgs false
set_option linter.unusedVariables false

section
variable (n : Nat → Int) (c : Nat → Int)
end

theorem nodup_inj {α : Type} {l : List α} (h : l.Nodup) {i j : Nat} (hi : i < l.length) (hj : j < l.length) (e : l[i] = l[j]) : i = j := by
  have h1 := List.pairwise_iff_getElem.1 h
  by_cases c1 : i < j
  · exact absurd e (h1 i j hi hj c1)
  · by_cases c2 : j < i
    · exact absurd e.symm (h1 j i hj hi c2)
    · omega
end Go.Proofs.Ytokhneffambgmaa.A

/-
Who is short, as the specification looks for it: all lists of places, the least first.
-/
namespace Go.Proofs.Ytokhneffambgmaa.A
set_option linter.unusedSimpArgs false
set_option linter.unusedVariables false

end Go.Proofs.Ytokhneffambgmaa.A

/-
One boat more, a stronger boat, a narrower span, another order, an exchange: what becomes of crews.
-/
namespace Go.Proofs.Ytokhneffambgmaa.A
set_option linter.unusedSimpArgs false
set_option linter.unusedVariables false

def chp (s : Sea) : Int := match crew s with
  | none => 10000
  | some l => cst s l
theorem cst_le {s : Sea} (H : SeaG s) {l : List Int} (hl : l.length = s.pl.length) : 0 ≤ cst s l ∧ cst s l ≤ 396 := by
  have := cstU_le H (l := l) (k := l.length)
  have := H.sp.le
  unfold cst; omega
/-- where each crew of one sea has a crew of another one that is not worse -/
theorem better {s o : Sea} (H : SeaG s) (H' : SeaG o) (h : ∀ l, isCr s l → ∃ m, isCr o m ∧ (fts s l = true → fts o m = true) ∧ cst o m ≤ cst s l ∧ lft s l ≤ lft o m) : chp o ≤ chp s ∧ most s ≤ most o := by
  constructor
  · unfold chp
    cases hs : crew s with
    | none =>
      cases ho : crew o with
      | none => exact Int.le_refl _
      | some x =>
        have := (cst_le H' (crew_some ho).1.1).2
        show cst o x ≤ 10000
        omega
    | some l =>
      obtain ⟨h1, h2, _⟩ := crew_some hs
      obtain ⟨m, m1, m2, m3, _⟩ := h l h1
      cases ho : crew o with
      | none => have := crew_none.1 ho m m1; rw [m2 h2] at this; cases this
      | some x =>
        have := ((crew_some ho).2.2 m m1 (m2 h2)).1
        show cst o x ≤ cst s l
        omega
  · refine mst_le mst_ge.1 fun c hc => ?_
    obtain ⟨m, m1, _, _, m4⟩ := h c (mem_crws.1 hc)
    exact Int.le_trans m4 (mst_ge.2 m (mem_crws.2 m1))

theorem isCr_at {s : Sea} {l : List Int} (h : isCr s l) {i : Nat} (hi : i < l.length) : 0 ≤ l.getD i 0 ∧ l.getD i 0 < s.bo.length :=
  h.2.1 _ (by rw [List.getD_eq_getElem?_getD, List.getElem?_eq_getElem hi]; exact List.getElem_mem hi)

/-! a narrower span -/
/-! another order -/
theorem slo_app {a b : List Spn} : slo (a ++ b) = slo a + slo b ∧ shi (a ++ b) = shi a + shi b := by simp only [slo, shi, List.map_append, sm_app, and_self]
/-! an exchange -/
end Go.Proofs.Ytokhneffambgmaa.A

/-
Seas as values, and the small functions of both sides.
-/
namespace Go.Proofs.Ytokhneffambgmaa.A
open Go Go.Am Go.Proofs.Ytokhneffambgmaa.T
set_option maxRecDepth 100000
set_option linter.unusedSimpArgs false
set_option linter.unusedVariables false

def Spn.e (s : Spn) : List AV := [I s.lo, I s.hi]
def Bt.e (s : Bt) : List AV := [I s.c, I s.p]
theorem Spn.el (s : Spn) : s.e.length = 2 := rfl
theorem Bt.el (s : Bt) : s.e.length = 2 := rfl
theorem Spn.sc (s : Spn) : s.e.all AV.scalar = true := rfl
theorem Bt.sc (s : Bt) : s.e.all AV.scalar = true := rfl
abbrev intL (n : Int) : List AV := [I n]
theorem intE (n : Int) : (intL n).length = 1 := rfl
theorem intSc (n : Int) : (intL n).all AV.scalar = true := rfl
def slV {α : Type} (esz : Nat) (enc : α → List AV) (l : List α) : AV := .cs esz l.length (l.flatMap enc)
theorem slV_is {α : Type} {esz : Nat} {enc : α → List AV} {l : List α} : IsSl esz enc l (slV esz enc l) := .inl rfl
theorem elem_in {l : List Int} {v : AV} (h : IsSl 1 intL l v) : ∀ i : Int, 0 ≤ i → i < l.length → elemAt 1 v (I i) = some (.cptr [I (l.getD i.toNat 0)]) := elem_sl intE h
theorem elem_sp {l : List Spn} {v : AV} (h : IsSl 2 Spn.e l v) : ∀ i : Int, 0 ≤ i → i < l.length → elemAt 2 v (I i) = some (.cptr [I (l.getD i.toNat default).lo, I (l.getD i.toNat default).hi]) := elem_sl Spn.el h
theorem elem_bt {l : List Bt} {v : AV} (h : IsSl 2 Bt.e l v) : ∀ i : Int, 0 ≤ i → i < l.length → elemAt 2 v (I i) = some (.cptr [I (l.getD i.toNat default).c, I (l.getD i.toNat default).p]) := elem_sl Bt.el h
/-- a list of numbers that is handed over: none at all if it is empty -/
def resL (l : List Int) : AV := if l = [] then .nils else slV 1 intL l
theorem resL_is (l : List Int) : IsSl 1 intL l (resL l) := by
  unfold resL; split
  · exact .inr ⟨rfl, by assumption⟩
  · exact slV_is

theorem gUn {X : Cx} {base : Nat} {k : List KF} {ts : List AV} {h : List AO} {mk : List Nat} {r : List AOper} {d : Option Nat} {w : Bool} {op : AOp} {sl : Option Nat} {m : List Nat} {x : Option (Nat × Bool)} : GG X base .undef w ⟨d, op, x, sl, m⟩ r k ts h mk = GO X base r k (putT ts d .undef) h mk := id rfl

abbrev seaV (s : Sea) (p b : AV) : AV := .agg [I s.w.lo, I s.w.hi, p, b]
structure SeaIn (s : Sea) (p b : AV) : Prop where
  p : IsSl 2 Spn.e s.pl p
  b : IsSl 2 Bt.e s.bo b
structure SeaOk (s : Sea) (p b : AV) : Prop extends SeaIn s p b where
  sp : s.pl.length ≤ 40
  sb : s.bo.length ≤ 41

def spanOk (s : Spn) (m : Int) : Bool := inR s.hi 0 m && inR s.lo 0 s.hi
theorem spanOk_iff {s : Spn} {m : Int} : spanOk s m = true ↔ 0 ≤ s.lo ∧ s.lo ≤ s.hi ∧ s.hi ≤ m := by
  simp only [spanOk, Bool.and_eq_true, inR_iff]; omega

theorem s17 (n lo hi : Int) (st : Bool) : Iso E 17 [I n, I lo, I hi] st = some (Bo (inR n lo hi)) := by
  refine Iso_of (es _ _ _ _) e17 ?_
  simp only [f17, inR]
  simp (disch := first | assumption | omega | (simp only [az]; done)) only [ru, eq_self, if_true, if_false, BEq.rfl, binI, AO.row?, splice, fillL, mmAll, loadV, storeV, zeros, Am.rowAt, Am.part, addOff, Nat.reduceAdd, Nat.reduceMul, Nat.reduceLeDiff, Nat.reduceSub, Nat.reduceLT, Int.reduceEq, Int.reduceLT, Int.reduceLE, Int.reduceGT, Int.reduceGE, Int.reduceAdd, Int.reduceSub, Int.reduceMul, Int.reduceNeg, Int.reduceToNat, reduceCtorEq, reduceIte]
  by_cases h1 : lo ≤ n
  · simp (disch := first | assumption | omega | (simp only [az]; done)) only [ru, eq_self, if_true, if_false, BEq.rfl, binI, AO.row?, splice, fillL, mmAll, loadV, storeV, zeros, Am.rowAt, Am.part, addOff, Nat.reduceAdd, Nat.reduceMul, Nat.reduceLeDiff, Nat.reduceSub, Nat.reduceLT, Int.reduceEq, Int.reduceLT, Int.reduceLE, Int.reduceGT, Int.reduceGE, Int.reduceAdd, Int.reduceSub, Int.reduceMul, Int.reduceNeg, Int.reduceToNat, reduceCtorEq, reduceIte, h1]
  · simp (disch := first | assumption | omega | (simp only [az]; done)) only [ru, eq_self, if_true, if_false, BEq.rfl, binI, AO.row?, splice, fillL, mmAll, loadV, storeV, zeros, Am.rowAt, Am.part, addOff, Nat.reduceAdd, Nat.reduceMul, Nat.reduceLeDiff, Nat.reduceSub, Nat.reduceLT, Int.reduceEq, Int.reduceLT, Int.reduceLE, Int.reduceGT, Int.reduceGE, Int.reduceAdd, Int.reduceSub, Int.reduceMul, Int.reduceNeg, Int.reduceToNat, reduceCtorEq, reduceIte, h1]
theorem s71 (n lo hi : Int) (st : Bool) : Iso E 21 [I n, I lo, I hi] st = some (Bo (inR n lo hi)) := by
  refine Iso_of (es _ _ _ _) e21 ?_
  simp only [f21]
  simp (disch := first | assumption | omega | (simp only [az]; done)) only [ru, eq_self, if_true, if_false, BEq.rfl, binI, AO.row?, splice, fillL, mmAll, loadV, storeV, zeros, Am.rowAt, Am.part, addOff, Nat.reduceAdd, Nat.reduceMul, Nat.reduceLeDiff, Nat.reduceSub, Nat.reduceLT, Int.reduceEq, Int.reduceLT, Int.reduceLE, Int.reduceGT, Int.reduceGE, Int.reduceAdd, Int.reduceSub, Int.reduceMul, Int.reduceNeg, Int.reduceToNat, reduceCtorEq, reduceIte, s17]
theorem s118 (n hi : Int) (st : Bool) : Iso E 66 [I n, I hi] st = some (Bo (inR n 0 hi)) := by
  refine Iso_of (es _ _ _ _) e66 ?_
  simp only [f66, inR]
  simp (disch := first | assumption | omega | (simp only [az]; done)) only [ru, eq_self, if_true, if_false, BEq.rfl, binI, AO.row?, splice, fillL, mmAll, loadV, storeV, zeros, Am.rowAt, Am.part, addOff, Nat.reduceAdd, Nat.reduceMul, Nat.reduceLeDiff, Nat.reduceSub, Nat.reduceLT, Int.reduceEq, Int.reduceLT, Int.reduceLE, Int.reduceGT, Int.reduceGE, Int.reduceAdd, Int.reduceSub, Int.reduceMul, Int.reduceNeg, Int.reduceToNat, reduceCtorEq, reduceIte]
  by_cases h1 : 0 ≤ n
  · simp (disch := first | assumption | omega | (simp only [az]; done)) only [ru, eq_self, if_true, if_false, BEq.rfl, binI, AO.row?, splice, fillL, mmAll, loadV, storeV, zeros, Am.rowAt, Am.part, addOff, Nat.reduceAdd, Nat.reduceMul, Nat.reduceLeDiff, Nat.reduceSub, Nat.reduceLT, Int.reduceEq, Int.reduceLT, Int.reduceLE, Int.reduceGT, Int.reduceGE, Int.reduceAdd, Int.reduceSub, Int.reduceMul, Int.reduceNeg, Int.reduceToNat, reduceCtorEq, reduceIte, h1]
  · simp (disch := first | assumption | omega | (simp only [az]; done)) only [ru, eq_self, if_true, if_false, BEq.rfl, binI, AO.row?, splice, fillL, mmAll, loadV, storeV, zeros, Am.rowAt, Am.part, addOff, Nat.reduceAdd, Nat.reduceMul, Nat.reduceLeDiff, Nat.reduceSub, Nat.reduceLT, Int.reduceEq, Int.reduceLT, Int.reduceLE, Int.reduceGT, Int.reduceGE, Int.reduceAdd, Int.reduceSub, Int.reduceMul, Int.reduceNeg, Int.reduceToNat, reduceCtorEq, reduceIte, h1]
theorem s106 (n lo hi : Int) (st : Bool) : Iso E 76 [.agg [I lo, I hi], I n] st = some (Bo (inR n lo hi)) := by
  refine Iso_of (es _ _ _ _) e76 ?_
  simp only [f76, inR]
  simp (disch := first | assumption | omega | (simp only [az]; done)) only [ru, eq_self, if_true, if_false, BEq.rfl, binI, AO.row?, splice, fillL, mmAll, loadV, storeV, zeros, Am.rowAt, Am.part, addOff, Nat.reduceAdd, Nat.reduceMul, Nat.reduceLeDiff, Nat.reduceSub, Nat.reduceLT, Int.reduceEq, Int.reduceLT, Int.reduceLE, Int.reduceGT, Int.reduceGE, Int.reduceAdd, Int.reduceSub, Int.reduceMul, Int.reduceNeg, Int.reduceToNat, reduceCtorEq, reduceIte]
  by_cases h1 : lo ≤ n
  · simp (disch := first | assumption | omega | (simp only [az]; done)) only [ru, eq_self, if_true, if_false, BEq.rfl, binI, AO.row?, splice, fillL, mmAll, loadV, storeV, zeros, Am.rowAt, Am.part, addOff, Nat.reduceAdd, Nat.reduceMul, Nat.reduceLeDiff, Nat.reduceSub, Nat.reduceLT, Int.reduceEq, Int.reduceLT, Int.reduceLE, Int.reduceGT, Int.reduceGE, Int.reduceAdd, Int.reduceSub, Int.reduceMul, Int.reduceNeg, Int.reduceToNat, reduceCtorEq, reduceIte, h1]
  · simp (disch := first | assumption | omega | (simp only [az]; done)) only [ru, eq_self, if_true, if_false, BEq.rfl, binI, AO.row?, splice, fillL, mmAll, loadV, storeV, zeros, Am.rowAt, Am.part, addOff, Nat.reduceAdd, Nat.reduceMul, Nat.reduceLeDiff, Nat.reduceSub, Nat.reduceLT, Int.reduceEq, Int.reduceLT, Int.reduceLE, Int.reduceGT, Int.reduceGE, Int.reduceAdd, Int.reduceSub, Int.reduceMul, Int.reduceNeg, Int.reduceToNat, reduceCtorEq, reduceIte, h1]
theorem s88 (lo hi m : Int) (st : Bool) : Iso E 20 [.agg [I lo, I hi], I m] st = some (Bo (spanOk ⟨lo, hi⟩ m)) := by
  refine Iso_of (es _ _ _ _) e20 ?_
  simp only [f20, spanOk]
  simp (disch := first | assumption | omega | (simp only [az]; done)) only [ru, eq_self, if_true, if_false, BEq.rfl, binI, AO.row?, splice, fillL, mmAll, loadV, storeV, zeros, Am.rowAt, Am.part, addOff, Nat.reduceAdd, Nat.reduceMul, Nat.reduceLeDiff, Nat.reduceSub, Nat.reduceLT, Int.reduceEq, Int.reduceLT, Int.reduceLE, Int.reduceGT, Int.reduceGE, Int.reduceAdd, Int.reduceSub, Int.reduceMul, Int.reduceNeg, Int.reduceToNat, reduceCtorEq, reduceIte, s71]
  cases h1 : inR hi 0 m
  · simp (disch := first | assumption | omega | (simp only [az]; done)) only [ru, eq_self, if_true, if_false, BEq.rfl, binI, AO.row?, splice, fillL, mmAll, loadV, storeV, zeros, Am.rowAt, Am.part, addOff, Nat.reduceAdd, Nat.reduceMul, Nat.reduceLeDiff, Nat.reduceSub, Nat.reduceLT, Int.reduceEq, Int.reduceLT, Int.reduceLE, Int.reduceGT, Int.reduceGE, Int.reduceAdd, Int.reduceSub, Int.reduceMul, Int.reduceNeg, Int.reduceToNat, reduceCtorEq, reduceIte, h1]
  · simp (disch := first | assumption | omega | (simp only [az]; done)) only [ru, eq_self, if_true, if_false, BEq.rfl, binI, AO.row?, splice, fillL, mmAll, loadV, storeV, zeros, Am.rowAt, Am.part, addOff, Nat.reduceAdd, Nat.reduceMul, Nat.reduceLeDiff, Nat.reduceSub, Nat.reduceLT, Int.reduceEq, Int.reduceLT, Int.reduceLE, Int.reduceGT, Int.reduceGE, Int.reduceAdd, Int.reduceSub, Int.reduceMul, Int.reduceNeg, Int.reduceToNat, reduceCtorEq, reduceIte, h1, s71]
theorem s116 (lo hi m : Int) (st : Bool) : Iso E 73 [.agg [I lo, I hi], I m] st = some (Bo (spanOk ⟨lo, hi⟩ m)) := by
  have e : spanOk ⟨lo, hi⟩ m = (decide (0 ≤ lo) && decide (lo ≤ hi) && decide (hi ≤ m)) := by
    rw [Bool.eq_iff_iff, spanOk_iff]; simp only [Bool.and_eq_true, decide_eq_true_eq]; omega
  rw [e]
  refine Iso_of (es _ _ _ _) e73 ?_
  simp only [f73]
  simp (disch := first | assumption | omega | (simp only [az]; done)) only [ru, eq_self, if_true, if_false, BEq.rfl, binI, AO.row?, splice, fillL, mmAll, loadV, storeV, zeros, Am.rowAt, Am.part, addOff, Nat.reduceAdd, Nat.reduceMul, Nat.reduceLeDiff, Nat.reduceSub, Nat.reduceLT, Int.reduceEq, Int.reduceLT, Int.reduceLE, Int.reduceGT, Int.reduceGE, Int.reduceAdd, Int.reduceSub, Int.reduceMul, Int.reduceNeg, Int.reduceToNat, reduceCtorEq, reduceIte]
  by_cases h1 : 0 ≤ lo <;> by_cases h2 : lo ≤ hi <;> simp (disch := first | assumption | omega | (simp only [az]; done)) only [ru, eq_self, if_true, if_false, BEq.rfl, binI, AO.row?, splice, fillL, mmAll, loadV, storeV, zeros, Am.rowAt, Am.part, addOff, Nat.reduceAdd, Nat.reduceMul, Nat.reduceLeDiff, Nat.reduceSub, Nat.reduceLT, Int.reduceEq, Int.reduceLT, Int.reduceLE, Int.reduceGT, Int.reduceGE, Int.reduceAdd, Int.reduceSub, Int.reduceMul, Int.reduceNeg, Int.reduceToNat, reduceCtorEq, reduceIte, h1, h2]
section
variable {s : Sea} {p b : AV}
theorem s47 (H : SeaOk s p b) (i : Int) (st : Bool) : Iso E 33 [seaV s p b, I i] st = some (Bo (inR i 0 (s.bo.length - 1))) := by
  have := H.sb
  refine Iso_of (es _ _ _ _) e33 ?_
  simp only [f33, seaV]
  simp (disch := first | assumption | omega | (simp only [az]; done)) only [ru, eq_self, if_true, if_false, BEq.rfl, binI, AO.row?, splice, fillL, mmAll, loadV, storeV, zeros, Am.rowAt, Am.part, addOff, Nat.reduceAdd, Nat.reduceMul, Nat.reduceLeDiff, Nat.reduceSub, Nat.reduceLT, Int.reduceEq, Int.reduceLT, Int.reduceLE, Int.reduceGT, Int.reduceGE, Int.reduceAdd, Int.reduceSub, Int.reduceMul, Int.reduceNeg, Int.reduceToNat, reduceCtorEq, reduceIte, s71, lenV_sl H.p, lenV_sl H.b, elem_sp H.p, elem_bt H.b, view_sl H.p, view_sl H.b, scalar_sl H.p, scalar_sl H.b, cells_sl H.p, cells_sl H.b, pure_sl H.p, pure_sl H.b, Int.toNat_natCast]
end

theorem all_upto_succ {α : Type} [Inhabited α] {l : List α} {p : α → Bool} {i : Nat} (hi : i < l.length) {x : α} (hx : l.getD i default = x) (h : (l.take i).all p = true) (hp : p x = true) : (l.take (i + 1)).all p = true := by
  subst hx
  rw [List.take_succ_eq_append_getElem hi, List.all_append, h]
  simpa [List.getD_eq_getElem?_getD, hi] using hp
theorem all_not {α : Type} [Inhabited α] {l : List α} {p : α → Bool} {i : Nat} (hi : i < l.length) {x : α} (hx : l.getD i default = x) (hp : p x = false) : l.all p = false := by
  subst hx
  rw [List.all_eq_false]
  exact ⟨l[i], List.getElem_mem hi, by simpa [List.getD_eq_getElem?_getD, hi] using hp⟩
theorem range_all_succ {p : Nat → Bool} {i : Nat} (h : (List.range i).all p = true) (hp : p i = true) : (List.range (i + 1)).all p = true := by
  rw [List.range_succ, List.all_append, h]; simpa using hp
theorem range_not {p : Nat → Bool} {i N : Nat} (hi : i < N) (hp : p i = false) : (List.range N).all p = false := by
  rw [List.all_eq_false]; exact ⟨i, List.mem_range.2 hi, by simp [hp]⟩

def btOk (x : Bt) : Bool := inR x.c 0 999 && inR x.p 0 99
def Sea.valid (s : Sea) : Bool := spanOk s.w 2000 && decide (s.pl.length ≤ 4) && decide (s.bo.length ≤ 6) && s.pl.all (spanOk · 12) && s.bo.all btOk && decide (slo s.pl ≤ 12) && decide (12 ≤ shi s.pl)
theorem valid_good {s : Sea} (h : s.valid = true) : SeaG s ∧ ∀ x ∈ s.bo, x.c ≤ 999 := by
  simp only [Sea.valid, Bool.and_eq_true, decide_eq_true_eq, List.all_eq_true, spanOk_iff, btOk, inR_iff] at h
  obtain ⟨⟨⟨⟨⟨⟨h1, h2⟩, h3⟩, h4⟩, h5⟩, h6⟩, h7⟩ := h
  exact ⟨⟨⟨h2, h4, h6, h7⟩, h1.1, h1.2.1, h1.2.2, h3, fun x hx => by have := h5 x hx; omega⟩, fun x hx => (h5 x hx).1.2⟩
theorem good_valid {s : Sea} (H : SeaG s) (hc : ∀ x ∈ s.bo, x.c ≤ 999) : s.valid = true := by
  simp only [Sea.valid, Bool.and_eq_true, decide_eq_true_eq, List.all_eq_true, spanOk_iff, btOk, inR_iff]
  exact ⟨⟨⟨⟨⟨⟨⟨H.w0, H.w1, H.w2⟩, H.sp.le⟩, H.nb⟩, H.sp.s⟩, fun x hx => by have := H.b x hx; have := hc x hx; omega⟩, H.sp.lo⟩, H.sp.hi⟩
theorem slo_take {L : List Spn} {i : Nat} (hi : i < L.length) : slo (L.take (i + 1)) = slo (L.take i) + (L.getD i default).lo ∧ shi (L.take (i + 1)) = shi (L.take i) + (L.getD i default).hi := by
  rw [List.take_succ_eq_append_getElem hi, slo_app.1, slo_app.2]
  simp [slo, shi, sm, List.getD_eq_getElem?_getD, hi]
/-- sums of numbers from 0 to 12 -/
theorem sum_bound {L : List Spn} : ∀ {i : Nat}, (L.take i).all (spanOk · 12) = true → i ≤ L.length → 0 ≤ slo (L.take i) ∧ slo (L.take i) ≤ 12 * i ∧ 0 ≤ shi (L.take i) ∧ shi (L.take i) ≤ 12 * i
  | 0, _, _ => by simp [slo, shi, sm]
  | i + 1, h, hi => by
    have hi' : i < L.length := by omega
    rw [List.take_succ_eq_append_getElem hi', List.all_append, Bool.and_eq_true] at h
    have ih := sum_bound h.1 (by omega)
    have h2 := h.2
    simp only [List.all_cons, List.all_nil, Bool.and_true, spanOk_iff] at h2
    obtain ⟨e1, e2⟩ := slo_take hi'
    rw [e1, e2]
    simp only [List.getD_eq_getElem?_getD, List.getElem?_eq_getElem hi', Option.getD_some]
    omega
/-- the errors -/
def vE (v : Bool) : Int := if v then 0 else 50
end Go.Proofs.Ytokhneffambgmaa.A

/-
Check on both sides; sums; are these the parts of a truth?
-/
namespace Go.Proofs.Ytokhneffambgmaa.A
open Go Go.Am Go.Proofs.Ytokhneffambgmaa.T
set_option maxRecDepth 100000
set_option linter.unusedSimpArgs false
set_option linter.unusedVariables false

section
variable {s : Sea} {p b : AV}

set_option maxHeartbeats 1000000 in
theorem s53 (H : SeaOk s p b) (st : Bool) : Iso E 6 [seaV s p b] st = some (I (vE s.valid)) := by
  have sp := H.sp; have sb := H.sb
  refine Iso_of (es _ _ _ _) e6 ?_
  simp only [f6, seaV]
  by_cases h1 : spanOk s.w 2000 = true
  case neg =>
    have e : spanOk ⟨s.w.lo, s.w.hi⟩ 2000 = false := by simpa using h1
    have ev : s.valid = false := by simp [Sea.valid, h1]
    simp (disch := first | assumption | omega | (simp only [az]; done)) only [ru, eq_self, if_true, if_false, BEq.rfl, binI, AO.row?, splice, fillL, mmAll, loadV, storeV, zeros, Am.rowAt, Am.part, addOff, Nat.reduceAdd, Nat.reduceMul, Nat.reduceLeDiff, Nat.reduceSub, Nat.reduceLT, Int.reduceEq, Int.reduceLT, Int.reduceLE, Int.reduceGT, Int.reduceGE, Int.reduceAdd, Int.reduceSub, Int.reduceMul, Int.reduceNeg, Int.reduceToNat, reduceCtorEq, reduceIte, lenV_sl H.p, lenV_sl H.b, elem_sp H.p, elem_bt H.b, view_sl H.p, view_sl H.b, scalar_sl H.p, scalar_sl H.b, cells_sl H.p, cells_sl H.b, pure_sl H.p, pure_sl H.b, Int.toNat_natCast, s88, e, ev, vE, gUn]
  have e1 : spanOk ⟨s.w.lo, s.w.hi⟩ 2000 = true := h1
  by_cases h2 : s.pl.length ≤ 4
  case neg =>
    have e : (s.pl.length : Int) > 4 := by omega
    have ev : s.valid = false := by simp [Sea.valid, h2]
    simp (disch := first | assumption | omega | (simp only [az]; done)) only [ru, eq_self, if_true, if_false, BEq.rfl, binI, AO.row?, splice, fillL, mmAll, loadV, storeV, zeros, Am.rowAt, Am.part, addOff, Nat.reduceAdd, Nat.reduceMul, Nat.reduceLeDiff, Nat.reduceSub, Nat.reduceLT, Int.reduceEq, Int.reduceLT, Int.reduceLE, Int.reduceGT, Int.reduceGE, Int.reduceAdd, Int.reduceSub, Int.reduceMul, Int.reduceNeg, Int.reduceToNat, reduceCtorEq, reduceIte, lenV_sl H.p, lenV_sl H.b, elem_sp H.p, elem_bt H.b, view_sl H.p, view_sl H.b, scalar_sl H.p, scalar_sl H.b, cells_sl H.p, cells_sl H.b, pure_sl H.p, pure_sl H.b, Int.toNat_natCast, s88, e1, e, ev, vE, gUn]
  have e2 : ¬ (s.pl.length : Int) > 4 := by omega
  by_cases h3 : s.bo.length ≤ 6
  case neg =>
    have e : (s.bo.length : Int) > 6 := by omega
    have ev : s.valid = false := by simp [Sea.valid, h3]
    simp (disch := first | assumption | omega | (simp only [az]; done)) only [ru, eq_self, if_true, if_false, BEq.rfl, binI, AO.row?, splice, fillL, mmAll, loadV, storeV, zeros, Am.rowAt, Am.part, addOff, Nat.reduceAdd, Nat.reduceMul, Nat.reduceLeDiff, Nat.reduceSub, Nat.reduceLT, Int.reduceEq, Int.reduceLT, Int.reduceLE, Int.reduceGT, Int.reduceGE, Int.reduceAdd, Int.reduceSub, Int.reduceMul, Int.reduceNeg, Int.reduceToNat, reduceCtorEq, reduceIte, lenV_sl H.p, lenV_sl H.b, elem_sp H.p, elem_bt H.b, view_sl H.p, view_sl H.b, scalar_sl H.p, scalar_sl H.b, cells_sl H.p, cells_sl H.b, pure_sl H.p, pure_sl H.b, Int.toNat_natCast, s88, e1, e2, e, ev, vE, gUn]
  have e3 : ¬ (s.bo.length : Int) > 6 := by omega
  simp (disch := first | assumption | omega | (simp only [az]; done)) only [ru, eq_self, if_true, if_false, BEq.rfl, binI, AO.row?, splice, fillL, mmAll, loadV, storeV, zeros, Am.rowAt, Am.part, addOff, Nat.reduceAdd, Nat.reduceMul, Nat.reduceLeDiff, Nat.reduceSub, Nat.reduceLT, Int.reduceEq, Int.reduceLT, Int.reduceLE, Int.reduceGT, Int.reduceGE, Int.reduceAdd, Int.reduceSub, Int.reduceMul, Int.reduceNeg, Int.reduceToNat, reduceCtorEq, reduceIte, lenV_sl H.p, lenV_sl H.b, elem_sp H.p, elem_bt H.b, view_sl H.p, view_sl H.b, scalar_sl H.p, scalar_sl H.b, cells_sl H.p, cells_sl H.b, pure_sl H.p, pure_sl H.b, Int.toNat_natCast, s88, e1, e2, e3, gUn]
  refine G_loop_ind (fun m ts h mk => ∃ i : Nat, i ≤ s.pl.length ∧ m = s.pl.length - i ∧ (s.pl.take i).all (spanOk · 12) = true ∧ ts.length = 82 ∧ ts.getD 1 .undef = .ptr 0 0 ∧ ts.getD 3 .undef = I (slo (s.pl.take i)) ∧ ts.getD 4 .undef = I (shi (s.pl.take i)) ∧
    ts.getD 5 .undef = I i ∧ h = [.cells [I s.w.lo, I s.w.hi, p, b] false] ∧ mk = []) ?_ _ _ _ _ ⟨0, Nat.zero_le _, rfl, rfl, rfl, rfl, rfl, rfl, rfl, rfl, rfl⟩
  rintro m ts h mk ih ⟨i, hi, rfl, hall, hl, q1, q3, q4, q5, rfl, rfl⟩
  rw [lit_all hl]
  simp only [lit0, litS, Nat.reduceAdd, q1, q3, q4, q5]
  simp (disch := first | assumption | omega | (simp only [az]; done)) only [ru, eq_self, if_true, if_false, BEq.rfl, binI, AO.row?, splice, fillL, mmAll, loadV, storeV, zeros, Am.rowAt, Am.part, addOff, Nat.reduceAdd, Nat.reduceMul, Nat.reduceLeDiff, Nat.reduceSub, Nat.reduceLT, Int.reduceEq, Int.reduceLT, Int.reduceLE, Int.reduceGT, Int.reduceGE, Int.reduceAdd, Int.reduceSub, Int.reduceMul, Int.reduceNeg, Int.reduceToNat, reduceCtorEq, reduceIte, lenV_sl H.p, lenV_sl H.b, elem_sp H.p, elem_bt H.b, view_sl H.p, view_sl H.b, scalar_sl H.p, scalar_sl H.b, cells_sl H.p, cells_sl H.b, pure_sl H.p, pure_sl H.b, Int.toNat_natCast]
  by_cases hlt : (i : Int) < s.pl.length
  case pos =>
    have hi' : i < s.pl.length := by omega
    obtain ⟨b1, b2, b3, b4⟩ := sum_bound hall hi
    obtain ⟨t1, t2⟩ := slo_take hi'
    obtain ⟨x, hx⟩ : ∃ x, x = s.pl.getD i default := ⟨_, rfl⟩
    cases hc : spanOk x 12
    · have ev : s.valid = false := by
        have := all_not (l := s.pl) (p := (spanOk · 12)) hi' hx.symm hc
        simp [Sea.valid, this]
      have hc' : spanOk ⟨x.lo, x.hi⟩ 12 = false := hc
      simp (disch := first | assumption | omega | (simp only [az]; done)) only [ru, eq_self, if_true, if_false, BEq.rfl, binI, AO.row?, splice, fillL, mmAll, loadV, storeV, zeros, Am.rowAt, Am.part, addOff, Nat.reduceAdd, Nat.reduceMul, Nat.reduceLeDiff, Nat.reduceSub, Nat.reduceLT, Int.reduceEq, Int.reduceLT, Int.reduceLE, Int.reduceGT, Int.reduceGE, Int.reduceAdd, Int.reduceSub, Int.reduceMul, Int.reduceNeg, Int.reduceToNat, reduceCtorEq, reduceIte, lenV_sl H.p, lenV_sl H.b, elem_sp H.p, elem_bt H.b, view_sl H.p, view_sl H.b, scalar_sl H.p, scalar_sl H.b, cells_sl H.p, cells_sl H.b, pure_sl H.p, pure_sl H.b, Int.toNat_natCast, hlt, ← hx, s88, hc', ev, vE]
    · have hc' : spanOk ⟨x.lo, x.hi⟩ 12 = true := hc
      have hb := spanOk_iff.1 hc
      rw [← hx] at t1 t2
      have hi4 : (i : Int) ≤ 4 := by omega
      simp (disch := first | assumption | omega | (simp only [az]; done)) only [ru, eq_self, if_true, if_false, BEq.rfl, binI, AO.row?, splice, fillL, mmAll, loadV, storeV, zeros, Am.rowAt, Am.part, addOff, Nat.reduceAdd, Nat.reduceMul, Nat.reduceLeDiff, Nat.reduceSub, Nat.reduceLT, Int.reduceEq, Int.reduceLT, Int.reduceLE, Int.reduceGT, Int.reduceGE, Int.reduceAdd, Int.reduceSub, Int.reduceMul, Int.reduceNeg, Int.reduceToNat, reduceCtorEq, reduceIte, lenV_sl H.p, lenV_sl H.b, elem_sp H.p, elem_bt H.b, view_sl H.p, view_sl H.b, scalar_sl H.p, scalar_sl H.b, cells_sl H.p, cells_sl H.b, pure_sl H.p, pure_sl H.b, Int.toNat_natCast, hlt, ← hx, s88, hc']
      exact ih (s.pl.length - (i + 1)) _ _ _ (by omega) ⟨i + 1, by omega, rfl, all_upto_succ hi' hx.symm hall hc, rfl, rfl, by rw [t1]; rfl, by rw [t2]; rfl, rfl, rfl, rfl⟩
  obtain rfl : i = s.pl.length := by omega
  obtain ⟨b1, b2, b3, b4⟩ := sum_bound hall hi
  rw [List.take_length] at hall q3 q4 b1 b2 b3 b4
  obtain ⟨lo, hlo⟩ : ∃ lo, lo = slo s.pl := ⟨_, rfl⟩
  obtain ⟨hh, hhi⟩ : ∃ hh, hh = shi s.pl := ⟨_, rfl⟩
  rw [← hlo] at q3 b1 b2
  rw [← hhi] at q4 b3 b4
  simp (disch := first | assumption | omega | (simp only [az]; done)) only [ru, eq_self, if_true, if_false, BEq.rfl, binI, AO.row?, splice, fillL, mmAll, loadV, storeV, zeros, Am.rowAt, Am.part, addOff, Nat.reduceAdd, Nat.reduceMul, Nat.reduceLeDiff, Nat.reduceSub, Nat.reduceLT, Int.reduceEq, Int.reduceLT, Int.reduceLE, Int.reduceGT, Int.reduceGE, Int.reduceAdd, Int.reduceSub, Int.reduceMul, Int.reduceNeg, Int.reduceToNat, reduceCtorEq, reduceIte, hlt, List.take_length, ← hlo, ← hhi]
  clear ih hl q1 q3 q4 q5
  refine G_loop_ind (fun m ts h mk => ∃ (i : Nat) (J : List AO), i ≤ s.bo.length ∧ m = s.bo.length - i ∧ (s.bo.take i).all btOk = true ∧ ts.length = 82 ∧ ts.getD 1 .undef = .ptr 0 0 ∧ ts.getD 3 .undef = I lo ∧ ts.getD 4 .undef = I hh ∧
    ts.getD 6 .undef = I i ∧ h = .cells [I s.w.lo, I s.w.hi, p, b] false :: J ∧ mk = []) ?_ _ _ _ _ ⟨0, [], Nat.zero_le _, rfl, rfl, rfl, rfl, rfl, rfl, rfl, rfl, rfl⟩
  rintro m ts h mk ih ⟨i, J, hi, rfl, hall2, hl, q1, q3, q4, q6, rfl, rfl⟩
  rw [lit_all hl]
  simp only [lit0, litS, Nat.reduceAdd, q1, q3, q4, q6]
  simp (disch := first | assumption | omega | (simp only [az]; done)) only [ru, eq_self, if_true, if_false, BEq.rfl, binI, AO.row?, splice, fillL, mmAll, loadV, storeV, zeros, Am.rowAt, Am.part, addOff, Nat.reduceAdd, Nat.reduceMul, Nat.reduceLeDiff, Nat.reduceSub, Nat.reduceLT, Int.reduceEq, Int.reduceLT, Int.reduceLE, Int.reduceGT, Int.reduceGE, Int.reduceAdd, Int.reduceSub, Int.reduceMul, Int.reduceNeg, Int.reduceToNat, reduceCtorEq, reduceIte, lenV_sl H.p, lenV_sl H.b, elem_sp H.p, elem_bt H.b, view_sl H.p, view_sl H.b, scalar_sl H.p, scalar_sl H.b, cells_sl H.p, cells_sl H.b, pure_sl H.p, pure_sl H.b, Int.toNat_natCast]
  by_cases hlt2 : (i : Int) < s.bo.length
  case pos =>
    have hi' : i < s.bo.length := by omega
    obtain ⟨x, hx⟩ : ∃ x, x = s.bo.getD i default := ⟨_, rfl⟩
    obtain ⟨G, hG⟩ : ∃ G : List AO, G = .cells [I s.w.lo, I s.w.hi, p, b] false :: J := ⟨_, rfl⟩
    have g0 : G[0]? = some (.cells [I s.w.lo, I s.w.hi, p, b] false) := by rw [hG]; rfl
    rw [← hG]
    cases hc : btOk x
    · have ev : s.valid = false := by
        have := all_not (l := s.bo) (p := btOk) hi' hx.symm hc
        simp [Sea.valid, this]
      simp only [btOk] at hc
      cases hc1 : inR x.c 0 999
      · simp (disch := first | assumption | omega | (simp only [az]; done)) only [ru, eq_self, if_true, if_false, BEq.rfl, binI, AO.row?, splice, fillL, mmAll, loadV, storeV, zeros, Am.rowAt, Am.part, addOff, Nat.reduceAdd, Nat.reduceMul, Nat.reduceLeDiff, Nat.reduceSub, Nat.reduceLT, Int.reduceEq, Int.reduceLT, Int.reduceLE, Int.reduceGT, Int.reduceGE, Int.reduceAdd, Int.reduceSub, Int.reduceMul, Int.reduceNeg, Int.reduceToNat, reduceCtorEq, reduceIte, lenV_sl H.p, lenV_sl H.b, elem_sp H.p, elem_bt H.b, view_sl H.p, view_sl H.b, scalar_sl H.p, scalar_sl H.b, cells_sl H.p, cells_sl H.b, pure_sl H.p, pure_sl H.b, Int.toNat_natCast, hlt2, g0, ← hx, s71, hc1, ev, vE, gUn, atE, setE]
      · rw [hc1, Bool.true_and] at hc
        simp (disch := first | assumption | omega | (simp only [az]; done)) only [ru, eq_self, if_true, if_false, BEq.rfl, binI, AO.row?, splice, fillL, mmAll, loadV, storeV, zeros, Am.rowAt, Am.part, addOff, Nat.reduceAdd, Nat.reduceMul, Nat.reduceLeDiff, Nat.reduceSub, Nat.reduceLT, Int.reduceEq, Int.reduceLT, Int.reduceLE, Int.reduceGT, Int.reduceGE, Int.reduceAdd, Int.reduceSub, Int.reduceMul, Int.reduceNeg, Int.reduceToNat, reduceCtorEq, reduceIte, lenV_sl H.p, lenV_sl H.b, elem_sp H.p, elem_bt H.b, view_sl H.p, view_sl H.b, scalar_sl H.p, scalar_sl H.b, cells_sl H.p, cells_sl H.b, pure_sl H.p, pure_sl H.b, Int.toNat_natCast, hlt2, g0, ← hx, s71, hc1, hc, ev, vE, gUn, atE, setE]
    · have hc2 := hc
      simp only [btOk, Bool.and_eq_true] at hc2
      simp (disch := first | assumption | omega | (simp only [az]; done)) only [ru, eq_self, if_true, if_false, BEq.rfl, binI, AO.row?, splice, fillL, mmAll, loadV, storeV, zeros, Am.rowAt, Am.part, addOff, Nat.reduceAdd, Nat.reduceMul, Nat.reduceLeDiff, Nat.reduceSub, Nat.reduceLT, Int.reduceEq, Int.reduceLT, Int.reduceLE, Int.reduceGT, Int.reduceGE, Int.reduceAdd, Int.reduceSub, Int.reduceMul, Int.reduceNeg, Int.reduceToNat, reduceCtorEq, reduceIte, lenV_sl H.p, lenV_sl H.b, elem_sp H.p, elem_bt H.b, view_sl H.p, view_sl H.b, scalar_sl H.p, scalar_sl H.b, cells_sl H.p, cells_sl H.b, pure_sl H.p, pure_sl H.b, Int.toNat_natCast, hlt2, g0, ← hx, s71, hc2.1, hc2.2, gUn, atE, setE]
      exact ih (s.bo.length - (i + 1)) _ _ _ (by omega) ⟨i + 1, J ++ [.cells [I x.c, I x.p] false], by omega, rfl, all_upto_succ hi' hx.symm hall2 hc, rfl, rfl, rfl, rfl, rfl, by rw [hG]; rfl, rfl⟩
  obtain rfl : i = s.bo.length := by omega
  rw [List.take_length] at hall2
  have ev : s.valid = (decide (slo s.pl ≤ 12) && decide (12 ≤ shi s.pl)) := by
    simp [Sea.valid, h1, h2, h3, hall, hall2]
  rw [← hlo, ← hhi] at ev
  by_cases c1 : lo > 12
  · have : ¬ lo ≤ 12 := by omega
    simp (disch := first | assumption | omega | (simp only [az]; done)) only [ru, eq_self, if_true, if_false, BEq.rfl, binI, AO.row?, splice, fillL, mmAll, loadV, storeV, zeros, Am.rowAt, Am.part, addOff, Nat.reduceAdd, Nat.reduceMul, Nat.reduceLeDiff, Nat.reduceSub, Nat.reduceLT, Int.reduceEq, Int.reduceLT, Int.reduceLE, Int.reduceGT, Int.reduceGE, Int.reduceAdd, Int.reduceSub, Int.reduceMul, Int.reduceNeg, Int.reduceToNat, reduceCtorEq, reduceIte, hlt2, c1, ev, this, vE, gUn, decide_false, Bool.false_and]
  · have n1 : lo ≤ 12 := by omega
    by_cases c2 : hh < 12
    · have : ¬ 12 ≤ hh := by omega
      simp (disch := first | assumption | omega | (simp only [az]; done)) only [ru, eq_self, if_true, if_false, BEq.rfl, binI, AO.row?, splice, fillL, mmAll, loadV, storeV, zeros, Am.rowAt, Am.part, addOff, Nat.reduceAdd, Nat.reduceMul, Nat.reduceLeDiff, Nat.reduceSub, Nat.reduceLT, Int.reduceEq, Int.reduceLT, Int.reduceLE, Int.reduceGT, Int.reduceGE, Int.reduceAdd, Int.reduceSub, Int.reduceMul, Int.reduceNeg, Int.reduceToNat, reduceCtorEq, reduceIte, hlt2, c1, c2, ev, n1, this, vE, decide_false, decide_true, Bool.true_and]
    · have : 12 ≤ hh := by omega
      simp (disch := first | assumption | omega | (simp only [az]; done)) only [ru, eq_self, if_true, if_false, BEq.rfl, binI, AO.row?, splice, fillL, mmAll, loadV, storeV, zeros, Am.rowAt, Am.part, addOff, Nat.reduceAdd, Nat.reduceMul, Nat.reduceLeDiff, Nat.reduceSub, Nat.reduceLT, Int.reduceEq, Int.reduceLT, Int.reduceLE, Int.reduceGT, Int.reduceGE, Int.reduceAdd, Int.reduceSub, Int.reduceMul, Int.reduceNeg, Int.reduceToNat, reduceCtorEq, reduceIte, hlt2, c1, c2, ev, n1, this, vE, decide_true, Bool.true_and]

/-! the program's -/
theorem s115 (x : Spn) (h : List AO) : Ro E 72 [.agg [I x.lo, I x.hi]] h = some (Bo (spanOk x 12)) := by
  refine Ro_of (es _ _ _ _) e72 ?_
  simp only [f72]
  simp (disch := first | assumption | omega | (simp only [az]; done)) only [ru, eq_self, if_true, if_false, BEq.rfl, binI, AO.row?, splice, fillL, mmAll, loadV, storeV, zeros, Am.rowAt, Am.part, addOff, Nat.reduceAdd, Nat.reduceMul, Nat.reduceLeDiff, Nat.reduceSub, Nat.reduceLT, Int.reduceEq, Int.reduceLT, Int.reduceLE, Int.reduceGT, Int.reduceGE, Int.reduceAdd, Int.reduceSub, Int.reduceMul, Int.reduceNeg, Int.reduceToNat, reduceCtorEq, reduceIte, s116, atE, lenE]
  rfl
theorem s117 (x : Bt) (h : List AO) : Ro E 74 [.agg [I x.c, I x.p]] h = some (Bo (btOk x)) := by
  refine Ro_of (es _ _ _ _) e74 ?_
  simp only [f74, btOk]
  cases hc : inR x.c 0 999 <;> simp (disch := first | assumption | omega | (simp only [az]; done)) only [ru, eq_self, if_true, if_false, BEq.rfl, binI, AO.row?, splice, fillL, mmAll, loadV, storeV, zeros, Am.rowAt, Am.part, addOff, Nat.reduceAdd, Nat.reduceMul, Nat.reduceLeDiff, Nat.reduceSub, Nat.reduceLT, Int.reduceEq, Int.reduceLT, Int.reduceLE, Int.reduceGT, Int.reduceGE, Int.reduceAdd, Int.reduceSub, Int.reduceMul, Int.reduceNeg, Int.reduceToNat, reduceCtorEq, reduceIte, s118, atE, lenE, hc, gUn] <;> rfl
theorem s126 (x : Spn) {o : Nat} {h : List AO} (ho : h[o]? = some (.cells [.fn 72 [] []] false)) : Ro E 83 [.agg [I x.lo, I x.hi], .ptr o 0] h = some (Bo (!spanOk x 12)) := by
  have ol := (List.getElem?_eq_some_iff.1 ho).1
  refine Ro_of (es _ _ _ _) e83 ?_
  simp only [f83]
  have e : (h ++ [AO.cells [I x.lo, I x.hi] false])[o]? = some (.cells [.fn 72 [] []] false) := by rw [List.getElem?_append_left ol]; exact ho
  have := s115 x (h ++ [AO.cells [I x.lo, I x.hi] false])
  simp (disch := first | assumption | omega | (simp only [az]; done)) only [ru, eq_self, if_true, if_false, BEq.rfl, binI, AO.row?, splice, fillL, mmAll, loadV, storeV, zeros, Am.rowAt, Am.part, addOff, Nat.reduceAdd, Nat.reduceMul, Nat.reduceLeDiff, Nat.reduceSub, Nat.reduceLT, Int.reduceEq, Int.reduceLT, Int.reduceLE, Int.reduceGT, Int.reduceGE, Int.reduceAdd, Int.reduceSub, Int.reduceMul, Int.reduceNeg, Int.reduceToNat, reduceCtorEq, reduceIte, atE, lenE, e, exOp_callv1, this]
  rfl
theorem s128 (x : Bt) {o : Nat} {h : List AO} (ho : h[o]? = some (.cells [.fn 74 [] []] false)) : Ro E 85 [.agg [I x.c, I x.p], .ptr o 0] h = some (Bo (!btOk x)) := by
  have ol := (List.getElem?_eq_some_iff.1 ho).1
  refine Ro_of (es _ _ _ _) e85 ?_
  simp only [f85]
  have e : (h ++ [AO.cells [I x.c, I x.p] false])[o]? = some (.cells [.fn 74 [] []] false) := by rw [List.getElem?_append_left ol]; exact ho
  have := s117 x (h ++ [AO.cells [I x.c, I x.p] false])
  simp (disch := first | assumption | omega | (simp only [az]; done)) only [ru, eq_self, if_true, if_false, BEq.rfl, binI, AO.row?, splice, fillL, mmAll, loadV, storeV, zeros, Am.rowAt, Am.part, addOff, Nat.reduceAdd, Nat.reduceMul, Nat.reduceLeDiff, Nat.reduceSub, Nat.reduceLT, Int.reduceEq, Int.reduceLT, Int.reduceLE, Int.reduceGT, Int.reduceGE, Int.reduceAdd, Int.reduceSub, Int.reduceMul, Int.reduceNeg, Int.reduceToNat, reduceCtorEq, reduceIte, atE, lenE, e, exOp_callv1, this]
  rfl
end
end Go.Proofs.Ytokhneffambgmaa.A

/-
The program's Check; the errors of those who ask.
-/
namespace Go.Proofs.Ytokhneffambgmaa.A
open Go Go.Am Go.Proofs.Ytokhneffambgmaa.T
set_option maxRecDepth 100000
set_option linter.unusedSimpArgs false
set_option linter.unusedVariables false

section
theorem Ro_ex {E : Env} {f : Nat} {fn : AFn} {vs : List AV} {h : List AO} (P : AV → Prop) (hu : ∀ v, P v → v.under h.length = true) (hs : E.spec f vs h h.length = none) (hf : E.fn f = some fn)
    (hg : G ⟨E, h.length, none, f, Done h.length fn.results fun r h' => P r⟩ fn.body [] (vs ++ List.replicate (fn.ntmps - vs.length) .undef) h []) : ∃ v, Ro E f vs h = some v ∧ P v := by
  obtain ⟨r, h', h1, h2⟩ := R_of (fun r _ => P r) hs hf hg
  exact ⟨r, by simp only [Ro, h1, hu r h2, if_true], h2⟩

set_option maxHeartbeats 1000000 in
theorem s131 {L : List Spn} {v : AV} (H : IsSl 2 Spn.e L v) (hl : L.length ≤ 41) {o : Nat} {h : List AO} (ho : h[o]? = some (.cells [.fn 72 [] []] false)) :
    ∃ k : Int, Ro E 87 [v, .fn 83 [] [.ptr o 0]] h = some (I k) ∧ decide (k ≥ 0) = !L.all (spanOk · 12) := by
  refine (fun x => ?_ : (∃ w, Ro E 87 [v, .fn 83 [] [.ptr o 0]] h = some w ∧ ∃ k : Int, w = I k ∧ decide (k ≥ 0) = !L.all (spanOk · 12)) → _) (Ro_ex (fun r => ∃ k : Int, r = I k ∧ decide (k ≥ 0) = !L.all (spanOk · 12)) (by rintro _ ⟨k, rfl, _⟩; rfl) (es _ _ _ _) e87 ?_)
  · obtain ⟨w, hv, k, rfl, hk⟩ := x; exact ⟨k, hv, hk⟩
  simp only [f87]
  simp (disch := first | assumption | omega | (simp only [az]; done)) only [ru, eq_self, if_true, if_false, BEq.rfl, binI, AO.row?, splice, fillL, mmAll, loadV, storeV, zeros, Am.rowAt, Am.part, addOff, Nat.reduceAdd, Nat.reduceMul, Nat.reduceLeDiff, Nat.reduceSub, Nat.reduceLT, Int.reduceEq, Int.reduceLT, Int.reduceLE, Int.reduceGT, Int.reduceGE, Int.reduceAdd, Int.reduceSub, Int.reduceMul, Int.reduceNeg, Int.reduceToNat, reduceCtorEq, reduceIte, lenV_sl H]
  refine G_loop_ind (fun m ts hh mk => ∃ i : Nat, i ≤ L.length ∧ m = L.length - i ∧ (L.take i).all (spanOk · 12) = true ∧ ts.length = 19 ∧ ts.getD 0 .undef = v ∧ ts.getD 1 .undef = .fn 83 [] [.ptr o 0] ∧ ts.getD 7 .undef = I L.length ∧ ts.getD 8 .undef = I i ∧ hh = h ∧ mk = []) ?_ _ _ _ _
    ⟨0, Nat.zero_le _, rfl, rfl, rfl, rfl, rfl, rfl, rfl, rfl, rfl⟩
  rintro m ts hh mk ih ⟨i, hi, rfl, hall, hl', q0, q1, q7, q8, rfl, rfl⟩
  rw [lit_all hl']
  simp only [lit0, litS, Nat.reduceAdd, q0, q1, q7, q8]
  simp (disch := first | assumption | omega | (simp only [az]; done)) only [ru, eq_self, if_true, if_false, BEq.rfl, binI, AO.row?, splice, fillL, mmAll, loadV, storeV, zeros, Am.rowAt, Am.part, addOff, Nat.reduceAdd, Nat.reduceMul, Nat.reduceLeDiff, Nat.reduceSub, Nat.reduceLT, Int.reduceEq, Int.reduceLT, Int.reduceLE, Int.reduceGT, Int.reduceGE, Int.reduceAdd, Int.reduceSub, Int.reduceMul, Int.reduceNeg, Int.reduceToNat, reduceCtorEq, reduceIte]
  by_cases hlt : (i : Int) < L.length
  case pos =>
    have hi' : i < L.length := by omega
    obtain ⟨x, hx⟩ : ∃ x, x = L.getD i default := ⟨_, rfl⟩
    have hr := s126 x ho
    cases hc : spanOk x 12
    · have ev := all_not (l := L) (p := (spanOk · 12)) hi' hx.symm hc
      rw [hc] at hr
      simp (disch := first | assumption | omega | (simp only [az]; done)) only [ru, eq_self, if_true, if_false, BEq.rfl, binI, AO.row?, splice, fillL, mmAll, loadV, storeV, zeros, Am.rowAt, Am.part, addOff, Nat.reduceAdd, Nat.reduceMul, Nat.reduceLeDiff, Nat.reduceSub, Nat.reduceLT, Int.reduceEq, Int.reduceLT, Int.reduceLE, Int.reduceGT, Int.reduceGE, Int.reduceAdd, Int.reduceSub, Int.reduceMul, Int.reduceNeg, Int.reduceToNat, reduceCtorEq, reduceIte, hlt, elem_sp H, Int.toNat_natCast, ← hx, exOp_callv1, hr, Bool.not_false]
      exact ⟨i, rfl, by rw [ev]; simp⟩
    · rw [hc] at hr
      simp (disch := first | assumption | omega | (simp only [az]; done)) only [ru, eq_self, if_true, if_false, BEq.rfl, binI, AO.row?, splice, fillL, mmAll, loadV, storeV, zeros, Am.rowAt, Am.part, addOff, Nat.reduceAdd, Nat.reduceMul, Nat.reduceLeDiff, Nat.reduceSub, Nat.reduceLT, Int.reduceEq, Int.reduceLT, Int.reduceLE, Int.reduceGT, Int.reduceGE, Int.reduceAdd, Int.reduceSub, Int.reduceMul, Int.reduceNeg, Int.reduceToNat, reduceCtorEq, reduceIte, hlt, elem_sp H, Int.toNat_natCast, ← hx, exOp_callv1, hr, Bool.not_true]
      exact ih (L.length - (i + 1)) _ _ _ (by omega) ⟨i + 1, by omega, rfl, all_upto_succ hi' hx.symm hall hc, rfl, rfl, rfl, rfl, rfl, rfl, rfl⟩
  obtain rfl : i = L.length := by omega
  rw [List.take_length] at hall
  simp (disch := first | assumption | omega | (simp only [az]; done)) only [ru, eq_self, if_true, if_false, BEq.rfl, binI, AO.row?, splice, fillL, mmAll, loadV, storeV, zeros, Am.rowAt, Am.part, addOff, Nat.reduceAdd, Nat.reduceMul, Nat.reduceLeDiff, Nat.reduceSub, Nat.reduceLT, Int.reduceEq, Int.reduceLT, Int.reduceLE, Int.reduceGT, Int.reduceGE, Int.reduceAdd, Int.reduceSub, Int.reduceMul, Int.reduceNeg, Int.reduceToNat, reduceCtorEq, reduceIte, hlt]
  exact ⟨-1, rfl, by rw [hall]; decide⟩
set_option maxHeartbeats 1000000 in
theorem s132 {L : List Bt} {v : AV} (H : IsSl 2 Bt.e L v) (hl : L.length ≤ 41) {o : Nat} {h : List AO} (ho : h[o]? = some (.cells [.fn 74 [] []] false)) :
    ∃ k : Int, Ro E 88 [v, .fn 85 [] [.ptr o 0]] h = some (I k) ∧ decide (k ≥ 0) = !L.all btOk := by
  refine (fun x => ?_ : (∃ w, Ro E 88 [v, .fn 85 [] [.ptr o 0]] h = some w ∧ ∃ k : Int, w = I k ∧ decide (k ≥ 0) = !L.all btOk) → _) (Ro_ex (fun r => ∃ k : Int, r = I k ∧ decide (k ≥ 0) = !L.all btOk) (by rintro _ ⟨k, rfl, _⟩; rfl) (es _ _ _ _) e88 ?_)
  · obtain ⟨w, hv, k, rfl, hk⟩ := x; exact ⟨k, hv, hk⟩
  simp only [f88]
  simp (disch := first | assumption | omega | (simp only [az]; done)) only [ru, eq_self, if_true, if_false, BEq.rfl, binI, AO.row?, splice, fillL, mmAll, loadV, storeV, zeros, Am.rowAt, Am.part, addOff, Nat.reduceAdd, Nat.reduceMul, Nat.reduceLeDiff, Nat.reduceSub, Nat.reduceLT, Int.reduceEq, Int.reduceLT, Int.reduceLE, Int.reduceGT, Int.reduceGE, Int.reduceAdd, Int.reduceSub, Int.reduceMul, Int.reduceNeg, Int.reduceToNat, reduceCtorEq, reduceIte, lenV_sl H]
  refine G_loop_ind (fun m ts hh mk => ∃ i : Nat, i ≤ L.length ∧ m = L.length - i ∧ (L.take i).all btOk = true ∧ ts.length = 19 ∧ ts.getD 0 .undef = v ∧ ts.getD 1 .undef = .fn 85 [] [.ptr o 0] ∧ ts.getD 7 .undef = I L.length ∧ ts.getD 8 .undef = I i ∧ hh = h ∧ mk = []) ?_ _ _ _ _
    ⟨0, Nat.zero_le _, rfl, rfl, rfl, rfl, rfl, rfl, rfl, rfl, rfl⟩
  rintro m ts hh mk ih ⟨i, hi, rfl, hall, hl', q0, q1, q7, q8, rfl, rfl⟩
  rw [lit_all hl']
  simp only [lit0, litS, Nat.reduceAdd, q0, q1, q7, q8]
  simp (disch := first | assumption | omega | (simp only [az]; done)) only [ru, eq_self, if_true, if_false, BEq.rfl, binI, AO.row?, splice, fillL, mmAll, loadV, storeV, zeros, Am.rowAt, Am.part, addOff, Nat.reduceAdd, Nat.reduceMul, Nat.reduceLeDiff, Nat.reduceSub, Nat.reduceLT, Int.reduceEq, Int.reduceLT, Int.reduceLE, Int.reduceGT, Int.reduceGE, Int.reduceAdd, Int.reduceSub, Int.reduceMul, Int.reduceNeg, Int.reduceToNat, reduceCtorEq, reduceIte]
  by_cases hlt : (i : Int) < L.length
  case pos =>
    have hi' : i < L.length := by omega
    obtain ⟨x, hx⟩ : ∃ x, x = L.getD i default := ⟨_, rfl⟩
    have hr := s128 x ho
    cases hc : btOk x
    · have ev := all_not (l := L) (p := btOk) hi' hx.symm hc
      rw [hc] at hr
      simp (disch := first | assumption | omega | (simp only [az]; done)) only [ru, eq_self, if_true, if_false, BEq.rfl, binI, AO.row?, splice, fillL, mmAll, loadV, storeV, zeros, Am.rowAt, Am.part, addOff, Nat.reduceAdd, Nat.reduceMul, Nat.reduceLeDiff, Nat.reduceSub, Nat.reduceLT, Int.reduceEq, Int.reduceLT, Int.reduceLE, Int.reduceGT, Int.reduceGE, Int.reduceAdd, Int.reduceSub, Int.reduceMul, Int.reduceNeg, Int.reduceToNat, reduceCtorEq, reduceIte, hlt, elem_bt H, Int.toNat_natCast, ← hx, exOp_callv1, hr, Bool.not_false]
      exact ⟨i, rfl, by rw [ev]; simp⟩
    · rw [hc] at hr
      simp (disch := first | assumption | omega | (simp only [az]; done)) only [ru, eq_self, if_true, if_false, BEq.rfl, binI, AO.row?, splice, fillL, mmAll, loadV, storeV, zeros, Am.rowAt, Am.part, addOff, Nat.reduceAdd, Nat.reduceMul, Nat.reduceLeDiff, Nat.reduceSub, Nat.reduceLT, Int.reduceEq, Int.reduceLT, Int.reduceLE, Int.reduceGT, Int.reduceGE, Int.reduceAdd, Int.reduceSub, Int.reduceMul, Int.reduceNeg, Int.reduceToNat, reduceCtorEq, reduceIte, hlt, elem_bt H, Int.toNat_natCast, ← hx, exOp_callv1, hr, Bool.not_true]
      exact ih (L.length - (i + 1)) _ _ _ (by omega) ⟨i + 1, by omega, rfl, all_upto_succ hi' hx.symm hall hc, rfl, rfl, rfl, rfl, rfl, rfl, rfl⟩
  obtain rfl : i = L.length := by omega
  rw [List.take_length] at hall
  simp (disch := first | assumption | omega | (simp only [az]; done)) only [ru, eq_self, if_true, if_false, BEq.rfl, binI, AO.row?, splice, fillL, mmAll, loadV, storeV, zeros, Am.rowAt, Am.part, addOff, Nat.reduceAdd, Nat.reduceMul, Nat.reduceLeDiff, Nat.reduceSub, Nat.reduceLT, Int.reduceEq, Int.reduceLT, Int.reduceLE, Int.reduceGT, Int.reduceGE, Int.reduceAdd, Int.reduceSub, Int.reduceMul, Int.reduceNeg, Int.reduceToNat, reduceCtorEq, reduceIte, hlt]
  exact ⟨-1, rfl, by rw [hall]; decide⟩
theorem s125 {L : List Spn} {v : AV} (H : IsSl 2 Spn.e L v) (hl : L.length ≤ 41) {o : Nat} {h : List AO} (ho : h[o]? = some (.cells [.fn 72 [] []] false)) : Ro E 82 [v, .fn 83 [] [.ptr o 0]] h = some (Bo (!L.all (spanOk · 12))) := by
  obtain ⟨k, hr, hk⟩ := s131 H hl ho
  refine Ro_of (es _ _ _ _) e82 ?_
  simp only [f82]
  simp (disch := first | assumption | omega | (simp only [az]; done)) only [ru, eq_self, if_true, if_false, BEq.rfl, binI, AO.row?, splice, fillL, mmAll, loadV, storeV, zeros, Am.rowAt, Am.part, addOff, Nat.reduceAdd, Nat.reduceMul, Nat.reduceLeDiff, Nat.reduceSub, Nat.reduceLT, Int.reduceEq, Int.reduceLT, Int.reduceLE, Int.reduceGT, Int.reduceGE, Int.reduceAdd, Int.reduceSub, Int.reduceMul, Int.reduceNeg, Int.reduceToNat, reduceCtorEq, reduceIte, hr]
  rw [hk]; exact ⟨rfl, rfl⟩
theorem s127 {L : List Bt} {v : AV} (H : IsSl 2 Bt.e L v) (hl : L.length ≤ 41) {o : Nat} {h : List AO} (ho : h[o]? = some (.cells [.fn 74 [] []] false)) : Ro E 84 [v, .fn 85 [] [.ptr o 0]] h = some (Bo (!L.all btOk)) := by
  obtain ⟨k, hr, hk⟩ := s132 H hl ho
  refine Ro_of (es _ _ _ _) e84 ?_
  simp only [f84]
  simp (disch := first | assumption | omega | (simp only [az]; done)) only [ru, eq_self, if_true, if_false, BEq.rfl, binI, AO.row?, splice, fillL, mmAll, loadV, storeV, zeros, Am.rowAt, Am.part, addOff, Nat.reduceAdd, Nat.reduceMul, Nat.reduceLeDiff, Nat.reduceSub, Nat.reduceLT, Int.reduceEq, Int.reduceLT, Int.reduceLE, Int.reduceGT, Int.reduceGE, Int.reduceAdd, Int.reduceSub, Int.reduceMul, Int.reduceNeg, Int.reduceToNat, reduceCtorEq, reduceIte, hr]
  rw [hk]; exact ⟨rfl, rfl⟩
theorem s119 {L : List Spn} {v : AV} (H : IsSl 2 Spn.e L v) (hl : L.length ≤ 41) (st : Bool) : Iso E 75 [v, .fn 72 [] []] st = some (Bo (L.all (spanOk · 12))) := by
  have hr := s125 H hl (o := 0) (h := [.cells [.fn 72 [] []] false]) rfl
  refine Iso_of (es _ _ _ _) e75 ?_
  simp only [f75]
  simp (disch := first | assumption | omega | (simp only [az]; done)) only [ru, eq_self, if_true, if_false, BEq.rfl, binI, AO.row?, splice, fillL, mmAll, loadV, storeV, zeros, Am.rowAt, Am.part, addOff, Nat.reduceAdd, Nat.reduceMul, Nat.reduceLeDiff, Nat.reduceSub, Nat.reduceLT, Int.reduceEq, Int.reduceLT, Int.reduceLE, Int.reduceGT, Int.reduceGE, Int.reduceAdd, Int.reduceSub, Int.reduceMul, Int.reduceNeg, Int.reduceToNat, reduceCtorEq, reduceIte, hr, Bool.not_not]
theorem s120 {L : List Bt} {v : AV} (H : IsSl 2 Bt.e L v) (hl : L.length ≤ 41) (st : Bool) : Iso E 78 [v, .fn 74 [] []] st = some (Bo (L.all btOk)) := by
  have hr := s127 H hl (o := 0) (h := [.cells [.fn 74 [] []] false]) rfl
  refine Iso_of (es _ _ _ _) e78 ?_
  simp only [f78]
  simp (disch := first | assumption | omega | (simp only [az]; done)) only [ru, eq_self, if_true, if_false, BEq.rfl, binI, AO.row?, splice, fillL, mmAll, loadV, storeV, zeros, Am.rowAt, Am.part, addOff, Nat.reduceAdd, Nat.reduceMul, Nat.reduceLeDiff, Nat.reduceSub, Nat.reduceLT, Int.reduceEq, Int.reduceLT, Int.reduceLE, Int.reduceGT, Int.reduceGE, Int.reduceAdd, Int.reduceSub, Int.reduceMul, Int.reduceNeg, Int.reduceToNat, reduceCtorEq, reduceIte, hr, Bool.not_not]
/-- the sums of spans from 0 to 12 -/
theorem s108 {L : List Spn} {v : AV} (H : IsSl 2 Spn.e L v) (hl : L.length ≤ 41) (ha : L.all (spanOk · 12) = true) (st : Bool) : Iso E 77 [v] st = some (.agg [I (slo L), I (shi L)]) := by
  refine Iso_of (es _ _ _ _) e77 ?_
  simp only [f77]
  simp (disch := first | assumption | omega | (simp only [az]; done)) only [ru, eq_self, if_true, if_false, BEq.rfl, binI, AO.row?, splice, fillL, mmAll, loadV, storeV, zeros, Am.rowAt, Am.part, addOff, Nat.reduceAdd, Nat.reduceMul, Nat.reduceLeDiff, Nat.reduceSub, Nat.reduceLT, Int.reduceEq, Int.reduceLT, Int.reduceLE, Int.reduceGT, Int.reduceGE, Int.reduceAdd, Int.reduceSub, Int.reduceMul, Int.reduceNeg, Int.reduceToNat, reduceCtorEq, reduceIte, lenV_sl H]
  refine G_loop_ind (fun m ts hh mk => ∃ (i : Nat) (J : List AO), i ≤ L.length ∧ m = L.length - i ∧ ts.length = 26 ∧ ts.getD 2 .undef = .ptr 0 0 ∧ ts.getD 3 .undef = .ptr 1 0 ∧ ts.getD 6 .undef = v ∧ ts.getD 7 .undef = I L.length ∧ ts.getD 8 .undef = I i ∧
    hh = .cells [I 0, I 0] false :: .cells [I (slo (L.take i)), I (shi (L.take i))] false :: J ∧ mk = []) ?_ _ _ _ _ ⟨0, [], Nat.zero_le _, rfl, rfl, rfl, rfl, rfl, rfl, rfl, rfl, rfl⟩
  rintro m ts hh mk ih ⟨i, J, hi, rfl, hl', q2, q3, q6, q7, q8, rfl, rfl⟩
  rw [lit_all hl']
  simp only [lit0, litS, Nat.reduceAdd, q2, q3, q6, q7, q8]
  simp (disch := first | assumption | omega | (simp only [az]; done)) only [ru, eq_self, if_true, if_false, BEq.rfl, binI, AO.row?, splice, fillL, mmAll, loadV, storeV, zeros, Am.rowAt, Am.part, addOff, Nat.reduceAdd, Nat.reduceMul, Nat.reduceLeDiff, Nat.reduceSub, Nat.reduceLT, Int.reduceEq, Int.reduceLT, Int.reduceLE, Int.reduceGT, Int.reduceGE, Int.reduceAdd, Int.reduceSub, Int.reduceMul, Int.reduceNeg, Int.reduceToNat, reduceCtorEq, reduceIte]
  by_cases hlt : (i : Int) < L.length
  case pos =>
    have hi' : i < L.length := by omega
    have hall : ∀ j, (L.take j).all (spanOk · 12) = true := fun j => by
      rw [List.all_eq_true] at ha ⊢; exact fun x hx => ha x (List.mem_of_mem_take hx)
    obtain ⟨b1, b2, b3, b4⟩ := sum_bound (hall i) hi
    obtain ⟨c1, c2, c3, c4⟩ := sum_bound (hall (i + 1)) hi'
    obtain ⟨t1, t2⟩ := slo_take hi'
    obtain ⟨x, hx⟩ : ∃ x, x = L.getD i default := ⟨_, rfl⟩
    rw [← hx] at t1 t2
    have n1 : (J ++ [AO.cells [I x.lo, I x.hi] false])[J.length]? = some (.cells [I x.lo, I x.hi] false) := atE
    simp (disch := first | assumption | omega | (simp only [az]; done)) only [ru, eq_self, if_true, if_false, BEq.rfl, binI, AO.row?, splice, fillL, mmAll, loadV, storeV, zeros, Am.rowAt, Am.part, addOff, Nat.reduceAdd, Nat.reduceMul, Nat.reduceLeDiff, Nat.reduceSub, Nat.reduceLT, Int.reduceEq, Int.reduceLT, Int.reduceLE, Int.reduceGT, Int.reduceGE, Int.reduceAdd, Int.reduceSub, Int.reduceMul, Int.reduceNeg, Int.reduceToNat, reduceCtorEq, reduceIte, hlt, elem_sp H, Int.toNat_natCast, ← hx, n1, setE]
    exact ih (L.length - (i + 1)) _ _ _ (by omega) ⟨i + 1, J ++ [.cells [I x.lo, I x.hi] false], by omega, rfl, rfl, rfl, rfl, rfl, rfl, rfl, by rw [t1, t2], rfl⟩
  obtain rfl : i = L.length := by omega
  simp (disch := first | assumption | omega | (simp only [az]; done)) only [ru, eq_self, if_true, if_false, BEq.rfl, binI, AO.row?, splice, fillL, mmAll, loadV, storeV, zeros, Am.rowAt, Am.part, addOff, Nat.reduceAdd, Nat.reduceMul, Nat.reduceLeDiff, Nat.reduceSub, Nat.reduceLT, Int.reduceEq, Int.reduceLT, Int.reduceLE, Int.reduceGT, Int.reduceGE, Int.reduceAdd, Int.reduceSub, Int.reduceMul, Int.reduceNeg, Int.reduceToNat, reduceCtorEq, reduceIte, hlt, List.take_length, finC, getRes, Option.some.injEq, exists_eq_left']
end

section
variable {s : Sea} {p b : AV}
theorem s87 (H : SeaOk s p b) (st : Bool) : Iso E 63 [seaV s p b] st = some (Bo s.valid) := by
  have sp := H.sp; have sb := H.sb
  refine Iso_of (es _ _ _ _) e63 ?_
  simp only [f63, seaV]
  cases h1 : spanOk s.w 2000
  · have e : spanOk ⟨s.w.lo, s.w.hi⟩ 2000 = false := h1
    have ev : s.valid = false := by simp [Sea.valid, h1]
    simp (disch := first | assumption | omega | (simp only [az]; done)) only [ru, eq_self, if_true, if_false, BEq.rfl, binI, AO.row?, splice, fillL, mmAll, loadV, storeV, zeros, Am.rowAt, Am.part, addOff, Nat.reduceAdd, Nat.reduceMul, Nat.reduceLeDiff, Nat.reduceSub, Nat.reduceLT, Int.reduceEq, Int.reduceLT, Int.reduceLE, Int.reduceGT, Int.reduceGE, Int.reduceAdd, Int.reduceSub, Int.reduceMul, Int.reduceNeg, Int.reduceToNat, reduceCtorEq, reduceIte, lenV_sl H.p, lenV_sl H.b, elem_sp H.p, elem_bt H.b, view_sl H.p, view_sl H.b, scalar_sl H.p, scalar_sl H.b, cells_sl H.p, cells_sl H.b, pure_sl H.p, pure_sl H.b, Int.toNat_natCast, s116, e, ev, gUn]
  have e1 : spanOk ⟨s.w.lo, s.w.hi⟩ 2000 = true := h1
  by_cases h2 : s.pl.length ≤ 4
  case neg =>
    have e : ¬ (s.pl.length : Int) ≤ 4 := by omega
    have ev : s.valid = false := by simp [Sea.valid, h2]
    simp (disch := first | assumption | omega | (simp only [az]; done)) only [ru, eq_self, if_true, if_false, BEq.rfl, binI, AO.row?, splice, fillL, mmAll, loadV, storeV, zeros, Am.rowAt, Am.part, addOff, Nat.reduceAdd, Nat.reduceMul, Nat.reduceLeDiff, Nat.reduceSub, Nat.reduceLT, Int.reduceEq, Int.reduceLT, Int.reduceLE, Int.reduceGT, Int.reduceGE, Int.reduceAdd, Int.reduceSub, Int.reduceMul, Int.reduceNeg, Int.reduceToNat, reduceCtorEq, reduceIte, lenV_sl H.p, lenV_sl H.b, elem_sp H.p, elem_bt H.b, view_sl H.p, view_sl H.b, scalar_sl H.p, scalar_sl H.b, cells_sl H.p, cells_sl H.b, pure_sl H.p, pure_sl H.b, Int.toNat_natCast, s116, e1, e, ev, gUn]
  have e2 : (s.pl.length : Int) ≤ 4 := by omega
  have g1 := fun st => s119 H.p (by omega) st
  cases h4 : s.pl.all (spanOk · 12)
  · have ev : s.valid = false := by simp [Sea.valid, h4]
    simp (disch := first | assumption | omega | (simp only [az]; done)) only [ru, eq_self, if_true, if_false, BEq.rfl, binI, AO.row?, splice, fillL, mmAll, loadV, storeV, zeros, Am.rowAt, Am.part, addOff, Nat.reduceAdd, Nat.reduceMul, Nat.reduceLeDiff, Nat.reduceSub, Nat.reduceLT, Int.reduceEq, Int.reduceLT, Int.reduceLE, Int.reduceGT, Int.reduceGE, Int.reduceAdd, Int.reduceSub, Int.reduceMul, Int.reduceNeg, Int.reduceToNat, reduceCtorEq, reduceIte, lenV_sl H.p, lenV_sl H.b, elem_sp H.p, elem_bt H.b, view_sl H.p, view_sl H.b, scalar_sl H.p, scalar_sl H.b, cells_sl H.p, cells_sl H.b, pure_sl H.p, pure_sl H.b, Int.toNat_natCast, s116, e1, e2, g1, view_fn, h4, ev, gUn]
  have g2 := fun st => s108 H.p (by omega) h4 st
  have ew : inR 12 (slo s.pl) (shi s.pl) = (decide (slo s.pl ≤ 12) && decide (12 ≤ shi s.pl)) := rfl
  cases h5 : inR 12 (slo s.pl) (shi s.pl)
  · have ev : s.valid = false := by
      rw [h5] at ew
      simp only [Sea.valid, h1, h2, h4, Bool.and_assoc, ← ew, Bool.and_false]
    simp (disch := first | assumption | omega | (simp only [az]; done)) only [ru, eq_self, if_true, if_false, BEq.rfl, binI, AO.row?, splice, fillL, mmAll, loadV, storeV, zeros, Am.rowAt, Am.part, addOff, Nat.reduceAdd, Nat.reduceMul, Nat.reduceLeDiff, Nat.reduceSub, Nat.reduceLT, Int.reduceEq, Int.reduceLT, Int.reduceLE, Int.reduceGT, Int.reduceGE, Int.reduceAdd, Int.reduceSub, Int.reduceMul, Int.reduceNeg, Int.reduceToNat, reduceCtorEq, reduceIte, lenV_sl H.p, lenV_sl H.b, elem_sp H.p, elem_bt H.b, view_sl H.p, view_sl H.b, scalar_sl H.p, scalar_sl H.b, cells_sl H.p, cells_sl H.b, pure_sl H.p, pure_sl H.b, Int.toNat_natCast, s116, e1, e2, g1, view_fn, h4, g2, s106, h5, ev, gUn]
  rw [h5] at ew
  by_cases h3 : s.bo.length ≤ 6
  case neg =>
    have e : ¬ (s.bo.length : Int) ≤ 6 := by omega
    have ev : s.valid = false := by simp [Sea.valid, h3]
    simp (disch := first | assumption | omega | (simp only [az]; done)) only [ru, eq_self, if_true, if_false, BEq.rfl, binI, AO.row?, splice, fillL, mmAll, loadV, storeV, zeros, Am.rowAt, Am.part, addOff, Nat.reduceAdd, Nat.reduceMul, Nat.reduceLeDiff, Nat.reduceSub, Nat.reduceLT, Int.reduceEq, Int.reduceLT, Int.reduceLE, Int.reduceGT, Int.reduceGE, Int.reduceAdd, Int.reduceSub, Int.reduceMul, Int.reduceNeg, Int.reduceToNat, reduceCtorEq, reduceIte, lenV_sl H.p, lenV_sl H.b, elem_sp H.p, elem_bt H.b, view_sl H.p, view_sl H.b, scalar_sl H.p, scalar_sl H.b, cells_sl H.p, cells_sl H.b, pure_sl H.p, pure_sl H.b, Int.toNat_natCast, s116, e1, e2, g1, view_fn, h4, g2, s106, h5, e, ev, gUn]
  have e3 : (s.bo.length : Int) ≤ 6 := by omega
  have g3 := fun st => s120 H.b (by omega) st
  have ev : s.valid = s.bo.all btOk := by
    simp only [Sea.valid, h1, h2, h3, h4, Bool.and_assoc, ← ew, Bool.and_true, decide_true, Bool.true_and]
  simp (disch := first | assumption | omega | (simp only [az]; done)) only [ru, eq_self, if_true, if_false, BEq.rfl, binI, AO.row?, splice, fillL, mmAll, loadV, storeV, zeros, Am.rowAt, Am.part, addOff, Nat.reduceAdd, Nat.reduceMul, Nat.reduceLeDiff, Nat.reduceSub, Nat.reduceLT, Int.reduceEq, Int.reduceLT, Int.reduceLE, Int.reduceGT, Int.reduceGE, Int.reduceAdd, Int.reduceSub, Int.reduceMul, Int.reduceNeg, Int.reduceToNat, reduceCtorEq, reduceIte, lenV_sl H.p, lenV_sl H.b, elem_sp H.p, elem_bt H.b, view_sl H.p, view_sl H.b, scalar_sl H.p, scalar_sl H.b, cells_sl H.p, cells_sl H.b, pure_sl H.p, pure_sl H.b, Int.toNat_natCast, s116, e1, e2, g1, view_fn, h4, g2, s106, h5, e3, g3, ev, gUn]

theorem s52 (H : SeaOk s p b) (st : Bool) : Iso E 48 [seaV s p b] st = some (I (vE s.valid)) := by
  have g := fun st => s87 H st
  refine Iso_of (es _ _ _ _) e48 ?_
  simp only [f48, seaV] at g ⊢
  cases hv : s.valid
  · rw [hv] at g
    simp (disch := first | assumption | omega | (simp only [az]; done)) only [ru, eq_self, if_true, if_false, BEq.rfl, binI, AO.row?, splice, fillL, mmAll, loadV, storeV, zeros, Am.rowAt, Am.part, addOff, Nat.reduceAdd, Nat.reduceMul, Nat.reduceLeDiff, Nat.reduceSub, Nat.reduceLT, Int.reduceEq, Int.reduceLT, Int.reduceLE, Int.reduceGT, Int.reduceGE, Int.reduceAdd, Int.reduceSub, Int.reduceMul, Int.reduceNeg, Int.reduceToNat, reduceCtorEq, reduceIte, lenV_sl H.p, lenV_sl H.b, elem_sp H.p, elem_bt H.b, view_sl H.p, view_sl H.b, scalar_sl H.p, scalar_sl H.b, cells_sl H.p, cells_sl H.b, pure_sl H.p, pure_sl H.b, Int.toNat_natCast, g, vE]
  · rw [hv] at g
    simp (disch := first | assumption | omega | (simp only [az]; done)) only [ru, eq_self, if_true, if_false, BEq.rfl, binI, AO.row?, splice, fillL, mmAll, loadV, storeV, zeros, Am.rowAt, Am.part, addOff, Nat.reduceAdd, Nat.reduceMul, Nat.reduceLeDiff, Nat.reduceSub, Nat.reduceLT, Int.reduceEq, Int.reduceLT, Int.reduceLE, Int.reduceGT, Int.reduceGE, Int.reduceAdd, Int.reduceSub, Int.reduceMul, Int.reduceNeg, Int.reduceToNat, reduceCtorEq, reduceIte, lenV_sl H.p, lenV_sl H.b, elem_sp H.p, elem_bt H.b, view_sl H.p, view_sl H.b, scalar_sl H.p, scalar_sl H.b, cells_sl H.p, cells_sl H.b, pure_sl H.p, pure_sl H.b, Int.toNat_natCast, g, vE]

/-- the error of one who asks for something that is there, or is not -/
def aE (v q : Bool) (e : Int) : Int := if v then (if q then 0 else e) else 50
theorem s85 (H : SeaOk s p b) (st : Bool) : Iso E 30 [seaV s p b] st = some (I (aE s.valid (decide (s.pl.length ≤ s.bo.length)) 3)) := by
  have g := fun st => s52 H st
  refine Iso_of (es _ _ _ _) e30 ?_
  simp only [f30, seaV] at g ⊢
  cases hv : s.valid
  · rw [hv] at g
    simp (disch := first | assumption | omega | (simp only [az]; done)) only [ru, eq_self, if_true, if_false, BEq.rfl, binI, AO.row?, splice, fillL, mmAll, loadV, storeV, zeros, Am.rowAt, Am.part, addOff, Nat.reduceAdd, Nat.reduceMul, Nat.reduceLeDiff, Nat.reduceSub, Nat.reduceLT, Int.reduceEq, Int.reduceLT, Int.reduceLE, Int.reduceGT, Int.reduceGE, Int.reduceAdd, Int.reduceSub, Int.reduceMul, Int.reduceNeg, Int.reduceToNat, reduceCtorEq, reduceIte, lenV_sl H.p, lenV_sl H.b, elem_sp H.p, elem_bt H.b, view_sl H.p, view_sl H.b, scalar_sl H.p, scalar_sl H.b, cells_sl H.p, cells_sl H.b, pure_sl H.p, pure_sl H.b, Int.toNat_natCast, g, vE, aE, gUn]
  · rw [hv] at g
    by_cases hc : s.pl.length ≤ s.bo.length
    · have e : ¬ (s.bo.length : Int) < s.pl.length := by omega
      simp (disch := first | assumption | omega | (simp only [az]; done)) only [ru, eq_self, if_true, if_false, BEq.rfl, binI, AO.row?, splice, fillL, mmAll, loadV, storeV, zeros, Am.rowAt, Am.part, addOff, Nat.reduceAdd, Nat.reduceMul, Nat.reduceLeDiff, Nat.reduceSub, Nat.reduceLT, Int.reduceEq, Int.reduceLT, Int.reduceLE, Int.reduceGT, Int.reduceGE, Int.reduceAdd, Int.reduceSub, Int.reduceMul, Int.reduceNeg, Int.reduceToNat, reduceCtorEq, reduceIte, lenV_sl H.p, lenV_sl H.b, elem_sp H.p, elem_bt H.b, view_sl H.p, view_sl H.b, scalar_sl H.p, scalar_sl H.b, cells_sl H.p, cells_sl H.b, pure_sl H.p, pure_sl H.b, Int.toNat_natCast, g, vE, aE, hc, e, decide_true]
    · have e : (s.bo.length : Int) < s.pl.length := by omega
      simp (disch := first | assumption | omega | (simp only [az]; done)) only [ru, eq_self, if_true, if_false, BEq.rfl, binI, AO.row?, splice, fillL, mmAll, loadV, storeV, zeros, Am.rowAt, Am.part, addOff, Nat.reduceAdd, Nat.reduceMul, Nat.reduceLeDiff, Nat.reduceSub, Nat.reduceLT, Int.reduceEq, Int.reduceLT, Int.reduceLE, Int.reduceGT, Int.reduceGE, Int.reduceAdd, Int.reduceSub, Int.reduceMul, Int.reduceNeg, Int.reduceToNat, reduceCtorEq, reduceIte, lenV_sl H.p, lenV_sl H.b, elem_sp H.p, elem_bt H.b, view_sl H.p, view_sl H.b, scalar_sl H.p, scalar_sl H.b, cells_sl H.p, cells_sl H.b, pure_sl H.p, pure_sl H.b, Int.toNat_natCast, g, vE, aE, hc, e, decide_false]
end
end Go.Proofs.Ytokhneffambgmaa.A

/-
Sums; are these the parts of a truth? What a place has, by the program.
-/
namespace Go.Proofs.Ytokhneffambgmaa.A
open Go Go.Am Go.Proofs.Ytokhneffambgmaa.T
set_option maxRecDepth 100000
set_option linter.unusedSimpArgs false
set_option linter.unusedVariables false

theorem getD_memI {l : List Int} {i : Nat} (h : i < l.length) : l.getD i 0 ∈ l := by
  rw [List.getD_eq_getElem?_getD, List.getElem?_eq_getElem h]; exact List.getElem_mem h
section
variable {s : Sea} {p b : AV}

/-! what a place has -/
theorem slo_le {L : List Spn} (H : SpOk L) : 0 ≤ slo L ∧ shi L ≤ 48 := by
  have h := sum_bound (L := L) (i := L.length) (by rw [List.take_length, List.all_eq_true]; exact fun x hx => spanOk_iff.2 (H.s x hx)) (Nat.le_refl _)
  rw [List.take_length] at h
  have := H.le
  omega
theorem SpOk.all {L : List Spn} (H : SpOk L) : L.all (spanOk · 12) = true := by
  rw [List.all_eq_true]; exact fun x hx => spanOk_iff.2 (H.s x hx)
theorem s76 (H : SeaOk s p b) (G : SpOk s.pl) {i : Nat} (hi : i < s.pl.length) (st : Bool) : Iso E 68 [seaV s p b, I i] st = some (.agg [I (shL s.pl i), I (shH s.pl i)]) := by
  have g := fun st => s108 H.p (by have := G.le; omega) G.all st
  have b1 := slo_le G
  have b2 := G.lo; have b3 := G.hi
  have b4 := G.at hi
  have b5 := slo_ge (fun s hs => ⟨(G.s s hs).1, (G.s s hs).2.1⟩) hi
  have hlt : (i : Int) < s.pl.length := by omega
  refine Iso_of (es _ _ _ _) e68 ?_
  simp only [f68, seaV, shL, shH, mx, mn]
  obtain ⟨x, hx⟩ : ∃ x, x = s.pl.getD i default := ⟨_, rfl⟩
  obtain ⟨lo, hlo⟩ : ∃ lo, lo = slo s.pl := ⟨_, rfl⟩
  obtain ⟨hh, hhi⟩ : ∃ hh, hh = shi s.pl := ⟨_, rfl⟩
  simp only [← hx, ← hlo, ← hhi] at g b1 b2 b3 b4 b5 ⊢
  simp (disch := first | assumption | omega | (simp only [az]; done)) only [ru, eq_self, if_true, if_false, BEq.rfl, binI, AO.row?, splice, fillL, mmAll, loadV, storeV, zeros, Am.rowAt, Am.part, addOff, Nat.reduceAdd, Nat.reduceMul, Nat.reduceLeDiff, Nat.reduceSub, Nat.reduceLT, Int.reduceEq, Int.reduceLT, Int.reduceLE, Int.reduceGT, Int.reduceGE, Int.reduceAdd, Int.reduceSub, Int.reduceMul, Int.reduceNeg, Int.reduceToNat, reduceCtorEq, reduceIte, lenV_sl H.p, lenV_sl H.b, elem_sp H.p, elem_bt H.b, view_sl H.p, view_sl H.b, scalar_sl H.p, scalar_sl H.b, cells_sl H.p, cells_sl H.b, pure_sl H.p, pure_sl H.b, Int.toNat_natCast, g, hlt, ← hx, finC, getRes, Option.some.injEq, exists_eq_left', mmx]
theorem s112 (H : SeaOk s p b) (K : SeaG s) {i : Nat} (hi : i < s.pl.length) {x : Int} (h0 : 0 ≤ x) (h1 : x < s.bo.length) (st : Bool) : Iso E 52 [seaV s p b, I i, I x] st = some (I (brs s.pl (boat s x).c i)) := by
  have g := fun st => s76 H K.sp hi st
  have hs := shr_le K.sp hi
  have hb := boat_ok K x
  refine Iso_of (es _ _ _ _) e52 ?_
  simp only [f52, seaV, brs, mn] at g ⊢
  obtain ⟨y, hy⟩ : ∃ y, y = shH s.pl i := ⟨_, rfl⟩
  have eb : s.bo.getD x.toNat default = boat s x := rfl
  obtain ⟨z, hz⟩ : ∃ z, z = boat s x := ⟨_, rfl⟩
  simp only [← hy, ← hz] at g hs hb eb ⊢
  by_cases e : y = 0
  · simp (disch := first | assumption | omega | (simp only [az]; done)) only [ru, eq_self, if_true, if_false, BEq.rfl, binI, AO.row?, splice, fillL, mmAll, loadV, storeV, zeros, Am.rowAt, Am.part, addOff, Nat.reduceAdd, Nat.reduceMul, Nat.reduceLeDiff, Nat.reduceSub, Nat.reduceLT, Int.reduceEq, Int.reduceLT, Int.reduceLE, Int.reduceGT, Int.reduceGE, Int.reduceAdd, Int.reduceSub, Int.reduceMul, Int.reduceNeg, Int.reduceToNat, reduceCtorEq, reduceIte, lenV_sl H.p, lenV_sl H.b, elem_sp H.p, elem_bt H.b, view_sl H.p, view_sl H.b, scalar_sl H.p, scalar_sl H.b, cells_sl H.p, cells_sl H.b, pure_sl H.p, pure_sl H.b, Int.toNat_natCast, g, e]
  · have hd : (12 * z.c).tdiv y = 12 * z.c / y := Int.tdiv_eq_ediv_of_nonneg (by omega)
    have d0 : 0 ≤ 12 * z.c / y := Int.ediv_nonneg (by omega) (by omega)
    have d1 : 12 * z.c / y ≤ 12 * z.c := Int.ediv_le_self _ (by omega)
    simp (disch := first | assumption | omega | (simp only [az]; done)) only [ru, eq_self, if_true, if_false, BEq.rfl, binI, AO.row?, splice, fillL, mmAll, loadV, storeV, zeros, Am.rowAt, Am.part, addOff, Nat.reduceAdd, Nat.reduceMul, Nat.reduceLeDiff, Nat.reduceSub, Nat.reduceLT, Int.reduceEq, Int.reduceLT, Int.reduceLE, Int.reduceGT, Int.reduceGE, Int.reduceAdd, Int.reduceSub, Int.reduceMul, Int.reduceNeg, Int.reduceToNat, reduceCtorEq, reduceIte, lenV_sl H.p, lenV_sl H.b, elem_sp H.p, elem_bt H.b, view_sl H.p, view_sl H.b, scalar_sl H.p, scalar_sl H.b, cells_sl H.p, cells_sl H.b, pure_sl H.p, pure_sl H.b, Int.toNat_natCast, g, e, eb, hd, mmx]
end
end Go.Proofs.Ytokhneffambgmaa.A

/-
Lists of numbers that lie in a heap, lists of lists that are being made, appends.
-/
namespace Go.Proofs.Ytokhneffambgmaa.A
open Go Go.Am Go.Proofs.Ytokhneffambgmaa.T
set_option maxRecDepth 100000
set_option linter.unusedSimpArgs false
set_option linter.unusedVariables false

theorem mapM_view {st : Bool} {h : List AO} {n : Nat} : ∀ {c : List AV}, (∀ x ∈ c, view st h n x = some x) → c.mapM (view st h n) = some c
  | [], _ => rfl
  | a :: c, hc => by
    simp only [List.mapM_cons, hc a (by simp), mapM_view (c := c) (fun x hx => hc x (by simp [hx])), Option.bind_eq_bind, Option.bind_some, Option.pure_def]
theorem flat_view {α : Type} {enc : α → List AV} {st : Bool} {h : List AO} {n : Nat} (hi : ∀ a, ∀ x ∈ enc a, ∃ k i, x = .int k i) (l : List α) : (l.flatMap enc).mapM (view st h n) = some (l.flatMap enc) :=
  mapM_view fun x hx => by
    obtain ⟨a, _, hx⟩ := List.mem_flatMap.1 hx
    obtain ⟨k, i, rfl⟩ := hi a x hx
    exact view_int
theorem flat_take {α : Type} {enc : α → List AV} {l : List α} {k : Nat} (he : ∀ a, (enc a).length = k) : (l.flatMap enc).take (l.length * k) = l.flatMap enc := List.take_of_length_le (by rw [flat_len he]; omega)
theorem flat1 (l : List Int) : (l.flatMap fun n => [I n]).length = l.length := by
  have := flat_len (enc := fun n : Int => [I n]) (esz := 1) (fun _ => rfl) l
  omega
theorem Spn.iv (s : Spn) : ∀ x ∈ s.e, ∃ k i, x = .int k i := by simp [Spn.e]
theorem Bt.iv (s : Bt) : ∀ x ∈ s.e, ∃ k i, x = .int k i := by simp [Bt.e]
theorem intIv (n : Int) : ∀ x ∈ intL n, ∃ k i, x = .int k i := by simp
/-- a list of numbers that lies in the heap -/
def RdS (h : List AO) (v : AV) (l : List Int) : Prop := (l = [] ∧ v = .nils) ∨ (l ≠ [] ∧ ∃ o sh, v = .ms 1 o 0 l.length ∧ h[o]? = some (.cells (l.flatMap fun n => [I n]) sh))
/-- one heap came out of another: what was there is as it was -/
structure Fr (h h' : List AO) : Prop where
  l : h.length ≤ h'.length
  k : ∀ j, j < h.length → h'[j]? = h[j]?
theorem Fr.trans {a b c : List AO} (h : Fr a b) (h' : Fr b c) : Fr a c := ⟨Nat.le_trans h.l h'.l, fun j hj => (h'.k j (Nat.lt_of_lt_of_le hj h.l)).trans (h.k j hj)⟩
theorem Fr.app (h J : List AO) : Fr h (h ++ J) := ⟨by simp, fun j hj => List.getElem?_append_left hj⟩
theorem Fr.at {h h' : List AO} (F : Fr h h') {j : Nat} {x : AO} (hx : h[j]? = some x) : h'[j]? = some x := by rw [F.k j (List.getElem?_eq_some_iff.1 hx).1]; exact hx
theorem RdS.fr {h h' : List AO} {v : AV} {l : List Int} (H : RdS h v l) (F : Fr h h') : RdS h' v l := by
  rcases H with h1 | ⟨hne, o, sh, rfl, hc⟩
  · exact .inl h1
  · exact .inr ⟨hne, o, sh, rfl, F.at hc⟩
theorem RdS.len {h : List AO} {v : AV} {l : List Int} (H : RdS h v l) : lenV v = some (I l.length) ∧ v.cells = [v] ∧ v.scalar = true := by
  rcases H with ⟨rfl, rfl⟩ | ⟨hne, o, sh, rfl, hc⟩ <;> exact ⟨rfl, rfl, rfl⟩
theorem RdS.row {h : List AO} {v : AV} {l : List Int} (H : RdS h v l) : lenOf v = some l.length ∧ Am.rowOf h v = some (l.flatMap fun n => [I n]) := by
  rcases H with ⟨rfl, rfl⟩ | ⟨hne, o, sh, rfl, hc⟩
  · exact ⟨rfl, rfl⟩
  · refine ⟨rfl, ?_⟩
    have e : (l.flatMap fun n => [I n]).take (l.length * 1) = l.flatMap fun n => [I n] := List.take_of_length_le (by rw [flat1]; omega)
    rw [Nat.mul_one] at e
    simp only [rowOf_ms, Am.rowAt, hc, Option.bind_some, AO.row?, List.drop_zero, Nat.mul_one, e, flat1, if_true]
theorem RdS.view {h : List AO} {v : AV} {l : List Int} (H : RdS h v l) {st : Bool} {k : Nat} : Am.view st h (k + 1) v = some (resL l) := by
  have hr := H.row.2
  rcases H with ⟨rfl, rfl⟩ | ⟨hne, o, sh, rfl, hc⟩
  · rfl
  · rw [view_ms, hr]
    simp only [flat_view (enc := fun n : Int => [I n]) (fun a x hx => ⟨_, _, by simpa using hx⟩), Option.map_some, resL, hne, if_false, slV]
section
variable {α : Type} {l m : List α} {j : Nat} {x : α}
theorem setT : (l ++ m).set (l.length + j) x = l ++ m.set j x := by rw [List.set_append_right _ _ (by omega), Nat.add_sub_cancel_left]
theorem setT0 : (l ++ m).set l.length x = l ++ m.set 0 x := setT (j := 0)
theorem getT : (l ++ m).getD (l.length + j) x = m.getD j x := by simp [List.getD_eq_getElem?_getD, List.getElem?_append_right]
theorem getT0 : (l ++ m).getD l.length x = m.getD 0 x := getT (j := 0)
theorem atT : (l ++ m)[l.length + j]? = m[j]? := by rw [List.getElem?_append_right (by omega), Nat.add_sub_cancel_left]
theorem atT0 : (l ++ m)[l.length]? = m[0]? := atT (j := 0)
end

/-! a list of lists that is being made -/
/-! appends in a region of open order -/
noncomputable def appG (keep : Bool) (lim p esz eb : Nat) (h : List AO) (s x : AV) : Option (AV × List AO) := exOp (fun _ _ _ _ => none) lim (some p) (fun o => match o with | .t 0 => s | _ => x) h (.append keep esz eb (.t 0) (.t 1))
theorem appG_zero {keep : Bool} {lim p esz eb sl : Nat} {h : List AO} {s x : AV} (hs : lenOf s = some sl) (hx : lenOf x = some 0) (hr : Am.rowOf h x = some []) : appG keep lim p esz eb h s x = some (s, h) := by
  simp only [appG, exOp, hs, hx, hr, List.length_nil, Nat.zero_mul, if_true]
theorem appG_nil {keep : Bool} {lim p esz eb n : Nat} {h : List AO} {x : AV} {xs : List AV} (hn : n ≠ 0) (hx : lenOf x = some n) (hr : Am.rowOf h x = some xs) (hl : xs.length = n * esz) (hs : xs.all AV.scalar = true) (hb : n * eb ≤ 140737488355328) (heb : 1 ≤ eb) :
    appG keep lim p esz eb h .nils x = some (.ms esz p 0 n, h.set p (.cells xs false)) := by
  simp only [appG, exOp, lenOf_nils, hx, hr, hl, hn, hs, hb, heb, Nat.zero_add, if_true, if_false, and_self, newAt, Option.getD_some]
theorem appG_ms {keep : Bool} {lim p esz eb n o len : Nat} {h : List AO} {x : AV} {c xs : List AV} (hn : n ≠ 0) (ho : h[o]? = some (.cells c false)) (hc : len * esz = c.length) (hx : lenOf x = some n) (hr : Am.rowOf h x = some xs) (hl : xs.length = n * esz) (hs : xs.all AV.scalar = true)
    (hb : (len + n) * eb ≤ 140737488355328) (heb : 1 ≤ eb) (hlim : lim ≤ o) :
    appG keep lim p esz eb h (.ms esz o 0 len) x = some (.ms esz p 0 (len + n), (h.set o (if keep then .ro c else .tomb)).set p (.cells (c ++ xs) (keep && len != 0))) := by
  simp only [appG, exOp, lenOf_ms, hx, hr, hl, hn, hs, hb, heb, ho, hc, hlim, if_true, if_false, and_self, true_and, true_or, newObj', Option.getD_some, List.take_length, Bool.or_false]

theorem GO_mcall0 {X : Cx} {base : Nat} {k : List KF} {ts : List AV} {h : List AO} {mk : List Nat} {r : List AOper} {d : Option Nat} {f : Nat} {args : List Opd} {m : List Nat} :
    GO X base (⟨d, .call 0 f args, none, none, m⟩ :: r) k ts h mk = GX X base ((R X.E (.fn f) (args.map (Opd.ev ts)) (hide base m h) X.lim).map fun y => (y.1, unhide base h m y.2)) d r k ts mk := by
  rw [GO_slot]
  congr 1
  show exMask (R X.E) X.lim base none (Opd.ev ts) h (.call 0 f args) m = _
  rw [exMask_eq]; rfl
theorem GO_mapp {X : Cx} {base : Nat} {k : List KF} {ts : List AV} {h : List AO} {mk : List Nat} {r : List AOper} {d : Option Nat} {kp : Bool} {e eb s : Nat} {a x : Opd} {m : List Nat} :
    GO X base (⟨d, .append kp e eb a x, none, some s, m⟩ :: r) k ts h mk = GX X base ((appG kp X.lim (base + s) e eb (hide base m h) (a.ev ts) (x.ev ts)).map fun y => (y.1, unhide base h m y.2)) d r k ts mk := by
  rw [GO_slot]
  congr 1
  show exMask (R X.E) X.lim base (some (base + s)) (Opd.ev ts) h (.append kp e eb a x) m = _
  rw [exMask_eq]; rfl
theorem unhN {b : Nat} {h g : List AO} : unhide b h [] g = g := id rfl
theorem unhC {b s : Nat} {r : List Nat} {h g : List AO} : unhide b h (s :: r) g = (unhide b h r g).set (b + s) (h.getD (b + s) .tomb) := id rfl
theorem at_ap {α : Type} {l m : List α} {k : Nat} (h : k < l.length) : (l ++ m)[k]? = l[k]? := List.getElem?_append_left h
where
  mapM_fix {f : AV → Option AV} : ∀ {c : List AV}, c.mapM f = some c → ∀ x ∈ c, f x = some x
    | [], _, x, hx => by simp at hx
    | a :: c, h, x, hx => by
      simp only [List.mapM_cons, Option.bind_eq_bind, Option.bind_eq_some_iff, Option.pure_def, Option.some.injEq, List.cons.injEq] at h
      obtain ⟨y, h1, ys, h2, rfl, rfl⟩ := h
      rcases List.mem_cons.1 hx with rfl | hx
      · exact h1
      · exact mapM_fix h2 x hx
end Go.Proofs.Ytokhneffambgmaa.A

/-
All lists of parts, as the specification makes them.
-/
namespace Go.Proofs.Ytokhneffambgmaa.A
open Go Go.Am Go.Proofs.Ytokhneffambgmaa.T
set_option maxRecDepth 100000
set_option linter.unusedSimpArgs false
set_option linter.unusedVariables false

end Go.Proofs.Ytokhneffambgmaa.A

/-
What a place has, and what a boat lifts, by the specification; Share, Load, Need, Holds of both sides.
-/
namespace Go.Proofs.Ytokhneffambgmaa.A
open Go Go.Am Go.Proofs.Ytokhneffambgmaa.T
set_option maxRecDepth 100000
set_option linter.unusedSimpArgs false
set_option linter.unusedVariables false

section
variable {s : Sea} {p b : AV}

/-! Share, Load, Need -/
end
end Go.Proofs.Ytokhneffambgmaa.A

