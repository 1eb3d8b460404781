/-
The mathematics and the functions, one after another (S1).
-/
import Derived.Test.YtfagcnokdnanpaaGreatA2
/-
Sales of bids: which lists are one, all of them in their order, and the best.
-/
namespace Go.Proofs.YtfagcnokdnanpaaGreat.S
set_option linter.unusedVariables false
set_option linter.unusedSimpArgs false
structure Bi where
  u : Int
  bs : List Int
  c : Int
  deriving Inhabited
def bAt (L : List Bi) (i : Int) : Bi := L.getD i.toNat default
def shr (a b : Bi) : Bool := b.bs.any fun x => decide (x ∈ a.bs)
def apB (L : List Bi) (i o : Int) : Bool := decide (o < i) && decide ((bAt L o).u ≠ (bAt L i).u) && !shr (bAt L o) (bAt L i)
def fitS (r : Int → Bool) (L : List Bi) (s : List Int) (i : Int) : Bool := s.all (apB L i) && (bAt L i).bs.all r
def isS (r : Int → Bool) (L : List Bi) (s : List Int) : Bool := (List.range s.length).all fun i => inR (s.getD i 0) 0 (L.length - 1) && fitS r L (s.take i) (s.getD i 0)
theorem isS_nil {r : Int → Bool} {L : List Bi} : isS r L [] = true := rfl
theorem range_congr {n : Nat} {p q : Nat → Bool} (h : ∀ i, i < n → p i = q i) : (List.range n).all p = (List.range n).all q := by
  induction n with
  | zero => rfl
  | succ n ih => rw [List.range_succ, List.all_append, List.all_append, ih fun i hi => h i (by omega)]; simp [h n (by omega)]
theorem isS_snoc {r : Int → Bool} {L : List Bi} {s : List Int} {c : Int} : isS r L (s ++ [c]) = (isS r L s && (inR c 0 (L.length - 1) && fitS r L s c)) := by
  unfold isS
  rw [List.length_append, List.length_singleton, List.range_succ, List.all_append]
  congr 1
  · refine range_congr fun i hi => ?_
    rw [List.getD_eq_getElem?_getD, List.getD_eq_getElem?_getD, List.getElem?_append_left hi, List.take_append_of_le_length (by omega)]
  · simp
theorem isS_take {r : Int → Bool} {L : List Bi} {s : List Int} (h : isS r L s = true) (k : Nat) : isS r L (s.take k) = true := by
  unfold isS at h ⊢
  simp only [List.all_eq_true, List.mem_range, List.length_take] at h ⊢
  intro i hi
  have := h i (by omega)
  rwa [show (s.take k).getD i 0 = s.getD i 0 by simp only [List.getD_eq_getElem?_getD]; rw [List.getElem?_take_of_lt (by omega)], List.take_take, show min i k = i by omega]
def sals (r : Int → Bool) (L : List Bi) (m : Nat) : List (List Int) := ens (isS r L) (upto L.length) m []
def salT (r : Int → Bool) (L : List Bi) (k : Nat) : List (List Int) := (List.range k).flatMap (sals r L)
def allS (r : Int → Bool) (L : List Bi) : List (List Int) := salT r L (L.length + 1)
theorem mem_ensS {r : Int → Bool} {L : List Bi} : ∀ {d : Nat} {F s : List Int}, s ∈ ens (isS r L) (upto L.length) d F ↔ isS r L s = true ∧ s.length = F.length + d ∧ s.take F.length = F
  | 0, F, s => by
    unfold ens
    constructor
    · intro h
      split at h
      · simp at h; subst h; exact ⟨by assumption, by simp, by simp⟩
      · simp at h
    · rintro ⟨h1, h2, h3⟩
      have : s = F := by rw [← h3, List.take_of_length_le (by omega)]
      subst this; rw [if_pos h1]; simp
  | d + 1, F, s => by
    unfold ens
    constructor
    · intro h
      split at h
      · simp only [List.mem_flatMap] at h
        obtain ⟨c, hc, h⟩ := h
        obtain ⟨h1, h2, h3⟩ := mem_ensS.1 h
        simp only [List.length_append, List.length_singleton] at h2 h3
        refine ⟨h1, by omega, ?_⟩
        have := congrArg (List.take F.length) h3
        simpa [List.take_take] using this
      · simp at h
    · rintro ⟨h1, h2, h3⟩
      have hF : isS r L F = true := by rw [← h3]; exact isS_take h1 _
      rw [if_pos hF]
      have hl : F.length < s.length := by omega
      have e : s.take (F.length + 1) = F ++ [s.getD F.length 0] := by rw [take_snoc (d := 0) hl, h3]
      have hin : inR (s.getD F.length 0) 0 (L.length - 1) = true := by
        unfold isS at h1
        simp only [List.all_eq_true, List.mem_range, Bool.and_eq_true] at h1
        exact (h1 _ hl).1
      rw [inR_iff] at hin
      simp only [List.mem_flatMap]
      refine ⟨s.getD F.length 0, ?_, mem_ensS.2 ⟨h1, by simp; omega, by simpa using e⟩⟩
      simp only [upto, List.mem_map, List.mem_range]
      exact ⟨(s.getD F.length 0).toNat, by omega, by omega⟩
theorem mem_sals {r : Int → Bool} {L : List Bi} {m : Nat} {s : List Int} : s ∈ sals r L m ↔ isS r L s = true ∧ s.length = m := by
  unfold sals; rw [mem_ensS]; simp
theorem isS_pair {r : Int → Bool} {L : List Bi} {s : List Int} (h : isS r L s = true) {i j : Nat} (hij : i < j) (hj : j < s.length) : s.getD i 0 < s.getD j 0 ∧ (bAt L (s.getD i 0)).u ≠ (bAt L (s.getD j 0)).u ∧ shr (bAt L (s.getD i 0)) (bAt L (s.getD j 0)) = false := by
  unfold isS at h
  simp only [List.all_eq_true, List.mem_range, Bool.and_eq_true] at h
  have := (h j hj).2
  simp only [fitS, Bool.and_eq_true, List.all_eq_true] at this
  have := this.1 (s.getD i 0) (by
    rw [List.mem_iff_getElem?]
    refine ⟨i, ?_⟩
    rw [List.getElem?_take_of_lt hij, List.getElem?_eq_getElem (by omega), List.getD_eq_getElem?_getD, List.getElem?_eq_getElem (by omega)]; rfl)
  simp only [apB, Bool.and_eq_true, decide_eq_true_eq, Bool.not_eq_true'] at this
  exact ⟨this.1.1, this.1.2, this.2⟩
theorem isS_at {r : Int → Bool} {L : List Bi} {s : List Int} (h : isS r L s = true) {j : Nat} (hj : j < s.length) : 0 ≤ s.getD j 0 ∧ s.getD j 0 < L.length ∧ (bAt L (s.getD j 0)).bs.all r = true := by
  unfold isS at h
  simp only [List.all_eq_true, List.mem_range, Bool.and_eq_true, inR_iff, fitS] at h
  have := h j hj
  exact ⟨by omega, by omega, by simpa using this.2.2⟩
theorem few : ∀ {n : Nat} {l : List Int}, (l.Pairwise fun a b => a ≠ b) → (∀ x ∈ l, 0 ≤ x ∧ x < n) → l.length ≤ n
  | 0, [], _, _ => Nat.le_refl _
  | 0, x :: l, _, h => by have := h x (by simp); omega
  | n + 1, l, hp, h => by
    have h1 : (l.filter fun x => decide (x ≠ (n : Int))).length ≤ n := few (hp.filter _) fun x hx => by
      simp only [List.mem_filter, decide_eq_true_eq] at hx
      have := h x hx.1; omega
    have h2 : ∀ {l : List Int}, (l.Pairwise fun a b => a ≠ b) → l.length ≤ (l.filter fun x => decide (x ≠ (n : Int))).length + 1 := by
      intro l hp
      induction l with
      | nil => simp
      | cons a l ih =>
        obtain ⟨p1, p2⟩ := List.pairwise_cons.1 hp
        by_cases e : a = (n : Int)
        · have : (l.filter fun x => decide (x ≠ (n : Int))) = l := List.filter_eq_self.2 fun x hx => by
            have := p1 x hx; simp; rintro rfl; exact this e
          rw [List.filter_cons_of_neg (by simp [e]), this]; simp
        · rw [List.filter_cons_of_pos (by simp [e])]
          have := ih p2
          simp only [List.length_cons]; omega
    have := h2 hp
    omega
theorem pair_of {α : Type} {l : List α} {d : α} {R : α → α → Prop} (h : ∀ i j, i < j → j < l.length → R (l.getD i d) (l.getD j d)) : l.Pairwise R := by
  rw [List.pairwise_iff_getElem]
  intro i j hi hj hij
  have := h i j hij hj
  simpa [List.getD_eq_getElem?_getD, List.getElem?_eq_getElem hi, List.getElem?_eq_getElem hj] using this
structure BG (n : Int) (nb : Nat) (L : List Bi) : Prop where
  l : L.length ≤ 8
  nn : 0 ≤ n ∧ n ≤ 4
  u : ∀ i : Nat, i < L.length → 0 ≤ (L.getD i default).u ∧ (L.getD i default).u < n
  c : ∀ i : Nat, i < L.length → 0 ≤ (L.getD i default).c ∧ (L.getD i default).c ≤ 99
  b : ∀ i : Nat, i < L.length → (L.getD i default).bs ≠ [] ∧ (L.getD i default).bs.length ≤ nb ∧ ∀ x ∈ (L.getD i default).bs, 0 ≤ x ∧ x < nb
theorem BG.at {n : Int} {nb : Nat} {L : List Bi} (G : BG n nb L) {i : Int} (h0 : 0 ≤ i) (h : i < L.length) : 0 ≤ (bAt L i).u ∧ (bAt L i).u < n ∧ 0 ≤ (bAt L i).c ∧ (bAt L i).c ≤ 99 ∧ (bAt L i).bs ≠ [] ∧ ∀ x ∈ (bAt L i).bs, 0 ≤ x ∧ x < nb := by
  have hi : i.toNat < L.length := by omega
  exact ⟨(G.u _ hi).1, (G.u _ hi).2, (G.c _ hi).1, (G.c _ hi).2, (G.b _ hi).1, (G.b _ hi).2.2⟩
theorem isS_len {r : Int → Bool} {L : List Bi} {n : Int} {nb : Nat} (G : BG n nb L) {s : List Int} (h : isS r L s = true) : (s.length : Int) ≤ n ∧ s.length ≤ ((upto nb).filter r).length := by
  constructor
  · have := few (n := n.toNat) (l := s.map fun i => (bAt L i).u) (by
      rw [List.pairwise_map]
      exact pair_of (d := 0) fun i j hij hj => (isS_pair h hij hj).2.1) (fun x hx => by
      obtain ⟨i, hi, rfl⟩ := List.mem_map.1 hx
      obtain ⟨j, hj, rfl⟩ := mem_getD (d := 0) hi
      obtain ⟨a, b, _⟩ := isS_at h hj
      have := G.at a b
      have := G.nn
      omega)
    have := G.nn
    simp at *; omega
  · -- the first barrel of each bid
    have hd : ∀ i ∈ s, 0 ≤ i ∧ i < L.length ∧ (bAt L i).bs.all r = true := fun i hi => by
      obtain ⟨j, hj, rfl⟩ := mem_getD (d := 0) hi
      exact isS_at h hj
    have key : ∀ (l : List Int), (l.Pairwise fun a b => a ≠ b) → ∀ (m : List Int), (∀ x ∈ l, x ∈ m) → l.length ≤ m.length := by
      intro l
      induction l with
      | nil => intro _ m _; simp
      | cons a l ih =>
        intro hp m hm
        obtain ⟨p1, p2⟩ := List.pairwise_cons.1 hp
        have ha := hm a (by simp)
        have := ih p2 (m.erase a) fun x hx => (List.mem_erase_of_ne (Ne.symm (p1 x hx))).2 (hm x (by simp [hx]))
        rw [List.length_erase_of_mem ha] at this
        have : 0 < m.length := List.length_pos_of_mem ha
        simp only [List.length_cons]; omega
    have := key (s.map fun i => (bAt L i).bs.headD 0) (by
      rw [List.pairwise_map]
      refine pair_of (d := 0) fun i j hij hj => ?_
      obtain ⟨_, _, h3⟩ := isS_pair h hij hj
      have gi := hd _ (getD_memI (by omega : i < s.length))
      have gj := hd _ (getD_memI hj)
      have ni := (G.at gi.1 gi.2.1).2.2.2.2.1
      have nj := (G.at gj.1 gj.2.1).2.2.2.2.1
      intro e
      have hd0 : ∀ {l : List Int}, l ≠ [] → l.headD 0 ∈ l := fun {l} h => by cases l <;> simp at h ⊢
      simp only [shr, List.any_eq_false, decide_eq_true_eq] at h3
      refine h3 _ (hd0 nj) ?_
      rw [← e]; exact hd0 ni) ((upto nb).filter r) (fun x hx => by
      obtain ⟨i, hi, rfl⟩ := List.mem_map.1 hx
      obtain ⟨a, b, c⟩ := hd i hi
      have g := (G.at a b).2.2.2.2
      have hx : (bAt L i).bs.headD 0 ∈ (bAt L i).bs := by
        revert g; cases (bAt L i).bs <;> simp
      simp only [List.mem_filter, upto, List.mem_map, List.mem_range]
      have := g.2 _ hx
      exact ⟨⟨((bAt L i).bs.headD 0).toNat, by omega, by omega⟩, List.all_eq_true.1 c _ hx⟩)
    simpa using this
theorem isS_lenL {r : Int → Bool} {L : List Bi} {s : List Int} (h : isS r L s = true) : s.length ≤ L.length :=
  few (pair_of (d := 0) fun i j hij hj => by have := (isS_pair h hij hj).1; omega) fun x hx => by
    obtain ⟨j, hj, rfl⟩ := mem_getD (d := 0) hx
    have := isS_at h hj; omega
theorem mem_allS {r : Int → Bool} {L : List Bi} {s : List Int} : s ∈ allS r L ↔ isS r L s = true := by
  simp only [allS, salT, List.mem_flatMap, List.mem_range, mem_sals]
  constructor
  · rintro ⟨_, _, h, _⟩; exact h
  · intro h; exact ⟨s.length, by have := isS_lenL h; omega, h, rfl⟩
theorem nil_mem {r : Int → Bool} {L : List Bi} : [] ∈ allS r L := mem_allS.2 isS_nil
def prc (L : List Bi) (s : List Int) : Int := sm (s.map fun i => (bAt L i).c)
theorem prc_snoc {L : List Bi} {s : List Int} {c : Int} : prc L (s ++ [c]) = prc L s + (bAt L c).c := by simp [prc, sm_app, sm]
theorem prc_bd {L : List Bi} {n : Int} {nb : Nat} (G : BG n nb L) : ∀ {s : List Int}, (∀ x ∈ s, 0 ≤ x ∧ x < L.length) → 0 ≤ prc L s ∧ prc L s ≤ 99 * s.length
  | [], _ => by simp [prc, sm]
  | x :: s, h => by
    have ih := prc_bd G (s := s) fun y hy => h y (by simp [hy])
    have hx := h x (by simp)
    have := G.at hx.1 hx.2
    simp only [prc, List.map_cons, sm, List.length_cons] at ih ⊢
    omega
theorem sale_bd {r : Int → Bool} {L : List Bi} {n : Int} {nb : Nat} (G : BG n nb L) {s : List Int} (h : isS r L s = true) : 0 ≤ prc L s ∧ prc L s ≤ 396 := by
  have := prc_bd G (s := s) fun x hx => by
    obtain ⟨j, hj, rfl⟩ := mem_getD (d := 0) hx
    have := isS_at h hj; exact ⟨this.1, this.2.1⟩
  have h1 := (isS_len G h).1
  have := G.nn
  omega
def bsF (L : List Bi) (p : List Int → Bool) (x : List Int × Int) (s : List Int) : List Int × Int := if x.2 < prc L s ∧ p s = true then (s, prc L s) else x
def bsT (L : List Bi) (p : List Int → Bool) (l : List (List Int)) : List Int × Int := l.foldl (bsF L p) ([], -1)
theorem bsT_snoc {L : List Bi} {p : List Int → Bool} {l : List (List Int)} {s : List Int} : bsT L p (l ++ [s]) = bsF L p (bsT L p l) s := by simp [bsT, List.foldl_append]
theorem bsT_spec {L : List Bi} {p : List Int → Bool} (l : List (List Int)) (h0 : ∀ s ∈ l, 0 ≤ prc L s) : (∀ s ∈ l, p s = true → prc L s ≤ (bsT L p l).2) ∧ (((bsT L p l).2 = -1 ∧ (bsT L p l).1 = [] ∧ ∀ s ∈ l, p s = false) ∨ (∃ a b, l = a ++ (bsT L p l).1 :: b ∧ p (bsT L p l).1 = true ∧ (bsT L p l).2 = prc L (bsT L p l).1 ∧ ∀ s ∈ a, p s = true → prc L s < (bsT L p l).2)) := by
  induction l using snocRec with
  | nil => exact ⟨by simp, .inl ⟨rfl, rfl, by simp⟩⟩
  | snoc l s ih =>
    obtain ⟨i1, i2⟩ := ih fun x hx => h0 x (by simp [hx])
    have hs := h0 s (by simp)
    rw [bsT_snoc]
    unfold bsF
    split
    · rename_i hc
      refine ⟨fun x hx hp => ?_, .inr ⟨l, [], rfl, hc.2, rfl, fun x hx hp => ?_⟩⟩
      · rcases List.mem_append.1 hx with hx | hx
        · have := i1 x hx hp; omega
        · simp at hx; subst hx; exact Int.le_refl _
      · have := i1 x hx hp; omega
    · rename_i hc
      refine ⟨fun x hx hp => ?_, ?_⟩
      · rcases List.mem_append.1 hx with hx | hx
        · exact i1 x hx hp
        · simp at hx; subst hx
          rcases Int.lt_or_le (bsT L p l).2 (prc L x) with h | h
          · exact absurd ⟨h, hp⟩ hc
          · exact h
      · rcases i2 with ⟨e1, e2, e3⟩ | ⟨a, b, e1, e2, e3, e4⟩
        · refine .inl ⟨e1, e2, fun x hx => ?_⟩
          rcases List.mem_append.1 hx with hx | hx
          · exact e3 x hx
          · simp at hx; subst hx
            cases hp : p x
            · rfl
            · exact absurd ⟨by omega, hp⟩ hc
        · exact .inr ⟨a, b ++ [s], by rw [← List.cons_append, ← List.append_assoc, ← e1], e2, e3, e4⟩
end Go.Proofs.YtfagcnokdnanpaaGreat.S
/-
Fairs as values; lists that are looked through (sales).
-/
namespace Go.Proofs.YtfagcnokdnanpaaGreat.S
open Go Go.Am Go.Proofs.YtfagcnokdnanpaaGreat.T
set_option maxRecDepth 100000
set_option linter.unusedSimpArgs false
set_option linter.unusedVariables false
structure Bd where
  b : Bi
  v : AV
  is : IsSl 1 intL b.bs v
instance : Inhabited Bd := ⟨⟨default, .nils, .inr ⟨rfl, rfl⟩⟩⟩
def Bd.e (x : Bd) : List AV := [I x.b.u, x.v, I x.b.c]
theorem Bd.el (x : Bd) : x.e.length = 3 := rfl
structure BsIn (L : List Bi) (v : AV) (w : Nat → AV) : Prop where
  len : lenV v = some (I L.length)
  el : ∀ i : Int, 0 ≤ i → i < L.length → elemAt 3 v (I i) = some (.cptr [I (bAt L i).u, w i.toNat, I (bAt L i).c])
  iw : ∀ i, i < L.length → IsSl 1 intL (L.getD i default).bs (w i)
  sc : v.scalar = true
  ce : v.cells = [v]
  pu : v.pureV = true
  vw : ∀ (g : List AO) (n : Nat), view false g n v = some v
  un : ∀ n : Nat, v.under n = true
  sh : ∀ n : Nat, v.shift n = v
theorem sl_under {α : Type} {esz : Nat} {enc : α → List AV} {l : List α} {v : AV} (h : IsSl esz enc l v) (n : Nat) : v.under n = true := by
  rcases h with rfl | ⟨rfl, _⟩ <;> rfl
theorem sl_shift {α : Type} {esz : Nat} {enc : α → List AV} {l : List α} {v : AV} (h : IsSl esz enc l v) (n : Nat) : v.shift n = v := by
  rcases h with rfl | ⟨rfl, _⟩ <;> rfl
theorem BsIn.of {L : List Bd} {v : AV} (h : IsSl 3 Bd.e L v) : BsIn (L.map Bd.b) v (fun i => (L.getD i default).v) := by
  have hg : ∀ i : Nat, (L.map Bd.b).getD i default = (L.getD i default).b := fun i => by
    simp only [List.getD_eq_getElem?_getD, List.getElem?_map]
    cases L[i]? <;> rfl
  refine ⟨by rw [lenV_sl h, List.length_map], fun i h0 hi => ?_, fun i hi => by rw [hg]; exact (L.getD i default).is, scalar_sl h, cells_sl h, pure_sl h, fun g n => ?_, sl_under h, sl_shift h⟩
  · rw [elem_sl Bd.el h i h0 (by simpa using hi), bAt, hg]; rfl
  · rcases h with rfl | ⟨rfl, _⟩
    · exact view_cs
    · exact view_nils
structure Fs where
  h : Hs
  pk : List Int
  d : Int
  n : Int
  bids : List Bi
abbrev frV (f : Fs) (k p b pv bv : AV) : AV := .agg [k, I f.h.fl, p, b, pv, I f.d, I f.n, bv]
structure FsIn (f : Fs) (k p b pv bv : AV) (w : Nat → AV) : Prop where
  h : HsIn f.h k p b
  pk : IsSl 1 intL f.pk pv
  bi : BsIn f.bids bv w
structure FsOk (f : Fs) (k p b pv bv : AV) (w : Nat → AV) : Prop extends FsIn f k p b pv bv w where
  ho : HsOk f.h k p b
  np : f.pk.length ≤ 41
  nb : f.bids.length ≤ 41
  nw : ∀ i, i < f.bids.length → (f.bids.getD i default).bs.length ≤ 41
set_option linter.defProp false in
def FsIn.fai {f : Fs} {k p b pv bv : AV} {w : Nat → AV} (H : FsIn f k p b pv bv w) := And.intro (lenV_sl H.h.k) (And.intro (elem_kd H.h.k) (And.intro (view_sl H.h.k) (And.intro (scalar_sl H.h.k) (And.intro (cells_sl H.h.k) (And.intro (pure_sl H.h.k) (And.intro (lenV_sl H.h.p) (And.intro (elem_pr H.h.p) (And.intro (view_sl H.h.p) (And.intro (scalar_sl H.h.p) (And.intro (cells_sl H.h.p) (And.intro (pure_sl H.h.p) (And.intro (lenV_sl H.h.b) (And.intro (elem_in H.h.b) (And.intro (view_sl H.h.b) (And.intro (scalar_sl H.h.b) (And.intro (cells_sl H.h.b) (And.intro (pure_sl H.h.b) (And.intro (lenV_sl H.pk) (And.intro (view_sl H.pk) (And.intro (scalar_sl H.pk) (And.intro (cells_sl H.pk) (And.intro (pure_sl H.pk) (And.intro (H.bi.len) (And.intro (H.bi.sc) (And.intro (H.bi.ce) (And.intro (H.bi.pu) (H.bi.vw)))))))))))))))))))))))))))
theorem t90 (n lo hi : Int) (st : Bool) : Iso E 90 [I n, I lo, I hi] st = some (Bo (inR n lo hi)) := by
  refine Iso_of (es _ _ _ _) e90 ?_
  simp only [f90, inR]
  simp (disch := first | assumption | omega | (simp only [az]; done)) only [ru, eq_self, if_true, if_false, BEq.rfl, binI, AO.row?, splice, fillL, mmAll, loadV, storeV, zeros, Am.rowAt, Am.part, addOff, Nat.reduceAdd, Nat.reduceMul, Nat.reduceLeDiff, Nat.reduceSub, Nat.reduceLT, Int.reduceEq, Int.reduceLT, Int.reduceLE, Int.reduceGT, Int.reduceGE, Int.reduceAdd, Int.reduceSub, Int.reduceMul, Int.reduceNeg, Int.reduceToNat, reduceCtorEq, reduceIte]
  by_cases h1 : lo ≤ n
  · simp (disch := first | assumption | omega | (simp only [az]; done)) only [ru, eq_self, if_true, if_false, BEq.rfl, binI, AO.row?, splice, fillL, mmAll, loadV, storeV, zeros, Am.rowAt, Am.part, addOff, Nat.reduceAdd, Nat.reduceMul, Nat.reduceLeDiff, Nat.reduceSub, Nat.reduceLT, Int.reduceEq, Int.reduceLT, Int.reduceLE, Int.reduceGT, Int.reduceGE, Int.reduceAdd, Int.reduceSub, Int.reduceMul, Int.reduceNeg, Int.reduceToNat, reduceCtorEq, reduceIte, h1]
  · simp (disch := first | assumption | omega | (simp only [az]; done)) only [ru, eq_self, if_true, if_false, BEq.rfl, binI, AO.row?, splice, fillL, mmAll, loadV, storeV, zeros, Am.rowAt, Am.part, addOff, Nat.reduceAdd, Nat.reduceMul, Nat.reduceLeDiff, Nat.reduceSub, Nat.reduceLT, Int.reduceEq, Int.reduceLT, Int.reduceLE, Int.reduceGT, Int.reduceGE, Int.reduceAdd, Int.reduceSub, Int.reduceMul, Int.reduceNeg, Int.reduceToNat, reduceCtorEq, reduceIte, h1]
theorem t68 (n lo hi : Int) (st : Bool) : Iso E 68 [I n, I lo, I hi] st = some (Bo (inR n lo hi)) := by
  refine Iso_of (es _ _ _ _) e68 ?_
  simp only [f68]
  simp (disch := first | assumption | omega | (simp only [az]; done)) only [ru, eq_self, if_true, if_false, BEq.rfl, binI, AO.row?, splice, fillL, mmAll, loadV, storeV, zeros, Am.rowAt, Am.part, addOff, Nat.reduceAdd, Nat.reduceMul, Nat.reduceLeDiff, Nat.reduceSub, Nat.reduceLT, Int.reduceEq, Int.reduceLT, Int.reduceLE, Int.reduceGT, Int.reduceGE, Int.reduceAdd, Int.reduceSub, Int.reduceMul, Int.reduceNeg, Int.reduceToNat, reduceCtorEq, reduceIte, s57]
theorem flat1_get : ∀ {l : List Int} {i : Nat}, i < l.length → (l.flatMap intL)[i]? = some (I (l.getD i 0))
  | [], i, h => by simp at h
  | a :: l, 0, _ => rfl
  | a :: l, i + 1, h => by
    rw [List.flatMap_cons]
    show (intL a ++ l.flatMap intL)[i + 1]? = _
    rw [List.getElem?_append_right (by simp)]
    simpa using flat1_get (l := l) (i := i) (by simpa using h)
set_option maxHeartbeats 1000000 in
theorem ixC {L : List Int} {v : AV} {h : List AO} (H : IsSl 1 intL L v) (hl : L.length ≤ 41) {q : Int → Bool} {k : Nat} {cap : List AV} (hq : ∀ x ∈ L, Ro E k (I x :: cap) h = some (Bo (q x))) :
    ∃ j : Int, Ro E 105 [v, .fn k [] cap] h = some (I j) ∧ ((j = -1 ∧ L.any q = false) ∨ ∃ i : Nat, j = i ∧ i < L.length ∧ q (L.getD i 0) = true ∧ L.any q = true) := by
  refine (fun x => ?_ : (∃ w, Ro E 105 [v, .fn k [] cap] h = some w ∧ ∃ j : Int, w = I j ∧ ((j = -1 ∧ L.any q = false) ∨ ∃ i : Nat, j = i ∧ i < L.length ∧ q (L.getD i 0) = true ∧ L.any q = true)) → _) (Ro_ex (fun r => ∃ j : Int, r = I j ∧ ((j = -1 ∧ L.any q = false) ∨ ∃ i : Nat, j = i ∧ i < L.length ∧ q (L.getD i 0) = true ∧ L.any q = true)) (by rintro _ ⟨j, rfl, _⟩; rfl) (es _ _ _ _) e105 ?_)
  · obtain ⟨w, hv, j, rfl, hj⟩ := x; exact ⟨j, hv, hj⟩
  have ep := elem_in H
  simp only [f105]
  simp (disch := first | assumption | omega | (simp only [az]; done)) only [ru, eq_self, if_true, if_false, BEq.rfl, binI, AO.row?, splice, fillL, mmAll, loadV, storeV, zeros, Am.rowAt, Am.part, addOff, Nat.reduceAdd, Nat.reduceMul, Nat.reduceLeDiff, Nat.reduceSub, Nat.reduceLT, Int.reduceEq, Int.reduceLT, Int.reduceLE, Int.reduceGT, Int.reduceGE, Int.reduceAdd, Int.reduceSub, Int.reduceMul, Int.reduceNeg, Int.reduceToNat, reduceCtorEq, reduceIte, lenV_sl H]
  refine G_loop_ind (fun m ts hh mk => ∃ i : Nat, i ≤ L.length ∧ m = L.length - i ∧ (L.take i).any q = false ∧ ts.length = 19 ∧ ts.getD 0 .undef = v ∧ ts.getD 1 .undef = .fn k [] cap ∧ ts.getD 7 .undef = I L.length ∧ ts.getD 8 .undef = I i ∧ hh = h ∧ mk = []) ?_ _ _ _ _
    ⟨0, Nat.zero_le _, rfl, rfl, rfl, rfl, rfl, rfl, rfl, rfl, rfl⟩
  rintro m ts hh mk ih ⟨i, hi, rfl, hall, hl', q0, q1, q7, q8, rfl, rfl⟩
  rw [lit_all hl']
  simp only [lit0, litS, Nat.reduceAdd, q0, q1, q7, q8]
  simp (disch := first | assumption | omega | (simp only [az]; done)) only [ru, eq_self, if_true, if_false, BEq.rfl, binI, AO.row?, splice, fillL, mmAll, loadV, storeV, zeros, Am.rowAt, Am.part, addOff, Nat.reduceAdd, Nat.reduceMul, Nat.reduceLeDiff, Nat.reduceSub, Nat.reduceLT, Int.reduceEq, Int.reduceLT, Int.reduceLE, Int.reduceGT, Int.reduceGE, Int.reduceAdd, Int.reduceSub, Int.reduceMul, Int.reduceNeg, Int.reduceToNat, reduceCtorEq, reduceIte]
  by_cases hlt : (i : Int) < L.length
  case pos =>
    have hi' : i < L.length := by omega
    have nx := any_upto_succ (d := 0) hi' hall
    have ya := any_at (d := 0) (q := q) hi'
    have hmem : L.getD i 0 ∈ L := getD_memI hi'
    obtain ⟨x, hx⟩ : ∃ x, x = L.getD i 0 := ⟨_, rfl⟩
    have hr := hq x (by rw [hx]; exact hmem)
    rw [← hx] at nx ya 
    cases hc : q x
    · rw [hc] at hr
      simp (disch := first | assumption | omega | (simp only [az]; done)) only [ru, eq_self, if_true, if_false, BEq.rfl, binI, AO.row?, splice, fillL, mmAll, loadV, storeV, zeros, Am.rowAt, Am.part, addOff, Nat.reduceAdd, Nat.reduceMul, Nat.reduceLeDiff, Nat.reduceSub, Nat.reduceLT, Int.reduceEq, Int.reduceLT, Int.reduceLE, Int.reduceGT, Int.reduceGE, Int.reduceAdd, Int.reduceSub, Int.reduceMul, Int.reduceNeg, Int.reduceToNat, reduceCtorEq, reduceIte, hlt, ep, Int.toNat_natCast, ← hx, exOp_callv1, List.nil_append, List.cons_append, hr]
      exact ih (L.length - (i + 1)) _ _ _ (by omega) ⟨i + 1, by omega, rfl, nx hc, rfl, rfl, rfl, rfl, rfl, rfl, rfl⟩
    · rw [hc] at hr
      simp (disch := first | assumption | omega | (simp only [az]; done)) only [ru, eq_self, if_true, if_false, BEq.rfl, binI, AO.row?, splice, fillL, mmAll, loadV, storeV, zeros, Am.rowAt, Am.part, addOff, Nat.reduceAdd, Nat.reduceMul, Nat.reduceLeDiff, Nat.reduceSub, Nat.reduceLT, Int.reduceEq, Int.reduceLT, Int.reduceLE, Int.reduceGT, Int.reduceGE, Int.reduceAdd, Int.reduceSub, Int.reduceMul, Int.reduceNeg, Int.reduceToNat, reduceCtorEq, reduceIte, hlt, ep, Int.toNat_natCast, ← hx, exOp_callv1, List.nil_append, List.cons_append, hr]
      exact ⟨i, rfl, .inr ⟨i, rfl, hi', by rw [← hx]; exact hc, ya hc⟩⟩
  obtain rfl : i = L.length := by omega
  rw [List.take_length] at hall
  simp (disch := first | assumption | omega | (simp only [az]; done)) only [ru, eq_self, if_true, if_false, BEq.rfl, binI, AO.row?, splice, fillL, mmAll, loadV, storeV, zeros, Am.rowAt, Am.part, addOff, Nat.reduceAdd, Nat.reduceMul, Nat.reduceLeDiff, Nat.reduceSub, Nat.reduceLT, Int.reduceEq, Int.reduceLT, Int.reduceLE, Int.reduceGT, Int.reduceGE, Int.reduceAdd, Int.reduceSub, Int.reduceMul, Int.reduceNeg, Int.reduceToNat, reduceCtorEq, reduceIte, hlt]
  exact ⟨-1, rfl, .inl ⟨rfl, hall⟩⟩
theorem cfC {L : List Int} {v : AV} {h : List AO} (H : IsSl 1 intL L v) (hl : L.length ≤ 41) {q : Int → Bool} {k : Nat} {cap : List AV} (hq : ∀ x ∈ L, Ro E k (I x :: cap) h = some (Bo (q x))) : Ro E 107 [v, .fn k [] cap] h = some (Bo (L.any q)) := by
  obtain ⟨j, hr, hj⟩ := ixC H hl hq
  have e : decide (j ≥ 0) = L.any q := by
    rcases hj with ⟨rfl, e⟩ | ⟨i, rfl, _, _, e⟩
    · rw [e]; rfl
    · rw [e]; simp
  refine Ro_of (es _ _ _ _) e107 ?_
  simp only [f107]
  simp (disch := first | assumption | omega | (simp only [az]; done)) only [ru, eq_self, if_true, if_false, BEq.rfl, binI, AO.row?, splice, fillL, mmAll, loadV, storeV, zeros, Am.rowAt, Am.part, addOff, Nat.reduceAdd, Nat.reduceMul, Nat.reduceLeDiff, Nat.reduceSub, Nat.reduceLT, Int.reduceEq, Int.reduceLT, Int.reduceLE, Int.reduceGT, Int.reduceGE, Int.reduceAdd, Int.reduceSub, Int.reduceMul, Int.reduceNeg, Int.reduceToNat, reduceCtorEq, reduceIte, hr]
  rw [e]; exact ⟨rfl, rfl⟩
set_option maxHeartbeats 1000000 in
theorem ixM {L : List Int} {n qo : Nat} {h : List AO} (H : Lq n h qo L) (hl : L.length ≤ 41) {q : Int → Bool} {k : Nat} {cap : List AV} (hq : ∀ x ∈ L, Ro E k (I x :: cap) h = some (Bo (q x))) :
    ∃ j : Int, Ro E 105 [.mr 1 qo 0 L.length n, .fn k [] cap] h = some (I j) ∧ ((j = -1 ∧ L.any q = false) ∨ ∃ i : Nat, j = i ∧ i < L.length ∧ q (L.getD i 0) = true ∧ L.any q = true) := by
  refine (fun x => ?_ : (∃ w, Ro E 105 [.mr 1 qo 0 L.length n, .fn k [] cap] h = some w ∧ ∃ j : Int, w = I j ∧ ((j = -1 ∧ L.any q = false) ∨ ∃ i : Nat, j = i ∧ i < L.length ∧ q (L.getD i 0) = true ∧ L.any q = true)) → _) (Ro_ex (fun r => ∃ j : Int, r = I j ∧ ((j = -1 ∧ L.any q = false) ∨ ∃ i : Nat, j = i ∧ i < L.length ∧ q (L.getD i 0) = true ∧ L.any q = true)) (by rintro _ ⟨j, rfl, _⟩; rfl) (es _ _ _ _) e105 ?_)
  · obtain ⟨w, hv, j, rfl, hj⟩ := x; exact ⟨j, hv, hj⟩
  obtain ⟨C, hC, lC, tC⟩ := H
  simp only [f105]
  simp (disch := first | assumption | omega | (simp only [az]; done)) only [ru, eq_self, if_true, if_false, BEq.rfl, binI, AO.row?, splice, fillL, mmAll, loadV, storeV, zeros, Am.rowAt, Am.part, addOff, Nat.reduceAdd, Nat.reduceMul, Nat.reduceLeDiff, Nat.reduceSub, Nat.reduceLT, Int.reduceEq, Int.reduceLT, Int.reduceLE, Int.reduceGT, Int.reduceGE, Int.reduceAdd, Int.reduceSub, Int.reduceMul, Int.reduceNeg, Int.reduceToNat, reduceCtorEq, reduceIte, rmr]
  refine G_loop_ind (fun m ts hh mk => ∃ i : Nat, i ≤ L.length ∧ m = L.length - i ∧ (L.take i).any q = false ∧ ts.length = 19 ∧ ts.getD 0 .undef = .mr 1 qo 0 L.length n ∧ ts.getD 1 .undef = .fn k [] cap ∧ ts.getD 7 .undef = I L.length ∧ ts.getD 8 .undef = I i ∧ hh = h ∧ mk = []) ?_ _ _ _ _
    ⟨0, Nat.zero_le _, rfl, rfl, rfl, rfl, rfl, rfl, rfl, rfl, rfl⟩
  rintro m ts hh mk ih ⟨i, hi, rfl, hall, hl', q0, q1, q7, q8, rfl, rfl⟩
  rw [lit_all hl']
  simp only [lit0, litS, Nat.reduceAdd, q0, q1, q7, q8]
  simp (disch := first | assumption | omega | (simp only [az]; done)) only [ru, eq_self, if_true, if_false, BEq.rfl, binI, AO.row?, splice, fillL, mmAll, loadV, storeV, zeros, Am.rowAt, Am.part, addOff, Nat.reduceAdd, Nat.reduceMul, Nat.reduceLeDiff, Nat.reduceSub, Nat.reduceLT, Int.reduceEq, Int.reduceLT, Int.reduceLE, Int.reduceGT, Int.reduceGE, Int.reduceAdd, Int.reduceSub, Int.reduceMul, Int.reduceNeg, Int.reduceToNat, reduceCtorEq, reduceIte]
  by_cases hlt : (i : Int) < L.length
  case pos =>
    have hi' : i < L.length := by omega
    have nx := any_upto_succ (d := 0) hi' hall
    have ya := any_at (d := 0) (q := q) hi'
    have hmem : L.getD i 0 ∈ L := getD_memI hi'
    have ep : elemAt 1 (.mr 1 qo 0 L.length n) (I i) = some (.ptr qo (0 + (i : Int).toNat * 1)) := by simp [elemAt, hlt]
    have eg : C[i]? = some (I (L.getD i 0)) := by
      have e1 : (C.take L.length)[i]? = C[i]? := List.getElem?_take_of_lt hi'
      rw [← e1, tC, flat1_get hi']
    have dr : (C.drop i).head? = some (I (L.getD i 0)) := by rw [List.head?_drop]; exact eg
    obtain ⟨x, hx⟩ : ∃ x, x = L.getD i 0 := ⟨_, rfl⟩
    have hr := hq x (by rw [hx]; exact hmem)
    rw [← hx] at nx ya dr
    cases hc : q x
    · rw [hc] at hr
      simp (disch := first | assumption | omega | (simp only [az]; done)) only [ru, eq_self, if_true, if_false, BEq.rfl, binI, AO.row?, splice, fillL, mmAll, loadV, storeV, zeros, Am.rowAt, Am.part, addOff, Nat.reduceAdd, Nat.reduceMul, Nat.reduceLeDiff, Nat.reduceSub, Nat.reduceLT, Int.reduceEq, Int.reduceLT, Int.reduceLE, Int.reduceGT, Int.reduceGE, Int.reduceAdd, Int.reduceSub, Int.reduceMul, Int.reduceNeg, Int.reduceToNat, reduceCtorEq, reduceIte, hlt, rmr, ep, hC, dr, Nat.zero_add, Nat.mul_one, Int.toNat_natCast, ← hx, exOp_callv1, List.nil_append, List.cons_append, hr]
      exact ih (L.length - (i + 1)) _ _ _ (by omega) ⟨i + 1, by omega, rfl, nx hc, rfl, rfl, rfl, rfl, rfl, rfl, rfl⟩
    · rw [hc] at hr
      simp (disch := first | assumption | omega | (simp only [az]; done)) only [ru, eq_self, if_true, if_false, BEq.rfl, binI, AO.row?, splice, fillL, mmAll, loadV, storeV, zeros, Am.rowAt, Am.part, addOff, Nat.reduceAdd, Nat.reduceMul, Nat.reduceLeDiff, Nat.reduceSub, Nat.reduceLT, Int.reduceEq, Int.reduceLT, Int.reduceLE, Int.reduceGT, Int.reduceGE, Int.reduceAdd, Int.reduceSub, Int.reduceMul, Int.reduceNeg, Int.reduceToNat, reduceCtorEq, reduceIte, hlt, rmr, ep, hC, dr, Nat.zero_add, Nat.mul_one, Int.toNat_natCast, ← hx, exOp_callv1, List.nil_append, List.cons_append, hr]
      exact ⟨i, rfl, .inr ⟨i, rfl, hi', by rw [← hx]; exact hc, ya hc⟩⟩
  obtain rfl : i = L.length := by omega
  rw [List.take_length] at hall
  simp (disch := first | assumption | omega | (simp only [az]; done)) only [ru, eq_self, if_true, if_false, BEq.rfl, binI, AO.row?, splice, fillL, mmAll, loadV, storeV, zeros, Am.rowAt, Am.part, addOff, Nat.reduceAdd, Nat.reduceMul, Nat.reduceLeDiff, Nat.reduceSub, Nat.reduceLT, Int.reduceEq, Int.reduceLT, Int.reduceLE, Int.reduceGT, Int.reduceGE, Int.reduceAdd, Int.reduceSub, Int.reduceMul, Int.reduceNeg, Int.reduceToNat, reduceCtorEq, reduceIte, hlt]
  exact ⟨-1, rfl, .inl ⟨rfl, hall⟩⟩
theorem cfM {L : List Int} {n qo : Nat} {h : List AO} (H : Lq n h qo L) (hl : L.length ≤ 41) {q : Int → Bool} {k : Nat} {cap : List AV} (hq : ∀ x ∈ L, Ro E k (I x :: cap) h = some (Bo (q x))) : Ro E 107 [.mr 1 qo 0 L.length n, .fn k [] cap] h = some (Bo (L.any q)) := by
  obtain ⟨j, hr, hj⟩ := ixM H hl hq
  have e : decide (j ≥ 0) = L.any q := by
    rcases hj with ⟨rfl, e⟩ | ⟨i, rfl, _, _, e⟩
    · rw [e]; rfl
    · rw [e]; simp
  refine Ro_of (es _ _ _ _) e107 ?_
  simp only [f107]
  simp (disch := first | assumption | omega | (simp only [az]; done)) only [ru, eq_self, if_true, if_false, BEq.rfl, binI, AO.row?, splice, fillL, mmAll, loadV, storeV, zeros, Am.rowAt, Am.part, addOff, Nat.reduceAdd, Nat.reduceMul, Nat.reduceLeDiff, Nat.reduceSub, Nat.reduceLT, Int.reduceEq, Int.reduceLT, Int.reduceLE, Int.reduceGT, Int.reduceGE, Int.reduceAdd, Int.reduceSub, Int.reduceMul, Int.reduceNeg, Int.reduceToNat, reduceCtorEq, reduceIte, hr]
  rw [e]; exact ⟨rfl, rfl⟩
theorem t137 {q : Int → Bool} {c : Nat} {cap : List AV} {x : Int} {o : Nat} {h : List AO} (ho : h[o]? = some (.cells [.fn c [] cap] false)) (hq : ∀ X, Ro E c (I x :: cap) (h ++ X) = some (Bo (q x))) : Ro E 137 [I x, .ptr o 0] h = some (Bo (!q x)) := by
  have ol := (List.getElem?_eq_some_iff.1 ho).1
  refine Ro_of (es _ _ _ _) e137 ?_
  simp only [f137]
  have h0 := hq []
  rw [List.append_nil] at h0
  simp (disch := first | assumption | omega | (simp only [az]; done)) only [ru, eq_self, if_true, if_false, BEq.rfl, binI, AO.row?, splice, fillL, mmAll, loadV, storeV, zeros, Am.rowAt, Am.part, addOff, Nat.reduceAdd, Nat.reduceMul, Nat.reduceLeDiff, Nat.reduceSub, Nat.reduceLT, Int.reduceEq, Int.reduceLT, Int.reduceLE, Int.reduceGT, Int.reduceGE, Int.reduceAdd, Int.reduceSub, Int.reduceMul, Int.reduceNeg, Int.reduceToNat, reduceCtorEq, reduceIte, atE, lenE, at_ap ol, ho, exOp_callv1, List.nil_append, List.cons_append, hq, h0]
  rfl
theorem eaC {L : List Int} {v : AV} {h : List AO} (H : IsSl 1 intL L v) (hl : L.length ≤ 41) {q : Int → Bool} {c : Nat} {cap : List AV} (hq : ∀ x ∈ L, ∀ X, Ro E c (I x :: cap) (h ++ X) = some (Bo (q x))) : Ro E 124 [v, .fn c [] cap] h = some (Bo (L.all q)) := by
  have hr := cfC (h := h ++ [.cells [.fn c [] cap] false]) H hl (q := fun x => !q x) (k := 137) (cap := [.ptr h.length 0]) fun x hx => t137 atE fun X => by rw [List.append_assoc]; exact hq x hx _
  have e : (!L.any fun x => !q x) = L.all q := any_all
  refine Ro_of (es _ _ _ _) e124 ?_
  simp only [f124]
  simp (disch := first | assumption | omega | (simp only [az]; done)) only [ru, eq_self, if_true, if_false, BEq.rfl, binI, AO.row?, splice, fillL, mmAll, loadV, storeV, zeros, Am.rowAt, Am.part, addOff, Nat.reduceAdd, Nat.reduceMul, Nat.reduceLeDiff, Nat.reduceSub, Nat.reduceLT, Int.reduceEq, Int.reduceLT, Int.reduceLE, Int.reduceGT, Int.reduceGE, Int.reduceAdd, Int.reduceSub, Int.reduceMul, Int.reduceNeg, Int.reduceToNat, reduceCtorEq, reduceIte, lenV_sl H, view_sl H, scalar_sl H, cells_sl H, pure_sl H, hr, e]
  rfl
theorem eaM {L : List Int} {n qo : Nat} {h : List AO} (H : Lq n h qo L) (hl : L.length ≤ 41) {q : Int → Bool} {c : Nat} {cap : List AV} (hq : ∀ x ∈ L, ∀ X, Ro E c (I x :: cap) (h ++ X) = some (Bo (q x))) : Ro E 124 [.mr 1 qo 0 L.length n, .fn c [] cap] h = some (Bo (L.all q)) := by
  have hr := cfM (h := h ++ [.cells [.fn c [] cap] false]) (H.fr (Fr.app h _)) hl (q := fun x => !q x) (k := 137) (cap := [.ptr h.length 0]) fun x hx => t137 atE fun X => by rw [List.append_assoc]; exact hq x hx _
  have e : (!L.any fun x => !q x) = L.all q := any_all
  refine Ro_of (es _ _ _ _) e124 ?_
  simp only [f124]
  simp (disch := first | assumption | omega | (simp only [az]; done)) only [ru, eq_self, if_true, if_false, BEq.rfl, binI, AO.row?, splice, fillL, mmAll, loadV, storeV, zeros, Am.rowAt, Am.part, addOff, Nat.reduceAdd, Nat.reduceMul, Nat.reduceLeDiff, Nat.reduceSub, Nat.reduceLT, Int.reduceEq, Int.reduceLT, Int.reduceLE, Int.reduceGT, Int.reduceGE, Int.reduceAdd, Int.reduceSub, Int.reduceMul, Int.reduceNeg, Int.reduceToNat, reduceCtorEq, reduceIte, rmr, hr, e]
  rfl
end Go.Proofs.YtfagcnokdnanpaaGreat.S
/-
What the program asks of a fair; lists that are searched.
-/
namespace Go.Proofs.YtfagcnokdnanpaaGreat.S
open Go Go.Am Go.Proofs.YtfagcnokdnanpaaGreat.T
set_option maxRecDepth 100000
set_option linter.unusedSimpArgs false
set_option linter.unusedVariables false
theorem t126 {L : List Int} {v : AV} (V : IsSl 1 intL L v) (hl : L.length ≤ 1000) (n : Int) (st : Bool) : ∃ j : Int, Iso E 126 [v, I n] st = some (I j) ∧ decide (j ≥ 0) = decide (n ∈ L) := by
  have key : ∃ r g, R E (.fn 126) [v, I n] [] 0 = some (r, g) ∧ ∃ j : Int, r = I j ∧ decide (j ≥ 0) = decide (n ∈ L) := by
    refine R_of _ (es _ _ _ _) e126 ?_
    simp only [f126]
    have ep := elem_in V
    simp (disch := first | assumption | omega | (simp only [az]; done)) only [ru, eq_self, if_true, if_false, BEq.rfl, binI, AO.row?, splice, fillL, mmAll, loadV, storeV, zeros, Am.rowAt, Am.part, addOff, Nat.reduceAdd, Nat.reduceMul, Nat.reduceLeDiff, Nat.reduceSub, Nat.reduceLT, Int.reduceEq, Int.reduceLT, Int.reduceLE, Int.reduceGT, Int.reduceGE, Int.reduceAdd, Int.reduceSub, Int.reduceMul, Int.reduceNeg, Int.reduceToNat, reduceCtorEq, reduceIte, lenV_sl V]
    refine G_loop_ind (fun m ts hh mk => ∃ i : Nat, i ≤ L.length ∧ m = L.length - i ∧ (L.take i).any (fun x => decide (n = x)) = false ∧ ts.length = 19 ∧ ts.getD 0 .undef = v ∧ ts.getD 1 .undef = I n ∧ ts.getD 7 .undef = I L.length ∧ ts.getD 8 .undef = I i ∧ hh = [] ∧ mk = []) ?_ _ _ _ _
      ⟨0, Nat.zero_le _, rfl, rfl, rfl, rfl, rfl, rfl, rfl, rfl, rfl⟩
    rintro m ts hh mk ih ⟨i, hi, rfl, hall, hl', q0, q1, q7, q8, rfl, rfl⟩
    rw [lit_all hl']
    simp only [lit0, litS, Nat.reduceAdd, q0, q1, q7, q8]
    simp (disch := first | assumption | omega | (simp only [az]; done)) only [ru, eq_self, if_true, if_false, BEq.rfl, binI, AO.row?, splice, fillL, mmAll, loadV, storeV, zeros, Am.rowAt, Am.part, addOff, Nat.reduceAdd, Nat.reduceMul, Nat.reduceLeDiff, Nat.reduceSub, Nat.reduceLT, Int.reduceEq, Int.reduceLT, Int.reduceLE, Int.reduceGT, Int.reduceGE, Int.reduceAdd, Int.reduceSub, Int.reduceMul, Int.reduceNeg, Int.reduceToNat, reduceCtorEq, reduceIte]
    by_cases hlt : (i : Int) < L.length
    case pos =>
      have hi' : i < L.length := by omega
      have nx := any_upto_succ (d := 0) (q := fun x => decide (n = x)) hi' hall
      have hmem : L.getD i 0 ∈ L := getD_memI hi'
      by_cases hc : n = L.getD i 0
      · have hb : (n == L.getD i 0) = true := by simp [hc]
        simp (disch := first | assumption | omega | (simp only [az]; done)) only [ru, eq_self, if_true, if_false, BEq.rfl, binI, AO.row?, splice, fillL, mmAll, loadV, storeV, zeros, Am.rowAt, Am.part, addOff, Nat.reduceAdd, Nat.reduceMul, Nat.reduceLeDiff, Nat.reduceSub, Nat.reduceLT, Int.reduceEq, Int.reduceLT, Int.reduceLE, Int.reduceGT, Int.reduceGE, Int.reduceAdd, Int.reduceSub, Int.reduceMul, Int.reduceNeg, Int.reduceToNat, reduceCtorEq, reduceIte, hlt, ep, Int.toNat_natCast, hb]
        refine ⟨i, rfl, ?_⟩
        have : n ∈ L := by rw [hc]; exact hmem
        simp [this]
      · have hb : (n == L.getD i 0) = false := by simpa using hc
        simp (disch := first | assumption | omega | (simp only [az]; done)) only [ru, eq_self, if_true, if_false, BEq.rfl, binI, AO.row?, splice, fillL, mmAll, loadV, storeV, zeros, Am.rowAt, Am.part, addOff, Nat.reduceAdd, Nat.reduceMul, Nat.reduceLeDiff, Nat.reduceSub, Nat.reduceLT, Int.reduceEq, Int.reduceLT, Int.reduceLE, Int.reduceGT, Int.reduceGE, Int.reduceAdd, Int.reduceSub, Int.reduceMul, Int.reduceNeg, Int.reduceToNat, reduceCtorEq, reduceIte, hlt, ep, Int.toNat_natCast, hb]
        exact ih (L.length - (i + 1)) _ _ _ (by omega) ⟨i + 1, by omega, rfl, nx (decide_eq_false hc), rfl, rfl, rfl, rfl, rfl, rfl, rfl⟩
    obtain rfl : i = L.length := by omega
    rw [List.take_length] at hall
    simp (disch := first | assumption | omega | (simp only [az]; done)) only [ru, eq_self, if_true, if_false, BEq.rfl, binI, AO.row?, splice, fillL, mmAll, loadV, storeV, zeros, Am.rowAt, Am.part, addOff, Nat.reduceAdd, Nat.reduceMul, Nat.reduceLeDiff, Nat.reduceSub, Nat.reduceLT, Int.reduceEq, Int.reduceLT, Int.reduceLE, Int.reduceGT, Int.reduceGE, Int.reduceAdd, Int.reduceSub, Int.reduceMul, Int.reduceNeg, Int.reduceToNat, reduceCtorEq, reduceIte, hlt]
    refine ⟨-1, rfl, ?_⟩
    have : ¬ n ∈ L := fun h => by
      rw [List.any_eq_false] at hall
      exact hall n h (by simp)
    simp [this]
  obtain ⟨r, g, hr, j, rfl, hj⟩ := key
  exact ⟨j, by simp only [Iso, hr]; rfl, hj⟩
theorem t103 {L : List Int} {v : AV} (V : IsSl 1 intL L v) (hl : L.length ≤ 1000) (n : Int) (st : Bool) : Iso E 103 [v, I n] st = some (Bo (decide (n ∈ L))) := by
  obtain ⟨j, hr, hj⟩ := t126 V hl n false
  refine Iso_of (es _ _ _ _) e103 ?_
  simp only [f103]
  simp (disch := first | assumption | omega | (simp only [az]; done)) only [ru, eq_self, if_true, if_false, BEq.rfl, binI, AO.row?, splice, fillL, mmAll, loadV, storeV, zeros, Am.rowAt, Am.part, addOff, Nat.reduceAdd, Nat.reduceMul, Nat.reduceLeDiff, Nat.reduceSub, Nat.reduceLT, Int.reduceEq, Int.reduceLT, Int.reduceLE, Int.reduceGT, Int.reduceGE, Int.reduceAdd, Int.reduceSub, Int.reduceMul, Int.reduceNeg, Int.reduceToNat, reduceCtorEq, reduceIte, lenV_sl V, view_sl V, scalar_sl V, cells_sl V, pure_sl V, hr]
  rw [hj]
theorem t112 {h : Hs} {k p b : AV} (H : HsOk h k p b) {l : List Int} {v : AV} (V : IsSl 1 intL l v) (hl : l.length ≤ 1000) (st : Bool) : Iso E 112 [hsV h.fl k p b, v] st = some (Bo (risB l 0 (h.bs.length - 1))) := by
  have nb := H.nb
  refine Iso_of (es _ _ _ _) e112 ?_
  simp only [f112, hsV]
  simp (disch := first | assumption | omega | (simp only [az]; done)) only [ru, eq_self, if_true, if_false, BEq.rfl, binI, AO.row?, splice, fillL, mmAll, loadV, storeV, zeros, Am.rowAt, Am.part, addOff, Nat.reduceAdd, Nat.reduceMul, Nat.reduceLeDiff, Nat.reduceSub, Nat.reduceLT, Int.reduceEq, Int.reduceLT, Int.reduceLE, Int.reduceGT, Int.reduceGE, Int.reduceAdd, Int.reduceSub, Int.reduceMul, Int.reduceNeg, Int.reduceToNat, reduceCtorEq, reduceIte, lenV_sl H.k, lenV_sl H.p, lenV_sl H.b, elem_kd H.k, elem_pr H.p, elem_in H.b, view_sl H.k, view_sl H.p, view_sl H.b, scalar_sl H.k, scalar_sl H.p, scalar_sl H.b, cells_sl H.k, cells_sl H.p, cells_sl H.b, pure_sl H.k, pure_sl H.p, pure_sl H.b, Int.toNat_natCast, lenV_sl V, elem_in V, view_sl V, scalar_sl V, cells_sl V, pure_sl V, Int.toNat_natCast]
  refine G_loop_ind (fun m ts hh mk => ∃ i : Nat, i ≤ l.length ∧ m = l.length - i ∧ ((List.range i).all fun i => inR (l.getD i 0) 0 (h.bs.length - 1) && (decide (i = 0) || decide (l.getD (i - 1) 0 < l.getD i 0))) = true ∧ ts.length = 35 ∧ ts.getD 1 .undef = v ∧ ts.getD 2 .undef = .ptr 0 0 ∧ ts.getD 7 .undef = v ∧ ts.getD 8 .undef = I l.length ∧ ts.getD 9 .undef = I i ∧ hh = [.cells [k, I h.fl, p, b] false] ∧ mk = []) ?_ _ _ _ _ ⟨0, Nat.zero_le _, rfl, rfl, rfl, rfl, rfl, rfl, rfl, rfl, rfl, rfl⟩
  rintro m ts hh mk ih ⟨i, hi', rfl, hall, hl', q1, q2, q7, q8, q9, rfl, rfl⟩
  rw [lit_all hl']
  simp only [lit0, litS, Nat.reduceAdd, q1, q2, q7, q8, q9]
  simp (disch := first | assumption | omega | (simp only [az]; done)) only [ru, eq_self, if_true, if_false, BEq.rfl, binI, AO.row?, splice, fillL, mmAll, loadV, storeV, zeros, Am.rowAt, Am.part, addOff, Nat.reduceAdd, Nat.reduceMul, Nat.reduceLeDiff, Nat.reduceSub, Nat.reduceLT, Int.reduceEq, Int.reduceLT, Int.reduceLE, Int.reduceGT, Int.reduceGE, Int.reduceAdd, Int.reduceSub, Int.reduceMul, Int.reduceNeg, Int.reduceToNat, reduceCtorEq, reduceIte, lenV_sl V, elem_in V, view_sl V, scalar_sl V, cells_sl V, pure_sl V, Int.toNat_natCast]
  by_cases hlt : (i : Int) < l.length
  case neg =>
    obtain rfl : i = l.length := by omega
    have ev : risB l 0 (h.bs.length - 1) = true := hall
    simp (disch := first | assumption | omega | (simp only [az]; done)) only [ru, eq_self, if_true, if_false, BEq.rfl, binI, AO.row?, splice, fillL, mmAll, loadV, storeV, zeros, Am.rowAt, Am.part, addOff, Nat.reduceAdd, Nat.reduceMul, Nat.reduceLeDiff, Nat.reduceSub, Nat.reduceLT, Int.reduceEq, Int.reduceLT, Int.reduceLE, Int.reduceGT, Int.reduceGE, Int.reduceAdd, Int.reduceSub, Int.reduceMul, Int.reduceNeg, Int.reduceToNat, reduceCtorEq, reduceIte, hlt, ev]
  have hi2 : i < l.length := by omega
  have no := fun hp => range_not (N := l.length) (p := fun i => inR (l.getD i 0) 0 (h.bs.length - 1) && (decide (i = 0) || decide (l.getD (i - 1) 0 < l.getD i 0))) hi2 hp
  have nx := fun hp => range_all_succ (p := fun i => inR (l.getD i 0) 0 (h.bs.length - 1) && (decide (i = 0) || decide (l.getD (i - 1) 0 < l.getD i 0))) hall hp
  cases hc : inR (l.getD i 0) 0 (h.bs.length - 1)
  · have ev : risB l 0 (h.bs.length - 1) = false := no (by simp only [hc, Bool.false_and])
    simp (disch := first | assumption | omega | (simp only [az]; done)) only [ru, eq_self, if_true, if_false, BEq.rfl, binI, AO.row?, splice, fillL, mmAll, loadV, storeV, zeros, Am.rowAt, Am.part, addOff, Nat.reduceAdd, Nat.reduceMul, Nat.reduceLeDiff, Nat.reduceSub, Nat.reduceLT, Int.reduceEq, Int.reduceLT, Int.reduceLE, Int.reduceGT, Int.reduceGE, Int.reduceAdd, Int.reduceSub, Int.reduceMul, Int.reduceNeg, Int.reduceToNat, reduceCtorEq, reduceIte, lenV_sl H.k, lenV_sl H.p, lenV_sl H.b, elem_kd H.k, elem_pr H.p, elem_in H.b, view_sl H.k, view_sl H.p, view_sl H.b, scalar_sl H.k, scalar_sl H.p, scalar_sl H.b, cells_sl H.k, cells_sl H.p, cells_sl H.b, pure_sl H.k, pure_sl H.p, pure_sl H.b, Int.toNat_natCast, lenV_sl V, elem_in V, view_sl V, scalar_sl V, cells_sl V, pure_sl V, Int.toNat_natCast, hlt, t90, hc, gUn, ev, Bool.not_false]
  by_cases h0 : i = 0
  · have hg : ¬ (i : Int) > 0 := by omega
    simp (disch := first | assumption | omega | (simp only [az]; done)) only [ru, eq_self, if_true, if_false, BEq.rfl, binI, AO.row?, splice, fillL, mmAll, loadV, storeV, zeros, Am.rowAt, Am.part, addOff, Nat.reduceAdd, Nat.reduceMul, Nat.reduceLeDiff, Nat.reduceSub, Nat.reduceLT, Int.reduceEq, Int.reduceLT, Int.reduceLE, Int.reduceGT, Int.reduceGE, Int.reduceAdd, Int.reduceSub, Int.reduceMul, Int.reduceNeg, Int.reduceToNat, reduceCtorEq, reduceIte, lenV_sl H.k, lenV_sl H.p, lenV_sl H.b, elem_kd H.k, elem_pr H.p, elem_in H.b, view_sl H.k, view_sl H.p, view_sl H.b, scalar_sl H.k, scalar_sl H.p, scalar_sl H.b, cells_sl H.k, cells_sl H.p, cells_sl H.b, pure_sl H.k, pure_sl H.p, pure_sl H.b, Int.toNat_natCast, lenV_sl V, elem_in V, view_sl V, scalar_sl V, cells_sl V, pure_sl V, Int.toNat_natCast, hlt, t90, hc, gUn, hg, Bool.not_true, decide_false]
    exact ih (l.length - (i + 1)) _ _ _ (by omega) ⟨i + 1, by omega, rfl, nx (by rw [hc, decide_eq_true h0]; rfl), rfl, rfl, rfl, rfl, rfl, rfl, rfl, rfl⟩
  have hg : (i : Int) > 0 := by omega
  have hm1 : (0 : Int) ≤ (i : Int) - 1 := by omega
  have hm2 : (i : Int) - 1 < l.length := by omega
  have hm3 : ((i : Int) - 1).toNat = i - 1 := by omega
  by_cases hle : l.getD i 0 ≤ l.getD (i - 1) 0
  · have hn : ¬ l.getD (i - 1) 0 < l.getD i 0 := by omega
    have ev : risB l 0 (h.bs.length - 1) = false := no (by rw [decide_eq_false hn, decide_eq_false h0, Bool.or_false, Bool.and_false])
    simp (disch := first | assumption | omega | (simp only [az]; done)) only [ru, eq_self, if_true, if_false, BEq.rfl, binI, AO.row?, splice, fillL, mmAll, loadV, storeV, zeros, Am.rowAt, Am.part, addOff, Nat.reduceAdd, Nat.reduceMul, Nat.reduceLeDiff, Nat.reduceSub, Nat.reduceLT, Int.reduceEq, Int.reduceLT, Int.reduceLE, Int.reduceGT, Int.reduceGE, Int.reduceAdd, Int.reduceSub, Int.reduceMul, Int.reduceNeg, Int.reduceToNat, reduceCtorEq, reduceIte, lenV_sl H.k, lenV_sl H.p, lenV_sl H.b, elem_kd H.k, elem_pr H.p, elem_in H.b, view_sl H.k, view_sl H.p, view_sl H.b, scalar_sl H.k, scalar_sl H.p, scalar_sl H.b, cells_sl H.k, cells_sl H.p, cells_sl H.b, pure_sl H.k, pure_sl H.p, pure_sl H.b, Int.toNat_natCast, lenV_sl V, elem_in V, view_sl V, scalar_sl V, cells_sl V, pure_sl V, Int.toNat_natCast, hlt, t90, hc, gUn, hg, hm1, hm2, hm3, hle, ev, Bool.not_true, decide_true]
  · have hn : l.getD (i - 1) 0 < l.getD i 0 := by omega
    simp (disch := first | assumption | omega | (simp only [az]; done)) only [ru, eq_self, if_true, if_false, BEq.rfl, binI, AO.row?, splice, fillL, mmAll, loadV, storeV, zeros, Am.rowAt, Am.part, addOff, Nat.reduceAdd, Nat.reduceMul, Nat.reduceLeDiff, Nat.reduceSub, Nat.reduceLT, Int.reduceEq, Int.reduceLT, Int.reduceLE, Int.reduceGT, Int.reduceGE, Int.reduceAdd, Int.reduceSub, Int.reduceMul, Int.reduceNeg, Int.reduceToNat, reduceCtorEq, reduceIte, lenV_sl H.k, lenV_sl H.p, lenV_sl H.b, elem_kd H.k, elem_pr H.p, elem_in H.b, view_sl H.k, view_sl H.p, view_sl H.b, scalar_sl H.k, scalar_sl H.p, scalar_sl H.b, cells_sl H.k, cells_sl H.p, cells_sl H.b, pure_sl H.k, pure_sl H.p, pure_sl H.b, Int.toNat_natCast, lenV_sl V, elem_in V, view_sl V, scalar_sl V, cells_sl V, pure_sl V, Int.toNat_natCast, hlt, t90, hc, gUn, hg, hm1, hm2, hm3, hle, Bool.not_true, decide_true, decide_false]
    exact ih (l.length - (i + 1)) _ _ _ (by omega) ⟨i + 1, by omega, rfl, nx (by rw [hc, decide_eq_true hn, Bool.or_true, Bool.and_true]), rfl, rfl, rfl, rfl, rfl, rfl, rfl, rfl⟩
theorem t133 {q : Bool} {c : Nat} {cap : List AV} {u z : Int} {v : AV} (hv : v.scalar = true) {o : Nat} {h : List AO} (ho : h[o]? = some (.cells [.fn c [] cap] false)) (hq : ∀ X, Ro E c (.agg [I u, v, I z] :: cap) (h ++ X) = some (Bo q)) : Ro E 133 [.agg [I u, v, I z], .ptr o 0] h = some (Bo (!q)) := by
  have ol := (List.getElem?_eq_some_iff.1 ho).1
  refine Ro_of (es _ _ _ _) e133 ?_
  simp only [f133]
  have h0 := hq []
  rw [List.append_nil] at h0
  simp (disch := first | assumption | omega | (simp only [az]; done)) only [ru, eq_self, if_true, if_false, BEq.rfl, binI, AO.row?, splice, fillL, mmAll, loadV, storeV, zeros, Am.rowAt, Am.part, addOff, Nat.reduceAdd, Nat.reduceMul, Nat.reduceLeDiff, Nat.reduceSub, Nat.reduceLT, Int.reduceEq, Int.reduceLT, Int.reduceLE, Int.reduceGT, Int.reduceGE, Int.reduceAdd, Int.reduceSub, Int.reduceMul, Int.reduceNeg, Int.reduceToNat, reduceCtorEq, reduceIte, hv, atE, lenE, at_ap ol, ho, exOp_callv1, List.nil_append, List.cons_append, hq, h0]
  rfl
set_option maxHeartbeats 1000000 in
theorem t141 {L : List Bi} {v : AV} {w : Nat → AV} (H : BsIn L v w) (hl : L.length ≤ 41) {q : Nat → Bool} {k : Nat} {cap : List AV} {h : List AO} (hq : ∀ i : Nat, i < L.length → Ro E k (.agg [I (bAt L i).u, w i, I (bAt L i).c] :: cap) h = some (Bo (q i))) :
    ∃ j : Int, Ro E 141 [v, .fn k [] cap] h = some (I j) ∧ decide (j ≥ 0) = !(List.range L.length).all fun i => !q i := by
  refine (fun x => ?_ : (∃ w, Ro E 141 [v, .fn k [] cap] h = some w ∧ ∃ j : Int, w = I j ∧ decide (j ≥ 0) = !(List.range L.length).all fun i => !q i) → _) (Ro_ex (fun r => ∃ j : Int, r = I j ∧ decide (j ≥ 0) = !(List.range L.length).all fun i => !q i) (by rintro _ ⟨j, rfl, _⟩; rfl) (es _ _ _ _) e141 ?_)
  · obtain ⟨w, hv, j, rfl, hj⟩ := x; exact ⟨j, hv, hj⟩
  have ep := H.el
  simp only [f141]
  simp (disch := first | assumption | omega | (simp only [az]; done)) only [ru, eq_self, if_true, if_false, BEq.rfl, binI, AO.row?, splice, fillL, mmAll, loadV, storeV, zeros, Am.rowAt, Am.part, addOff, Nat.reduceAdd, Nat.reduceMul, Nat.reduceLeDiff, Nat.reduceSub, Nat.reduceLT, Int.reduceEq, Int.reduceLT, Int.reduceLE, Int.reduceGT, Int.reduceGE, Int.reduceAdd, Int.reduceSub, Int.reduceMul, Int.reduceNeg, Int.reduceToNat, reduceCtorEq, reduceIte, H.len]
  refine G_loop_ind (fun m ts hh mk => ∃ i : Nat, i ≤ L.length ∧ m = L.length - i ∧ ((List.range i).all fun i => !q i) = true ∧ ts.length = 19 ∧ ts.getD 0 .undef = v ∧ ts.getD 1 .undef = .fn k [] cap ∧ ts.getD 7 .undef = I L.length ∧ ts.getD 8 .undef = I i ∧ hh = h ∧ mk = []) ?_ _ _ _ _
    ⟨0, Nat.zero_le _, rfl, rfl, rfl, rfl, rfl, rfl, rfl, rfl, rfl⟩
  rintro m ts hh mk ih ⟨i, hi, rfl, hall, hl', q0, q1, q7, q8, rfl, rfl⟩
  rw [lit_all hl']
  simp only [lit0, litS, Nat.reduceAdd, q0, q1, q7, q8]
  simp (disch := first | assumption | omega | (simp only [az]; done)) only [ru, eq_self, if_true, if_false, BEq.rfl, binI, AO.row?, splice, fillL, mmAll, loadV, storeV, zeros, Am.rowAt, Am.part, addOff, Nat.reduceAdd, Nat.reduceMul, Nat.reduceLeDiff, Nat.reduceSub, Nat.reduceLT, Int.reduceEq, Int.reduceLT, Int.reduceLE, Int.reduceGT, Int.reduceGE, Int.reduceAdd, Int.reduceSub, Int.reduceMul, Int.reduceNeg, Int.reduceToNat, reduceCtorEq, reduceIte]
  by_cases hlt : (i : Int) < L.length
  case pos =>
    have hi' : i < L.length := by omega
    have nx := fun hp => range_all_succ (p := fun i => !q i) hall hp
    have no := fun hp => range_not (N := L.length) (p := fun i => !q i) hi' hp
    have hr := hq i hi'
    cases hc : q i
    · rw [hc] at hr
      simp (disch := first | assumption | omega | (simp only [az]; done)) only [ru, eq_self, if_true, if_false, BEq.rfl, binI, AO.row?, splice, fillL, mmAll, loadV, storeV, zeros, Am.rowAt, Am.part, addOff, Nat.reduceAdd, Nat.reduceMul, Nat.reduceLeDiff, Nat.reduceSub, Nat.reduceLT, Int.reduceEq, Int.reduceLT, Int.reduceLE, Int.reduceGT, Int.reduceGE, Int.reduceAdd, Int.reduceSub, Int.reduceMul, Int.reduceNeg, Int.reduceToNat, reduceCtorEq, reduceIte, hlt, ep, Int.toNat_natCast, exOp_callv1, List.nil_append, List.cons_append, hr]
      exact ih (L.length - (i + 1)) _ _ _ (by omega) ⟨i + 1, by omega, rfl, nx (by rw [hc]; rfl), rfl, rfl, rfl, rfl, rfl, rfl, rfl⟩
    · rw [hc] at hr
      simp (disch := first | assumption | omega | (simp only [az]; done)) only [ru, eq_self, if_true, if_false, BEq.rfl, binI, AO.row?, splice, fillL, mmAll, loadV, storeV, zeros, Am.rowAt, Am.part, addOff, Nat.reduceAdd, Nat.reduceMul, Nat.reduceLeDiff, Nat.reduceSub, Nat.reduceLT, Int.reduceEq, Int.reduceLT, Int.reduceLE, Int.reduceGT, Int.reduceGE, Int.reduceAdd, Int.reduceSub, Int.reduceMul, Int.reduceNeg, Int.reduceToNat, reduceCtorEq, reduceIte, hlt, ep, Int.toNat_natCast, exOp_callv1, List.nil_append, List.cons_append, hr]
      exact ⟨i, rfl, by rw [no (by rw [hc]; rfl)]; simp⟩
  obtain rfl : i = L.length := by omega
  simp (disch := first | assumption | omega | (simp only [az]; done)) only [ru, eq_self, if_true, if_false, BEq.rfl, binI, AO.row?, splice, fillL, mmAll, loadV, storeV, zeros, Am.rowAt, Am.part, addOff, Nat.reduceAdd, Nat.reduceMul, Nat.reduceLeDiff, Nat.reduceSub, Nat.reduceLT, Int.reduceEq, Int.reduceLT, Int.reduceLE, Int.reduceGT, Int.reduceGE, Int.reduceAdd, Int.reduceSub, Int.reduceMul, Int.reduceNeg, Int.reduceToNat, reduceCtorEq, reduceIte, hlt]
  exact ⟨-1, rfl, by rw [hall]; decide⟩
theorem t132 {L : List Bi} {v : AV} {w : Nat → AV} (H : BsIn L v w) (hl : L.length ≤ 41) {q : Nat → Bool} {k : Nat} {cap : List AV} {h : List AO} (hq : ∀ i : Nat, i < L.length → Ro E k (.agg [I (bAt L i).u, w i, I (bAt L i).c] :: cap) h = some (Bo (q i))) : Ro E 132 [v, .fn k [] cap] h = some (Bo (!(List.range L.length).all fun i => !q i)) := by
  obtain ⟨j, hr, hj⟩ := t141 H hl hq
  refine Ro_of (es _ _ _ _) e132 ?_
  simp only [f132]
  simp (disch := first | assumption | omega | (simp only [az]; done)) only [ru, eq_self, if_true, if_false, BEq.rfl, binI, AO.row?, splice, fillL, mmAll, loadV, storeV, zeros, Am.rowAt, Am.part, addOff, Nat.reduceAdd, Nat.reduceMul, Nat.reduceLeDiff, Nat.reduceSub, Nat.reduceLT, Int.reduceEq, Int.reduceLT, Int.reduceLE, Int.reduceGT, Int.reduceGE, Int.reduceAdd, Int.reduceSub, Int.reduceMul, Int.reduceNeg, Int.reduceToNat, reduceCtorEq, reduceIte, hr]
  rw [hj]; exact ⟨rfl, rfl⟩
theorem t114 {L : List Bi} {v : AV} {w : Nat → AV} (H : BsIn L v w) (hl : L.length ≤ 41) {q : Nat → Bool} {c : Nat} {cap : List AV} {h : List AO} (hq : ∀ i : Nat, i < L.length → ∀ X, Ro E c (.agg [I (bAt L i).u, w i, I (bAt L i).c] :: cap) (h ++ X) = some (Bo (q i))) : Ro E 114 [v, .fn c [] cap] h = some (Bo ((List.range L.length).all q)) := by
  have hr := t132 H hl (q := fun i => !q i) (k := 133) (cap := [.ptr h.length 0]) (h := h ++ [.cells [.fn c [] cap] false]) fun i hi => t133 (scalar_sl (H.iw i hi)) atE fun X => by rw [List.append_assoc]; exact hq i hi _
  simp only [Bool.not_not] at hr
  refine Ro_of (es _ _ _ _) e114 ?_
  simp only [f114]
  simp (disch := first | assumption | omega | (simp only [az]; done)) only [ru, eq_self, if_true, if_false, BEq.rfl, binI, AO.row?, splice, fillL, mmAll, loadV, storeV, zeros, Am.rowAt, Am.part, addOff, Nat.reduceAdd, Nat.reduceMul, Nat.reduceLeDiff, Nat.reduceSub, Nat.reduceLT, Int.reduceEq, Int.reduceLT, Int.reduceLE, Int.reduceGT, Int.reduceGE, Int.reduceAdd, Int.reduceSub, Int.reduceMul, Int.reduceNeg, Int.reduceToNat, reduceCtorEq, reduceIte, H.sc, H.ce, H.pu, hr, Bool.not_not]
  rfl
def bidOk (n : Int) (nb : Nat) (x : Bi) : Bool := inR x.u 0 (n - 1) && inR x.c 0 99 && decide (0 < (x.bs.length : Int)) && risB x.bs 0 (nb - 1)
def Fs.valid (f : Fs) : Bool := f.h.valid && f.h.isP f.pk && inR f.d 0 20 && inR f.n 0 4 && decide ((f.bids.length : Int) ≤ 8) && (List.range f.bids.length).all fun i => bidOk f.n f.h.bs.length (bAt f.bids i)
section
variable {f : Fs} {k p b pv bv : AV} {w : Nat → AV}
theorem t67 (H : FsIn f k p b pv bv w) (n : Int) (st : Bool) : Iso E 67 [frV f k p b pv bv, I n] st = some (Bo (inR n 0 (f.n - 1))) := by
  refine Iso_of (es _ _ _ _) e67 ?_
  simp only [f67, inR]
  have e2 : decide (n < f.n) = decide (n ≤ f.n - 1) := by rw [decide_eq_decide]; omega
  simp (disch := first | assumption | omega | (simp only [az]; done)) only [ru, eq_self, if_true, if_false, BEq.rfl, binI, AO.row?, splice, fillL, mmAll, loadV, storeV, zeros, Am.rowAt, Am.part, addOff, Nat.reduceAdd, Nat.reduceMul, Nat.reduceLeDiff, Nat.reduceSub, Nat.reduceLT, Int.reduceEq, Int.reduceLT, Int.reduceLE, Int.reduceGT, Int.reduceGE, Int.reduceAdd, Int.reduceSub, Int.reduceMul, Int.reduceNeg, Int.reduceToNat, reduceCtorEq, reduceIte, H.fai, Int.toNat_natCast]
  by_cases h1 : 0 ≤ n
  · simp (disch := first | assumption | omega | (simp only [az]; done)) only [ru, eq_self, if_true, if_false, BEq.rfl, binI, AO.row?, splice, fillL, mmAll, loadV, storeV, zeros, Am.rowAt, Am.part, addOff, Nat.reduceAdd, Nat.reduceMul, Nat.reduceLeDiff, Nat.reduceSub, Nat.reduceLT, Int.reduceEq, Int.reduceLT, Int.reduceLE, Int.reduceGT, Int.reduceGE, Int.reduceAdd, Int.reduceSub, Int.reduceMul, Int.reduceNeg, Int.reduceToNat, reduceCtorEq, reduceIte, H.fai, Int.toNat_natCast, h1, e2, decide_true, Bool.true_and]
  · simp (disch := first | assumption | omega | (simp only [az]; done)) only [ru, eq_self, if_true, if_false, BEq.rfl, binI, AO.row?, splice, fillL, mmAll, loadV, storeV, zeros, Am.rowAt, Am.part, addOff, Nat.reduceAdd, Nat.reduceMul, Nat.reduceLeDiff, Nat.reduceSub, Nat.reduceLT, Int.reduceEq, Int.reduceLT, Int.reduceLE, Int.reduceGT, Int.reduceGE, Int.reduceAdd, Int.reduceSub, Int.reduceMul, Int.reduceNeg, Int.reduceToNat, reduceCtorEq, reduceIte, H.fai, Int.toNat_natCast, h1, decide_false, Bool.false_and]
theorem t99 (H : FsOk f k p b pv bv w) (n : Int) (st : Bool) : Iso E 99 [frV f k p b pv bv, I n] st = some (Bo (inR n 0 (f.bids.length - 1))) := by
  have := H.nb
  refine Iso_of (es _ _ _ _) e99 ?_
  simp only [f99]
  simp (disch := first | assumption | omega | (simp only [az]; done)) only [ru, eq_self, if_true, if_false, BEq.rfl, binI, AO.row?, splice, fillL, mmAll, loadV, storeV, zeros, Am.rowAt, Am.part, addOff, Nat.reduceAdd, Nat.reduceMul, Nat.reduceLeDiff, Nat.reduceSub, Nat.reduceLT, Int.reduceEq, Int.reduceLT, Int.reduceLE, Int.reduceGT, Int.reduceGE, Int.reduceAdd, Int.reduceSub, Int.reduceMul, Int.reduceNeg, Int.reduceToNat, reduceCtorEq, reduceIte, H.fai, Int.toNat_natCast, t90]
theorem t111 (H : FsOk f k p b pv bv w) {x : Bi} {v : AV} (V : IsSl 1 intL x.bs v) (hl : x.bs.length ≤ 41) {o : Nat} {h : List AO} (ho : h[o]? = some (.cells [k, I f.h.fl, p, b, pv, I f.d, I f.n, bv] false)) :
    Ro E 111 [.agg [I x.u, v, I x.c], .ptr o 0] h = some (Bo (bidOk f.n f.h.bs.length x)) := by
  have ol := (List.getElem?_eq_some_iff.1 ho).1
  have a1 := fun st => t67 H.toFsIn x.u st
  have a2 := fun st => t112 H.ho V (by omega) st
  simp only [frV, hsV] at a1 a2
  have ol2 : o < (h ++ [AO.cells [I x.u, v, I x.c] false]).length := by simp; omega
  refine Ro_of (es _ _ _ _) e111 ?_
  simp only [f111, bidOk]
  cases c1 : inR x.u 0 (f.n - 1)
  · simp (disch := first | assumption | omega | (simp only [az]; done)) only [ru, eq_self, if_true, if_false, BEq.rfl, binI, AO.row?, splice, fillL, mmAll, loadV, storeV, zeros, Am.rowAt, Am.part, addOff, Nat.reduceAdd, Nat.reduceMul, Nat.reduceLeDiff, Nat.reduceSub, Nat.reduceLT, Int.reduceEq, Int.reduceLT, Int.reduceLE, Int.reduceGT, Int.reduceGE, Int.reduceAdd, Int.reduceSub, Int.reduceMul, Int.reduceNeg, Int.reduceToNat, reduceCtorEq, reduceIte, H.fai, Int.toNat_natCast, lenV_sl V, view_sl V, scalar_sl V, cells_sl V, pure_sl V, at_ap ol, ho, atE, lenE, a1, c1, gUn, Bool.false_and]
    rfl
  cases c2 : inR x.c 0 99
  · simp (disch := first | assumption | omega | (simp only [az]; done)) only [ru, eq_self, if_true, if_false, BEq.rfl, binI, AO.row?, splice, fillL, mmAll, loadV, storeV, zeros, Am.rowAt, Am.part, addOff, Nat.reduceAdd, Nat.reduceMul, Nat.reduceLeDiff, Nat.reduceSub, Nat.reduceLT, Int.reduceEq, Int.reduceLT, Int.reduceLE, Int.reduceGT, Int.reduceGE, Int.reduceAdd, Int.reduceSub, Int.reduceMul, Int.reduceNeg, Int.reduceToNat, reduceCtorEq, reduceIte, H.fai, Int.toNat_natCast, lenV_sl V, view_sl V, scalar_sl V, cells_sl V, pure_sl V, at_ap ol, ho, atE, lenE, a1, c1, t90, c2, gUn, Bool.false_and, Bool.and_false]
    rfl
  by_cases c3 : (x.bs.length : Int) > 0
  case neg =>
    have c3' : ¬ (0 : Int) < x.bs.length := by omega
    simp (disch := first | assumption | omega | (simp only [az]; done)) only [ru, eq_self, if_true, if_false, BEq.rfl, binI, AO.row?, splice, fillL, mmAll, loadV, storeV, zeros, Am.rowAt, Am.part, addOff, Nat.reduceAdd, Nat.reduceMul, Nat.reduceLeDiff, Nat.reduceSub, Nat.reduceLT, Int.reduceEq, Int.reduceLT, Int.reduceLE, Int.reduceGT, Int.reduceGE, Int.reduceAdd, Int.reduceSub, Int.reduceMul, Int.reduceNeg, Int.reduceToNat, reduceCtorEq, reduceIte, H.fai, Int.toNat_natCast, lenV_sl V, view_sl V, scalar_sl V, cells_sl V, pure_sl V, at_ap ol, ho, atE, lenE, a1, c1, t90, c2, c3, c3', gUn, decide_false, Bool.false_and, Bool.and_false]
    rfl
  have c3' : (0 : Int) < x.bs.length := by omega
  simp (disch := first | assumption | omega | (simp only [az]; done)) only [ru, eq_self, if_true, if_false, BEq.rfl, binI, AO.row?, splice, fillL, mmAll, loadV, storeV, zeros, Am.rowAt, Am.part, addOff, Nat.reduceAdd, Nat.reduceMul, Nat.reduceLeDiff, Nat.reduceSub, Nat.reduceLT, Int.reduceEq, Int.reduceLT, Int.reduceLE, Int.reduceGT, Int.reduceGE, Int.reduceAdd, Int.reduceSub, Int.reduceMul, Int.reduceNeg, Int.reduceToNat, reduceCtorEq, reduceIte, H.fai, Int.toNat_natCast, lenV_sl V, view_sl V, scalar_sl V, cells_sl V, pure_sl V, at_ap ol, ho, atE, lenE, a1, c1, t90, c2, c3, c3', a2, gUn, decide_true, Bool.and_self, Bool.true_and]
  rfl
set_option maxHeartbeats 1000000 in
theorem t74 (H : FsOk f k p b pv bv w) (st : Bool) : Iso E 74 [frV f k p b pv bv] st = some (Bo f.valid) := by
  have nb := H.nb
  have a1 := fun st => s23 H.ho H.pk (by have := H.np; omega) st
  have a2 := t114 H.bi (by omega) (q := fun i => bidOk f.n f.h.bs.length (bAt f.bids i)) (c := 111) (cap := [.ptr 0 0]) (h := [.cells [k, I f.h.fl, p, b, pv, I f.d, I f.n, bv] false]) fun i hi X => t111 H (x := bAt f.bids i) (H.bi.iw i hi) (by have := H.nw i hi; simpa [bAt] using this) rfl
  simp only [hsV] at a1
  refine Iso_of (es _ _ _ _) e74 ?_
  simp only [f74, frV, Fs.valid]
  cases c1 : (f.h.valid && f.h.isP f.pk)
  · rw [c1] at a1
    simp (disch := first | assumption | omega | (simp only [az]; done)) only [ru, eq_self, if_true, if_false, BEq.rfl, binI, AO.row?, splice, fillL, mmAll, loadV, storeV, zeros, Am.rowAt, Am.part, addOff, Nat.reduceAdd, Nat.reduceMul, Nat.reduceLeDiff, Nat.reduceSub, Nat.reduceLT, Int.reduceEq, Int.reduceLT, Int.reduceLE, Int.reduceGT, Int.reduceGE, Int.reduceAdd, Int.reduceSub, Int.reduceMul, Int.reduceNeg, Int.reduceToNat, reduceCtorEq, reduceIte, H.fai, Int.toNat_natCast, a1, gUn, Bool.false_and]
  rw [c1] at a1
  cases c2 : inR f.d 0 20
  · simp (disch := first | assumption | omega | (simp only [az]; done)) only [ru, eq_self, if_true, if_false, BEq.rfl, binI, AO.row?, splice, fillL, mmAll, loadV, storeV, zeros, Am.rowAt, Am.part, addOff, Nat.reduceAdd, Nat.reduceMul, Nat.reduceLeDiff, Nat.reduceSub, Nat.reduceLT, Int.reduceEq, Int.reduceLT, Int.reduceLE, Int.reduceGT, Int.reduceGE, Int.reduceAdd, Int.reduceSub, Int.reduceMul, Int.reduceNeg, Int.reduceToNat, reduceCtorEq, reduceIte, H.fai, Int.toNat_natCast, a1, t90, c2, gUn, Bool.false_and, Bool.and_false]
  cases c3 : inR f.n 0 4
  · simp (disch := first | assumption | omega | (simp only [az]; done)) only [ru, eq_self, if_true, if_false, BEq.rfl, binI, AO.row?, splice, fillL, mmAll, loadV, storeV, zeros, Am.rowAt, Am.part, addOff, Nat.reduceAdd, Nat.reduceMul, Nat.reduceLeDiff, Nat.reduceSub, Nat.reduceLT, Int.reduceEq, Int.reduceLT, Int.reduceLE, Int.reduceGT, Int.reduceGE, Int.reduceAdd, Int.reduceSub, Int.reduceMul, Int.reduceNeg, Int.reduceToNat, reduceCtorEq, reduceIte, H.fai, Int.toNat_natCast, a1, t90, c2, c3, gUn, Bool.false_and, Bool.and_false]
  by_cases c4 : (f.bids.length : Int) ≤ 8
  case neg => simp (disch := first | assumption | omega | (simp only [az]; done)) only [ru, eq_self, if_true, if_false, BEq.rfl, binI, AO.row?, splice, fillL, mmAll, loadV, storeV, zeros, Am.rowAt, Am.part, addOff, Nat.reduceAdd, Nat.reduceMul, Nat.reduceLeDiff, Nat.reduceSub, Nat.reduceLT, Int.reduceEq, Int.reduceLT, Int.reduceLE, Int.reduceGT, Int.reduceGE, Int.reduceAdd, Int.reduceSub, Int.reduceMul, Int.reduceNeg, Int.reduceToNat, reduceCtorEq, reduceIte, H.fai, Int.toNat_natCast, a1, t90, c2, c3, c4, gUn, decide_false, Bool.false_and, Bool.and_false]
  simp (disch := first | assumption | omega | (simp only [az]; done)) only [ru, eq_self, if_true, if_false, BEq.rfl, binI, AO.row?, splice, fillL, mmAll, loadV, storeV, zeros, Am.rowAt, Am.part, addOff, Nat.reduceAdd, Nat.reduceMul, Nat.reduceLeDiff, Nat.reduceSub, Nat.reduceLT, Int.reduceEq, Int.reduceLT, Int.reduceLE, Int.reduceGT, Int.reduceGE, Int.reduceAdd, Int.reduceSub, Int.reduceMul, Int.reduceNeg, Int.reduceToNat, reduceCtorEq, reduceIte, H.fai, Int.toNat_natCast, a1, t90, c2, c3, c4, a2, gUn, decide_true, Bool.and_self, Bool.true_and]
def fE (v : Bool) : Int := if v then 0 else 90
theorem t38 (H : FsOk f k p b pv bv w) (st : Bool) : Iso E 38 [frV f k p b pv bv] st = some (I (fE f.valid)) := by
  have a := fun st => t74 H st
  simp only [frV] at a
  refine Iso_of (es _ _ _ _) e38 ?_
  simp only [f38, frV, fE]
  cases c : f.valid <;> simp (disch := first | assumption | omega | (simp only [az]; done)) only [ru, eq_self, if_true, if_false, BEq.rfl, binI, AO.row?, splice, fillL, mmAll, loadV, storeV, zeros, Am.rowAt, Am.part, addOff, Nat.reduceAdd, Nat.reduceMul, Nat.reduceLeDiff, Nat.reduceSub, Nat.reduceLT, Int.reduceEq, Int.reduceLT, Int.reduceLE, Int.reduceGT, Int.reduceGE, Int.reduceAdd, Int.reduceSub, Int.reduceMul, Int.reduceNeg, Int.reduceToNat, reduceCtorEq, reduceIte, H.fai, Int.toNat_natCast, a, c, Bool.not_true, Bool.not_false]
def askF (v q : Bool) : Int := if v then (if q then 0 else 1) else 90
theorem t63 (H : FsOk f k p b pv bv w) (n : Int) (st : Bool) : Iso E 63 [frV f k p b pv bv, I n] st = some (I (askF f.valid (inR n 0 (f.bids.length - 1)))) := by
  have a := fun st => t38 H st
  have a2 := fun st => t99 H n st
  simp only [frV] at a a2
  refine Iso_of (es _ _ _ _) e63 ?_
  simp only [f63, frV, askF]
  cases c : f.valid
  · simp only [c, fE, Bool.false_eq_true, if_false] at a
    simp (disch := first | assumption | omega | (simp only [az]; done)) only [ru, eq_self, if_true, if_false, BEq.rfl, binI, AO.row?, splice, fillL, mmAll, loadV, storeV, zeros, Am.rowAt, Am.part, addOff, Nat.reduceAdd, Nat.reduceMul, Nat.reduceLeDiff, Nat.reduceSub, Nat.reduceLT, Int.reduceEq, Int.reduceLT, Int.reduceLE, Int.reduceGT, Int.reduceGE, Int.reduceAdd, Int.reduceSub, Int.reduceMul, Int.reduceNeg, Int.reduceToNat, reduceCtorEq, reduceIte, H.fai, Int.toNat_natCast, a, c, gUn]
  simp only [c, fE, if_true] at a
  cases c2 : inR n 0 (f.bids.length - 1) <;> simp (disch := first | assumption | omega | (simp only [az]; done)) only [ru, eq_self, if_true, if_false, BEq.rfl, binI, AO.row?, splice, fillL, mmAll, loadV, storeV, zeros, Am.rowAt, Am.part, addOff, Nat.reduceAdd, Nat.reduceMul, Nat.reduceLeDiff, Nat.reduceSub, Nat.reduceLT, Int.reduceEq, Int.reduceLT, Int.reduceLE, Int.reduceGT, Int.reduceGE, Int.reduceAdd, Int.reduceSub, Int.reduceMul, Int.reduceNeg, Int.reduceToNat, reduceCtorEq, reduceIte, H.fai, Int.toNat_natCast, a, a2, c, c2, gUn, Bool.not_true, Bool.not_false]
end
end Go.Proofs.YtfagcnokdnanpaaGreat.S
/-
A fair at work: which barrels are ready.
-/
namespace Go.Proofs.YtfagcnokdnanpaaGreat.S
open Go Go.Am Go.Proofs.YtfagcnokdnanpaaGreat.T
set_option maxRecDepth 100000
set_option linter.unusedSimpArgs false
set_option linter.unusedVariables false
def rdF (h : Hs) (x : List Int) (d : Int) (i : Int) : Bool := decide (0 ≤ i) && decide (i < h.bs.length) && (decide (dyP h.ks (prs h.ps x i) ≤ d) && decide (i ∈ x))
theorem rdF_out {h : Hs} {x : List Int} {d i : Int} (hi : ¬ i < h.bs.length) : rdF h x d i = false := by simp [rdF, hi]
theorem rdF_in {h : Hs} {x : List Int} {d i : Int} (h0 : 0 ≤ i) (hi : i < h.bs.length) : rdF h x d i = (decide (dyP h.ks (prs h.ps x i) ≤ d) && decide (i ∈ x)) := by simp [rdF, hi, h0]
abbrev wkC (f : Fs) (k p b pv bv : AV) (r : Int → Bool) (o : Nat) : List AV := [k, I f.h.fl, p, b, pv, I f.d, I f.n, bv, Bo (r 0), Bo (r 1), Bo (r 2), Bo (r 3), .mp o]
abbrev wkV (f : Fs) (k p b pv bv : AV) (r : Int → Bool) (o : Nat) : AV := .agg (wkC f k p b pv bv r o)
def Fs.r (f : Fs) : Int → Bool := rdF f.h f.pk f.d
structure FG (f : Fs) : Prop where
  h : HG f.h
  pk : f.h.isP f.pk = true
  d : 0 ≤ f.d ∧ f.d ≤ 20
  bg : BG f.n f.h.bs.length f.bids
theorem ris_few {l : List Int} {n : Int} (h : risB l 0 (n - 1) = true) : (l.length : Int) ≤ max n 0 ∧ (∀ x ∈ l, 0 ≤ x ∧ x < n) ∧ l.Pairwise (fun a b => a < b) := by
  unfold risB at h
  simp only [List.all_eq_true, List.mem_range, Bool.and_eq_true, inR_iff, Bool.or_eq_true, decide_eq_true_eq] at h
  have hr : ∀ x ∈ l, 0 ≤ x ∧ x < n := fun x hx => by
    obtain ⟨i, hi, rfl⟩ := mem_getD (d := 0) hx
    have := (h i hi).1; omega
  have hp : ∀ j i, i < j → j < l.length → l.getD i 0 < l.getD j 0 := by
    intro j
    induction j with
    | zero => intro i hi; omega
    | succ j ih =>
      intro i hij hj
      have h1 := (h (j + 1) hj).2
      rcases h1 with h1 | h1
      · omega
      · rw [Nat.add_sub_cancel] at h1
        rcases Nat.lt_or_eq_of_le (Nat.le_of_lt_succ hij) with h2 | rfl
        · have := ih i h2 (by omega); omega
        · exact h1
  have hpw : l.Pairwise (fun a b => a < b) := pair_of (d := 0) fun i j hij hj => hp j i hij hj
  refine ⟨?_, hr, hpw⟩
  have := few (n := n.toNat) (hpw.imp fun hab => by omega) fun x hx => by have := hr x hx; omega
  omega
theorem fvalid_iff {f : Fs} (hv : f.valid = true) : FG f := by
  simp only [Fs.valid, Bool.and_eq_true, decide_eq_true_eq, List.all_eq_true, List.mem_range, inR_iff] at hv
  obtain ⟨⟨⟨⟨⟨h1, h2⟩, h3⟩, h4⟩, h5⟩, h6⟩ := hv
  refine ⟨valid_iff.1 h1, h2, h3, ⟨by omega, h4, fun i hi => ?_, fun i hi => ?_, fun i hi => ?_⟩⟩
  all_goals
    have := h6 i hi
    simp only [bidOk, Bool.and_eq_true, decide_eq_true_eq, inR_iff, bAt, Int.toNat_natCast] at this
    obtain ⟨⟨⟨g1, g2⟩, g3⟩, g4⟩ := this
  · omega
  · exact g2
  · obtain ⟨e1, e2, _⟩ := ris_few g4
    refine ⟨fun e => ?_, by omega, e2⟩
    have g3' := of_decide_eq_true g3
    rw [e] at g3'
    simp at g3'
theorem isP_len {h : Hs} {x : List Int} (hx : h.isP x = true) : x.length = h.ps.length ∧ ∀ c ∈ x, 0 ≤ c ∧ c < h.bs.length := by
  simp only [Hs.isP, Bool.and_eq_true, decide_eq_true_eq, List.all_eq_true, inR_iff] at hx
  exact ⟨hx.1.1, fun c hc => by have := hx.1.2 c hc; omega⟩
section
variable {f : Fs} {k p b pv bv : AV} {w : Nat → AV}
set_option maxHeartbeats 2000000 in
theorem t91 (H : FsOk f k p b pv bv w) (G : HG f.h) {x : List Int} {v : AV} (V : IsSl 1 intL x v) (hx : f.h.isP x = true) (d : Int) {r : Int → Bool} (hr : ∀ i : Int, ¬ i < f.h.bs.length → r i = false) {g : List AO} {o : Nat} (ho : o < g.length) :
    Ro E 91 [wkV f k p b pv bv r o, v, I d] g = some (wkV { f with pk := x, d := d } k p b v bv (rdF f.h x d) o) := by
  have nb := G.nb
  have xl := isP_len hx
  have np := G.np
  have a1 := fun (c : Int) st => s25 H.ho V (by omega) c st
  have a2 := fun (c : Int) st => t103 V (by omega) c st
  simp only [hsV, hx, valid_iff.2 G, Bool.true_and, askS, if_true] at a1
  have key : ∃ u, Ro E 91 [wkV f k p b pv bv r o, v, I d] g = some u ∧ ∃ q : Int → Bool, u = wkV { f with pk := x, d := d } k p b v bv q o ∧ ∀ i : Int, 0 ≤ i → i < 4 → q i = rdF f.h x d i := by
    refine Ro_ex (fun u => ∃ q : Int → Bool, u = wkV { f with pk := x, d := d } k p b v bv q o ∧ ∀ i : Int, 0 ≤ i → i < 4 → q i = rdF f.h x d i) ?_ (es _ _ _ _) e91 ?_
    · rintro _ ⟨q, rfl, _⟩
      have hk := sl_under H.h.k g.length
      have hp := sl_under H.h.p g.length
      have hb := sl_under H.h.b g.length
      have hv := sl_under V g.length
      have hbv := H.bi.un g.length
      simp [AV.under, AV.under.go, hk, hp, hb, hv, hbv, ho]
    simp only [f91]
    have at3 : ∀ a b : AO, (g ++ [a] ++ [b])[g.length]? = some a := fun a b => by simp
    have s1 : ∀ a b c : AO, (g ++ [a] ++ [b]).set g.length c = g ++ [c] ++ [b] := fun a b c => by rw [List.append_assoc, List.set_append_right _ _ (Nat.le_refl _), Nat.sub_self]; simp
    have s2 : ∀ a b c : AO, (g ++ [a] ++ [b]).set (g.length + 1) c = g ++ [a] ++ [c] := fun a b c => by rw [List.append_assoc, List.append_assoc, List.set_append_right _ _ (by omega), Nat.add_sub_cancel_left]; rfl
    simp (disch := first | assumption | omega | (simp only [az]; done)) only [ru, eq_self, if_true, if_false, BEq.rfl, binI, AO.row?, splice, fillL, mmAll, loadV, storeV, zeros, Am.rowAt, Am.part, addOff, Nat.reduceAdd, Nat.reduceMul, Nat.reduceLeDiff, Nat.reduceSub, Nat.reduceLT, Int.reduceEq, Int.reduceLT, Int.reduceLE, Int.reduceGT, Int.reduceGE, Int.reduceAdd, Int.reduceSub, Int.reduceMul, Int.reduceNeg, Int.reduceToNat, reduceCtorEq, reduceIte, H.fai, Int.toNat_natCast, lenV_sl V, view_sl V, scalar_sl V, cells_sl V, pure_sl V, at3, at2, lenE, s1, s2, Nat.le_refl]
    refine G_loop_ind (fun m ts hh mk => ∃ (j : Nat) (q : Int → Bool), j ≤ f.h.bs.length ∧ m = f.h.bs.length - j ∧ (∀ i : Int, 0 ≤ i → i < 4 → q i = if i < j then rdF f.h x d i else r i) ∧ hh = g ++ [.cells (wkC { f with pk := x, d := d } k p b v bv q o) false] ++ [.cells [.nils, I 0, .nils, .nils, .nils, I 0, I 0, .nils, Bo false, Bo false, Bo false, Bo false, .nilm] false] ∧
      ts.length = 50 ∧ ts.getD 1 .undef = v ∧ ts.getD 2 .undef = I d ∧ ts.getD 3 .undef = .ptr g.length 0 ∧ ts.getD 6 .undef = .ptr (g.length + 1) 0 ∧ ts.getD 22 .undef = I f.h.bs.length ∧ ts.getD 23 .undef = I j ∧ mk = []) ?_ _ _ _ _ ⟨0, r, Nat.zero_le _, rfl, fun i h0 _ => by rw [if_neg (by omega)], rfl, rfl, rfl, rfl, rfl, rfl, rfl, rfl, rfl⟩
    rintro m ts hh mk ih ⟨j, q, hj, rfl, hq, rfl, hl', q1, q2, q3, q6, q22, q23, rfl⟩
    rw [lit_all hl']
    simp only [lit0, litS, Nat.reduceAdd, q1, q2, q3, q6, q22, q23]
    simp (disch := first | assumption | omega | (simp only [az]; done)) only [ru, eq_self, if_true, if_false, BEq.rfl, binI, AO.row?, splice, fillL, mmAll, loadV, storeV, zeros, Am.rowAt, Am.part, addOff, Nat.reduceAdd, Nat.reduceMul, Nat.reduceLeDiff, Nat.reduceSub, Nat.reduceLT, Int.reduceEq, Int.reduceLT, Int.reduceLE, Int.reduceGT, Int.reduceGE, Int.reduceAdd, Int.reduceSub, Int.reduceMul, Int.reduceNeg, Int.reduceToNat, reduceCtorEq, reduceIte, wkC]
    by_cases hlt : (j : Int) < f.h.bs.length
    case neg =>
      obtain rfl : j = f.h.bs.length := by omega
      have gl : g.length ≤ g.length + 1 := by omega
      simp (disch := first | assumption | omega | (simp only [az]; done)) only [ru, eq_self, if_true, if_false, BEq.rfl, binI, AO.row?, splice, fillL, mmAll, loadV, storeV, zeros, Am.rowAt, Am.part, addOff, Nat.reduceAdd, Nat.reduceMul, Nat.reduceLeDiff, Nat.reduceSub, Nat.reduceLT, Int.reduceEq, Int.reduceLT, Int.reduceLE, Int.reduceGT, Int.reduceGE, Int.reduceAdd, Int.reduceSub, Int.reduceMul, Int.reduceNeg, Int.reduceToNat, reduceCtorEq, reduceIte, rmp, wkC, hlt, H.fai, Int.toNat_natCast, lenV_sl V, view_sl V, scalar_sl V, cells_sl V, pure_sl V, at3, at2, lenE, s1, s2, gl]
      rw [finC]
      refine ⟨_, by simp only [getRes, getT, atT, at2, AO.row?, Am.rowAt, Am.part, List.getD_cons_succ, List.getD_cons_zero, Option.bind_some, List.drop_zero, if_true, List.take_succ_cons, List.take_zero, List.length_cons, List.length_nil, Option.bind, eq_self], q, rfl, fun i h0 h4 => ?_⟩
      rw [hq i h0 h4]
      split
      · rfl
      · rw [rdF_out (by omega), hr i (by omega)]
    have hin := inR_iff.2 (⟨by omega, by omega⟩ : (0 : Int) ≤ (j : Int) ∧ (j : Int) ≤ f.h.bs.length - 1)
    have aj := a1 (j : Int)
    rw [hin] at aj
    simp only [if_true, ansB, eq_self] at aj
    have rj := rdF_in (h := f.h) (x := x) (d := d) (i := (j : Int)) (by omega) hlt
    have hj4 : j < 4 := by omega
    have hq' : ∀ Z : Bool, Z = rdF f.h x d j → ∀ i : Int, 0 ≤ i → i < 4 → (if i = j then Z else q i) = if i < ((j + 1 : Nat) : Int) then rdF f.h x d i else r i := fun Z hZ i h0 h4 => by
      by_cases e : i = j
      · subst e; rw [if_pos rfl, if_pos (by omega), hZ]
      · rw [if_neg e, hq i h0 h4]
        by_cases e2 : i < j
        · rw [if_pos e2, if_pos (by omega)]
        · rw [if_neg e2, if_neg (by omega)]
    have ih' := fun ts hh mk => ih (f.h.bs.length - (j + 1)) ts hh mk (by omega)
    cases c1 : decide (dyP f.h.ks (prs f.h.ps x j) ≤ d)
    · rw [c1, Bool.false_and] at rj
      have c1' : ¬ dyP f.h.ks (prs f.h.ps x j) ≤ d := of_decide_eq_false c1
      obtain rfl | rfl | rfl | rfl : j = 0 ∨ j = 1 ∨ j = 2 ∨ j = 3 := by omega
      all_goals
        simp only [Int.natCast_zero, Int.natCast_one, Int.cast_ofNat_Int] at *
        simp (disch := first | assumption | omega | (simp only [az]; done)) only [ru, eq_self, if_true, if_false, BEq.rfl, binI, AO.row?, splice, fillL, mmAll, loadV, storeV, zeros, Am.rowAt, Am.part, addOff, Nat.reduceAdd, Nat.reduceMul, Nat.reduceLeDiff, Nat.reduceSub, Nat.reduceLT, Int.reduceEq, Int.reduceLT, Int.reduceLE, Int.reduceGT, Int.reduceGE, Int.reduceAdd, Int.reduceSub, Int.reduceMul, Int.reduceNeg, Int.reduceToNat, reduceCtorEq, reduceIte, wkC, hlt, H.fai, Int.toNat_natCast, lenV_sl V, view_sl V, scalar_sl V, cells_sl V, pure_sl V, at3, at2, lenE, s1, s2, aj, c1', gUn, decide_false, Nat.le_refl]
        exact ih' _ _ _ ⟨_, _, by omega, rfl, hq' false rj.symm, rfl, rfl, rfl, rfl, rfl, rfl, rfl, rfl, rfl⟩
    · rw [c1, Bool.true_and] at rj
      have c1' : dyP f.h.ks (prs f.h.ps x j) ≤ d := of_decide_eq_true c1
      obtain rfl | rfl | rfl | rfl : j = 0 ∨ j = 1 ∨ j = 2 ∨ j = 3 := by omega
      all_goals
        simp only [Int.natCast_zero, Int.natCast_one, Int.cast_ofNat_Int] at *
        simp (disch := first | assumption | omega | (simp only [az]; done)) only [ru, eq_self, if_true, if_false, BEq.rfl, binI, AO.row?, splice, fillL, mmAll, loadV, storeV, zeros, Am.rowAt, Am.part, addOff, Nat.reduceAdd, Nat.reduceMul, Nat.reduceLeDiff, Nat.reduceSub, Nat.reduceLT, Int.reduceEq, Int.reduceLT, Int.reduceLE, Int.reduceGT, Int.reduceGE, Int.reduceAdd, Int.reduceSub, Int.reduceMul, Int.reduceNeg, Int.reduceToNat, reduceCtorEq, reduceIte, wkC, hlt, H.fai, Int.toNat_natCast, lenV_sl V, view_sl V, scalar_sl V, cells_sl V, pure_sl V, at3, at2, lenE, s1, s2, aj, a2, c1', gUn, decide_true, Nat.le_refl]
        exact ih' _ _ _ ⟨_, _, by omega, rfl, hq' _ rj.symm, rfl, rfl, rfl, rfl, rfl, rfl, rfl, rfl, rfl⟩
  obtain ⟨u, hu, q, rfl, hq⟩ := key
  rw [hu]
  simp only [wkV, wkC, hq 0 (by omega) (by omega), hq 1 (by omega) (by omega), hq 2 (by omega) (by omega), hq 3 (by omega) (by omega)]
end
end Go.Proofs.YtfagcnokdnanpaaGreat.S
/-
Sales: what fits behind a sale, what is a sale, what it brings; a fair that is opened.
-/
namespace Go.Proofs.YtfagcnokdnanpaaGreat.S
open Go Go.Am Go.Proofs.YtfagcnokdnanpaaGreat.T
set_option maxRecDepth 100000
set_option linter.unusedSimpArgs false
set_option linter.unusedVariables false
theorem t123 {x : Bi} {v : AV} (V : IsSl 1 intL x.bs v) (hl : x.bs.length ≤ 41) {o : Nat} {g : List AO} (ho : g[o]? = some (.cells [I x.u, v, I x.c] false)) (n : Int) : Ro E 123 [I n, .ptr o 0] g = some (Bo (decide (n ∈ x.bs))) := by
  have ol := (List.getElem?_eq_some_iff.1 ho).1
  have a := fun st => t103 V (by omega) n st
  refine Ro_of (es _ _ _ _) e123 ?_
  simp only [f123]
  simp (disch := first | assumption | omega | (simp only [az]; done)) only [ru, eq_self, if_true, if_false, BEq.rfl, binI, AO.row?, splice, fillL, mmAll, loadV, storeV, zeros, Am.rowAt, Am.part, addOff, Nat.reduceAdd, Nat.reduceMul, Nat.reduceLeDiff, Nat.reduceSub, Nat.reduceLT, Int.reduceEq, Int.reduceLT, Int.reduceLE, Int.reduceGT, Int.reduceGE, Int.reduceAdd, Int.reduceSub, Int.reduceMul, Int.reduceNeg, Int.reduceToNat, reduceCtorEq, reduceIte, lenV_sl V, view_sl V, scalar_sl V, cells_sl V, pure_sl V, at_ap ol, ho, atE, lenE, a]
  rfl
theorem shr_eq {a b : Bi} : b.bs.any (fun x => decide (x ∈ a.bs)) = shr a b := rfl
section
variable {f : Fs} {k p b pv bv : AV} {w : Nat → AV}
theorem bAt_w (H : FsOk f k p b pv bv w) {i : Int} (h0 : 0 ≤ i) (hi : i < f.bids.length) : IsSl 1 intL (bAt f.bids i).bs (w i.toNat) ∧ (bAt f.bids i).bs.length ≤ 41 := ⟨H.bi.iw _ (by omega), H.nw _ (by omega)⟩
set_option maxHeartbeats 1000000 in
theorem t122 (H : FsOk f k p b pv bv w) {r : Int → Bool} {o F B Z : Nat} {g : List AO} (hF : g[F]? = some (.cells (wkC f k p b pv bv r o) false)) {c : Int} (h0 : 0 ≤ c) (hc : c < f.bids.length) (hB : g[B]? = some (.cells [I c] false))
    (hZ : g[Z]? = some (.cells [I (bAt f.bids c).u, w c.toNat, I (bAt f.bids c).c] false)) {x : Int} (x0 : 0 ≤ x) (hx : x < f.bids.length) : Ro E 122 [I x, .ptr F 0, .ptr B 0, .ptr Z 0] g = some (Bo (apB f.bids c x)) := by
  obtain ⟨V, lV⟩ := bAt_w H h0 hc
  obtain ⟨U, lU⟩ := bAt_w H x0 hx
  have nb := H.nb
  have l1 := (List.getElem?_eq_some_iff.1 hF).1
  have l2 := (List.getElem?_eq_some_iff.1 hB).1
  have l3 := (List.getElem?_eq_some_iff.1 hZ).1
  have a := cfC V lV (q := fun n => decide (n ∈ (bAt f.bids x).bs)) (k := 123) (cap := [.ptr g.length 0]) (h := g ++ [.cells [I (bAt f.bids x).u, w x.toNat, I (bAt f.bids x).c] false]) fun n _ => t123 U lU atE n
  rw [shr_eq] at a
  have ex := H.bi.el x x0 hx
  refine Ro_of (es _ _ _ _) e122 ?_
  simp only [f122, apB]
  by_cases c1 : x < c
  case neg =>
    simp (disch := first | assumption | omega | (simp only [az]; done)) only [ru, eq_self, if_true, if_false, BEq.rfl, binI, AO.row?, splice, fillL, mmAll, loadV, storeV, zeros, Am.rowAt, Am.part, addOff, Nat.reduceAdd, Nat.reduceMul, Nat.reduceLeDiff, Nat.reduceSub, Nat.reduceLT, Int.reduceEq, Int.reduceLT, Int.reduceLE, Int.reduceGT, Int.reduceGE, Int.reduceAdd, Int.reduceSub, Int.reduceMul, Int.reduceNeg, Int.reduceToNat, reduceCtorEq, reduceIte, wkC, lenV_sl U, view_sl U, scalar_sl U, cells_sl U, pure_sl U, lenV_sl V, view_sl V, scalar_sl V, cells_sl V, pure_sl V, at_ap l1, at_ap l2, at_ap l3, hF, hB, hZ, ex, atE, lenE, setE, Nat.le_refl, c1, gUn, decide_false, Bool.false_and]
    rfl
  by_cases c2 : (bAt f.bids x).u = (bAt f.bids c).u
  case pos =>
    have e2 : ((bAt f.bids x).u != (bAt f.bids c).u) = false := by simp [c2]
    simp (disch := first | assumption | omega | (simp only [az]; done)) only [ru, eq_self, if_true, if_false, BEq.rfl, binI, AO.row?, splice, fillL, mmAll, loadV, storeV, zeros, Am.rowAt, Am.part, addOff, Nat.reduceAdd, Nat.reduceMul, Nat.reduceLeDiff, Nat.reduceSub, Nat.reduceLT, Int.reduceEq, Int.reduceLT, Int.reduceLE, Int.reduceGT, Int.reduceGE, Int.reduceAdd, Int.reduceSub, Int.reduceMul, Int.reduceNeg, Int.reduceToNat, reduceCtorEq, reduceIte, wkC, lenV_sl U, view_sl U, scalar_sl U, cells_sl U, pure_sl U, lenV_sl V, view_sl V, scalar_sl V, cells_sl V, pure_sl V, at_ap l1, at_ap l2, at_ap l3, hF, hB, hZ, ex, atE, lenE, setE, Nat.le_refl, c1, e2, gUn, decide_true]
    simp [c2, AV.under]
  have e2 : ((bAt f.bids x).u != (bAt f.bids c).u) = true := by simp [c2]
  have e3 : decide ((bAt f.bids x).u ≠ (bAt f.bids c).u) = true := by simp [c2]
  simp (disch := first | assumption | omega | (simp only [az]; done)) only [ru, eq_self, if_true, if_false, BEq.rfl, binI, AO.row?, splice, fillL, mmAll, loadV, storeV, zeros, Am.rowAt, Am.part, addOff, Nat.reduceAdd, Nat.reduceMul, Nat.reduceLeDiff, Nat.reduceSub, Nat.reduceLT, Int.reduceEq, Int.reduceLT, Int.reduceLE, Int.reduceGT, Int.reduceGE, Int.reduceAdd, Int.reduceSub, Int.reduceMul, Int.reduceNeg, Int.reduceToNat, reduceCtorEq, reduceIte, wkC, lenV_sl U, view_sl U, scalar_sl U, cells_sl U, pure_sl U, lenV_sl V, view_sl V, scalar_sl V, cells_sl V, pure_sl V, at_ap l1, at_ap l2, at_ap l3, hF, hB, hZ, ex, atE, lenE, setE, Nat.le_refl, c1, e2, e3, a, gUn, decide_true, Bool.true_and]
  rfl
theorem t125 {r : Int → Bool} {o F : Nat} {g : List AO} (hF : g[F]? = some (.cells (wkC f k p b pv bv r o) false)) {x : Int} (x0 : 0 ≤ x) (hx : x < 4) : Ro E 125 [I x, .ptr F 0] g = some (Bo (r x)) := by
  have l1 := (List.getElem?_eq_some_iff.1 hF).1
  refine Ro_of (es _ _ _ _) e125 ?_
  simp only [f125]
  obtain rfl | rfl | rfl | rfl : x = 0 ∨ x = 1 ∨ x = 2 ∨ x = 3 := by omega
  all_goals
    simp (disch := first | assumption | omega | (simp only [az]; done)) only [ru, eq_self, if_true, if_false, BEq.rfl, binI, AO.row?, splice, fillL, mmAll, loadV, storeV, zeros, Am.rowAt, Am.part, addOff, Nat.reduceAdd, Nat.reduceMul, Nat.reduceLeDiff, Nat.reduceSub, Nat.reduceLT, Int.reduceEq, Int.reduceLT, Int.reduceLE, Int.reduceGT, Int.reduceGE, Int.reduceAdd, Int.reduceSub, Int.reduceMul, Int.reduceNeg, Int.reduceToNat, reduceCtorEq, reduceIte, wkC, at_ap l1, hF]
    rfl
def EaOk (g : List AO) (v : AV) (s : List Int) : Prop := v.scalar = true ∧ v.cells = [v] ∧ ∀ (X : List AO) (q : Int → Bool) (c : Nat) (cap : List AV), (∀ x ∈ s, ∀ Y, Ro E c (I x :: cap) ((g ++ X) ++ Y) = some (Bo (q x))) → Ro E 124 [v, .fn c [] cap] (g ++ X) = some (Bo (s.all q))
theorem EaOk.c {g : List AO} {v : AV} {s : List Int} (V : IsSl 1 intL s v) (hl : s.length ≤ 41) : EaOk g v s := ⟨scalar_sl V, cells_sl V, fun X q c cap hq => eaC V hl hq⟩
theorem EaOk.m {g : List AO} {n qo : Nat} {s : List Int} (L : Lq n g qo s) (hl : s.length ≤ 41) : EaOk g (.mr 1 qo 0 s.length n) s := ⟨rfl, rfl, fun X q c cap hq => eaM (L.fr (Fr.app g X)) hl hq⟩
set_option maxHeartbeats 1000000 in
theorem t100 (H : FsOk f k p b pv bv w) (G : FG f) {r : Int → Bool} {o : Nat} {g : List AO} {v : AV} {s : List Int} (V : EaOk g v s) (hs : ∀ x ∈ s, 0 ≤ x ∧ x < f.bids.length) {c : Int} (h0 : 0 ≤ c) (hc : c < f.bids.length) :
    Ro E 100 [wkV f k p b pv bv r o, v, I c] g = some (Bo (fitS r f.bids s c)) := by
  obtain ⟨v1, v2, v3⟩ := V
  obtain ⟨W, lW⟩ := bAt_w H h0 hc
  have nb := H.nb
  have G4 := G.h.nb
  have ec := H.bi.el c h0 hc
  have gc := (G.bg.at h0 hc).2.2.2.2.2
  have a1 := v3 [.cells (wkC f k p b pv bv r o) false, .cells [I c] false, .cells [I (bAt f.bids c).u, w c.toNat, I (bAt f.bids c).c] false] (apB f.bids c) 122 [.ptr g.length 0, .ptr (g.length + 1) 0, .ptr (g.length + 2) 0] fun x hx Y => by
    obtain ⟨x0, x1⟩ := hs x hx
    exact t122 H (o := o) (r := r) (by rw [List.append_assoc, List.getElem?_append_right (Nat.le_refl _), Nat.sub_self]; rfl) h0 hc (by rw [List.append_assoc, List.getElem?_append_right (by omega), Nat.add_sub_cancel_left]; rfl) (by rw [List.append_assoc, List.getElem?_append_right (by omega), Nat.add_sub_cancel_left]; rfl) x0 x1
  have a2 := eaC W lW (q := r) (c := 125) (cap := [.ptr g.length 0]) (h := g ++ [.cells (wkC f k p b pv bv r o) false, .cells [I c] false, .cells [I (bAt f.bids c).u, w c.toNat, I (bAt f.bids c).c] false]) fun x hx Y => t125 (f := f) (k := k) (p := p) (b := b) (pv := pv) (bv := bv) (o := o) (by rw [List.append_assoc, List.getElem?_append_right (Nat.le_refl _), Nat.sub_self]; rfl) (gc x hx).1 (by have := (gc x hx).2; omega)
  have ap3 : ∀ a b c : AO, g ++ [a] ++ [b] ++ [c] = g ++ [a, b, c] := fun a b c => by simp
  have at3 : ∀ a b : AO, (g ++ [a] ++ [b])[g.length]? = some a := fun a b => by simp
  have aA : ∀ a b c : AO, (g ++ [a, b, c])[g.length]? = some a := fun a b c => by simp
  have aC : ∀ a b c : AO, (g ++ [a, b, c])[g.length + 2]? = some c := fun a b c => by rw [List.getElem?_append_right (by omega), Nat.add_sub_cancel_left]; rfl
  have aD : ∀ a b c : AO, (g ++ [a, b, c])[g.length + 1 + 1]? = some c := aC
  have sC : ∀ a b c d : AO, (g ++ [a, b, c]).set (g.length + 1 + 1) d = g ++ [a, b, d] := fun a b c d => by rw [List.set_append_right _ _ (by omega), show g.length + 1 + 1 - g.length = 2 by omega]; rfl
  have gl : g.length ≤ g.length + 1 + 1 := by omega
  simp only [wkC] at a1 a2
  refine Ro_of (es _ _ _ _) e100 ?_
  simp only [f100, fitS]
  cases c1 : s.all (apB f.bids c)
  · rw [c1] at a1
    simp (disch := first | assumption | omega | (simp only [az]; done)) only [ru, eq_self, if_true, if_false, BEq.rfl, binI, AO.row?, splice, fillL, mmAll, loadV, storeV, zeros, Am.rowAt, Am.part, addOff, Nat.reduceAdd, Nat.reduceMul, Nat.reduceLeDiff, Nat.reduceSub, Nat.reduceLT, Int.reduceEq, Int.reduceLT, Int.reduceLE, Int.reduceGT, Int.reduceGE, Int.reduceAdd, Int.reduceSub, Int.reduceMul, Int.reduceNeg, Int.reduceToNat, reduceCtorEq, reduceIte, rmp, H.fai, Int.toNat_natCast, lenV_sl W, view_sl W, scalar_sl W, cells_sl W, pure_sl W, v1, v2, ec, at2, at3, ap3, aC, aD, aA, sC, gl, lenE, Nat.add_assoc, a1, gUn, Bool.false_and]
    rfl
  · rw [c1] at a1
    simp (disch := first | assumption | omega | (simp only [az]; done)) only [ru, eq_self, if_true, if_false, BEq.rfl, binI, AO.row?, splice, fillL, mmAll, loadV, storeV, zeros, Am.rowAt, Am.part, addOff, Nat.reduceAdd, Nat.reduceMul, Nat.reduceLeDiff, Nat.reduceSub, Nat.reduceLT, Int.reduceEq, Int.reduceLT, Int.reduceLE, Int.reduceGT, Int.reduceGE, Int.reduceAdd, Int.reduceSub, Int.reduceMul, Int.reduceNeg, Int.reduceToNat, reduceCtorEq, reduceIte, rmp, H.fai, Int.toNat_natCast, lenV_sl W, view_sl W, scalar_sl W, cells_sl W, pure_sl W, v1, v2, ec, at2, at3, ap3, aC, aD, aA, sC, gl, lenE, Nat.add_assoc, a1, a2, gUn, Bool.true_and]
    rfl
end
end Go.Proofs.YtfagcnokdnanpaaGreat.S
/-
Sales: what a sale brings, whether a list is a sale, which barrels are ready; a fair that is opened.
-/
namespace Go.Proofs.YtfagcnokdnanpaaGreat.S
open Go Go.Am Go.Proofs.YtfagcnokdnanpaaGreat.T
set_option maxRecDepth 100000
set_option linter.unusedSimpArgs false
set_option linter.unusedVariables false
section
variable {f : Fs} {k p b pv bv : AV} {w : Nat → AV}
set_option maxHeartbeats 1000000 in
theorem peM (H : FsOk f k p b pv bv w) (G : FG f) {r : Int → Bool} {o : Nat} {g : List AO} {s : List Int} {n qo : Nat} (V : Lq n g qo s) (hl : s.length ≤ 41) (hs : ∀ x ∈ s, 0 ≤ x ∧ x < f.bids.length) :
    Ro E 117 [wkV f k p b pv bv r o, .mr 1 qo 0 s.length n] g = some (I (prc f.bids s)) := by
  have nb := H.nb
  obtain ⟨C, hC, lC, tC⟩ := V.fr (Fr.app g [.cells (wkC f k p b pv bv r o) false])
  refine Ro_of (es _ _ _ _) e117 ?_
  simp only [f117]
  simp (disch := first | assumption | omega | (simp only [az]; done)) only [ru, eq_self, if_true, if_false, BEq.rfl, binI, AO.row?, splice, fillL, mmAll, loadV, storeV, zeros, Am.rowAt, Am.part, addOff, Nat.reduceAdd, Nat.reduceMul, Nat.reduceLeDiff, Nat.reduceSub, Nat.reduceLT, Int.reduceEq, Int.reduceLT, Int.reduceLE, Int.reduceGT, Int.reduceGE, Int.reduceAdd, Int.reduceSub, Int.reduceMul, Int.reduceNeg, Int.reduceToNat, reduceCtorEq, reduceIte, rmp, H.fai, Int.toNat_natCast, rmr, lenE]
  refine G_loop_ind (fun m ts hh mk => ∃ i : Nat, i ≤ s.length ∧ m = s.length - i ∧ hh = g ++ [.cells (wkC f k p b pv bv r o) false] ∧ ts.length = 25 ∧ ts.getD 2 .undef = .ptr g.length 0 ∧ ts.getD 5 .undef = I (prc f.bids (s.take i)) ∧ ts.getD 8 .undef = .mr 1 qo 0 s.length n ∧ ts.getD 9 .undef = I s.length ∧ ts.getD 10 .undef = I i ∧ mk = []) ?_ _ _ _ _
    ⟨0, Nat.zero_le _, rfl, rfl, rfl, rfl, rfl, rfl, rfl, rfl, rfl⟩
  rintro m ts hh mk ih ⟨i, hi, rfl, rfl, hl', q2, q5, q8, q9, q10, rfl⟩
  rw [lit_all hl']
  simp only [lit0, litS, Nat.reduceAdd, q2, q5, q8, q9, q10]
  simp (disch := first | assumption | omega | (simp only [az]; done)) only [ru, eq_self, if_true, if_false, BEq.rfl, binI, AO.row?, splice, fillL, mmAll, loadV, storeV, zeros, Am.rowAt, Am.part, addOff, Nat.reduceAdd, Nat.reduceMul, Nat.reduceLeDiff, Nat.reduceSub, Nat.reduceLT, Int.reduceEq, Int.reduceLT, Int.reduceLE, Int.reduceGT, Int.reduceGE, Int.reduceAdd, Int.reduceSub, Int.reduceMul, Int.reduceNeg, Int.reduceToNat, reduceCtorEq, reduceIte]
  by_cases hlt : (i : Int) < s.length
  case neg =>
    obtain rfl : i = s.length := by omega
    rw [List.take_length]
    simp (disch := first | assumption | omega | (simp only [az]; done)) only [ru, eq_self, if_true, if_false, BEq.rfl, binI, AO.row?, splice, fillL, mmAll, loadV, storeV, zeros, Am.rowAt, Am.part, addOff, Nat.reduceAdd, Nat.reduceMul, Nat.reduceLeDiff, Nat.reduceSub, Nat.reduceLT, Int.reduceEq, Int.reduceLT, Int.reduceLE, Int.reduceGT, Int.reduceGE, Int.reduceAdd, Int.reduceSub, Int.reduceMul, Int.reduceNeg, Int.reduceToNat, reduceCtorEq, reduceIte, hlt]
    rfl
  have hi' : i < s.length := by omega
  have hmem : s.getD i 0 ∈ s := getD_memI hi'
  have ep : elemAt 1 (.mr 1 qo 0 s.length n) (I i) = some (.ptr qo (0 + (i : Int).toNat * 1)) := by simp [elemAt, hlt]
  have eg : C[i]? = some (I (s.getD i 0)) := by
    have e1 : (C.take s.length)[i]? = C[i]? := List.getElem?_take_of_lt hi'
    rw [← e1, tC, flat1_get hi']
  have dr : (C.drop i).head? = some (I (s.getD i 0)) := by rw [List.head?_drop]; exact eg
  have hx := hs _ hmem
  have gx := G.bg.at hx.1 hx.2
  have bd := prc_bd G.bg (s := s.take i) fun y hy => hs y (List.mem_of_mem_take hy)
  have lt : (s.take i).length ≤ 41 := by rw [List.length_take]; omega
  have tk := take_snoc (d := 0) hi'
  have ps := prc_snoc (L := f.bids) (s := s.take i) (c := s.getD i 0)
  rw [← tk] at ps
  obtain ⟨x, ex⟩ : ∃ x, x = s.getD i 0 := ⟨_, rfl⟩
  rw [← ex] at hx gx ps dr
  have eb := H.bi.el x hx.1 hx.2
  obtain ⟨z, ez⟩ : ∃ z, z = prc f.bids (s.take i) := ⟨_, rfl⟩
  rw [← ez] at bd ps ⊢
  simp (disch := first | assumption | omega | (simp only [az]; done)) only [ru, eq_self, if_true, if_false, BEq.rfl, binI, AO.row?, splice, fillL, mmAll, loadV, storeV, zeros, Am.rowAt, Am.part, addOff, Nat.reduceAdd, Nat.reduceMul, Nat.reduceLeDiff, Nat.reduceSub, Nat.reduceLT, Int.reduceEq, Int.reduceLT, Int.reduceLE, Int.reduceGT, Int.reduceGE, Int.reduceAdd, Int.reduceSub, Int.reduceMul, Int.reduceNeg, Int.reduceToNat, reduceCtorEq, reduceIte, rmp, H.fai, Int.toNat_natCast, hlt, rmr, ep, hC, dr, Nat.zero_add, Nat.mul_one, atE, lenE, Int.toNat_natCast, ← ex, eb]
  exact ih (s.length - (i + 1)) _ _ _ (by omega) ⟨i + 1, by omega, rfl, rfl, rfl, rfl, by rw [ps]; rfl, rfl, rfl, rfl, rfl⟩
abbrev k4 : KT := .a [none, none, none, none]
set_option maxHeartbeats 1000000 in
theorem t61 (H : FsOk f k p b pv bv w) (G : FG f) : ∃ J, R E (.fn 61) [frV f k p b pv bv] [] 0 = some (wkV f k p b pv bv f.r 2, J) ∧ J.length = 3 ∧ J[2]? = some (.mpo k4 []) := by
  have a := t91 H G.h H.pk G.pk f.d (r := fun _ => false) (fun _ _ => rfl) (o := 2) (g := [.cells [k, I f.h.fl, p, b, pv, I f.d, I f.n, bv] false, .cells [.nils, I 0, .nils, .nils, .nils, I 0, I 0, .nils, Bo false, Bo false, Bo false, Bo false, .nilm] false, .mpo k4 []]) (by simp)
  simp only [wkV, wkC] at a
  refine (fun x => ?_ : (∃ u g', R E (.fn 61) [frV f k p b pv bv] [] 0 = some (u, g') ∧ (u = wkV f k p b pv bv f.r 2 ∧ g'.length = 3 ∧ g'[2]? = some (.mpo k4 []))) → _) (R_of _ (es _ _ _ _) e61 ?_)
  · obtain ⟨u, g', h1, rfl, h2, h3⟩ := x; exact ⟨g', h1, h2, h3⟩
  simp only [f61]
  simp (disch := first | assumption | omega | (simp only [az]; done)) only [ru, eq_self, if_true, if_false, BEq.rfl, binI, AO.row?, splice, fillL, mmAll, loadV, storeV, zeros, Am.rowAt, Am.part, addOff, Nat.reduceAdd, Nat.reduceMul, Nat.reduceLeDiff, Nat.reduceSub, Nat.reduceLT, Int.reduceEq, Int.reduceLT, Int.reduceLE, Int.reduceGT, Int.reduceGE, Int.reduceAdd, Int.reduceSub, Int.reduceMul, Int.reduceNeg, Int.reduceToNat, reduceCtorEq, reduceIte, rmp, H.fai, Int.toNat_natCast, a]
  rw [finC]
  exact ⟨_, rfl, rfl, rfl, rfl⟩
theorem c61 (H : FsOk f k p b pv bv w) (G : FG f) (g : List AO) : ∃ g', C2 E 61 [frV f k p b pv bv] g = some (wkV f k p b pv bv f.r (g.length + 2), g') ∧ Fr g g' ∧ g'.length = g.length + 3 ∧ g'[g.length + 2]? = some (.mpo k4 []) := by
  obtain ⟨J, hr, hl, hm⟩ := t61 H G
  have hp : AV.pureV.go [frV f k p b pv bv] = true := by simp only [AV.pureV.go, AV.pureV, pure_sl H.h.k, pure_sl H.h.p, pure_sl H.h.b, pure_sl H.pk, H.bi.pu, Bool.and_true]
  have := C2_of (h := g) hp hr
  refine ⟨g ++ J.map (AO.shift g.length), ?_, Fr.app g _, by simp [hl], ?_⟩
  · rw [this]
    congr 2
    simp only [wkV, wkC, AV.shift, AV.shift.go, sl_shift H.h.k, sl_shift H.h.p, sl_shift H.h.b, sl_shift H.pk, H.bi.sh, Nat.add_comm 2]
  · rw [List.getElem?_append_right (by omega), Nat.add_sub_cancel_left, List.getElem?_map, hm]; rfl
set_option maxHeartbeats 1000000 in
theorem t77 {r : Int → Bool} {o : Nat} (H : FsOk f k p b pv bv w) {g : List AO} {lim : Nat} (hlim : lim ≤ g.length) : ∃ u g', R E (.fn 77) [wkV f k p b pv bv r o] g lim = some (u, g') ∧ OutE intL 1 (g.length + 1) g' u (idx (fun i => r i) 4) := by
  refine R_of _ (es _ _ _ _) e77 ?_
  simp only [f77]
  have gl : lim ≤ g.length + 1 := by omega
  simp (disch := first | assumption | omega | (simp only [az]; done)) only [ru, eq_self, if_true, if_false, BEq.rfl, binI, AO.row?, splice, fillL, mmAll, loadV, storeV, zeros, Am.rowAt, Am.part, addOff, Nat.reduceAdd, Nat.reduceMul, Nat.reduceLeDiff, Nat.reduceSub, Nat.reduceLT, Int.reduceEq, Int.reduceLT, Int.reduceLE, Int.reduceGT, Int.reduceGE, Int.reduceAdd, Int.reduceSub, Int.reduceMul, Int.reduceNeg, Int.reduceToNat, reduceCtorEq, reduceIte, rmp, H.fai, Int.toNat_natCast, lenE]
  refine G_loop_ind (fun m ts hh mk => ∃ (i : Nat) (u : AV), i ≤ 4 ∧ m = 4 - i ∧ g.length + 1 ≤ hh.length ∧ OutE intL 1 (g.length + 1) hh u (idx (fun i => r i) i) ∧ ts.length = 19 ∧ ts.getD 3 .undef = u ∧ ts.getD 7 .undef = .agg [Bo (r 0), Bo (r 1), Bo (r 2), Bo (r 3)] ∧ ts.getD 8 .undef = I i ∧ mk = []) ?_ _ _ _ _
    ⟨0, .nils, by omega, rfl, by simp, .inl ⟨rfl, rfl⟩, rfl, rfl, rfl, rfl, rfl⟩
  rintro m ts hh mk ih ⟨i, u, hi, rfl, hle, ho, hl', q3, q7, q8, rfl⟩
  rw [lit_all hl']
  simp only [lit0, litS, Nat.reduceAdd, q3, q7, q8]
  simp (disch := first | assumption | omega | (simp only [az]; done)) only [ru, eq_self, if_true, if_false, BEq.rfl, binI, AO.row?, splice, fillL, mmAll, loadV, storeV, zeros, Am.rowAt, Am.part, addOff, Nat.reduceAdd, Nat.reduceMul, Nat.reduceLeDiff, Nat.reduceSub, Nat.reduceLT, Int.reduceEq, Int.reduceLT, Int.reduceLE, Int.reduceGT, Int.reduceGE, Int.reduceAdd, Int.reduceSub, Int.reduceMul, Int.reduceNeg, Int.reduceToNat, reduceCtorEq, reduceIte]
  by_cases hlt : (i : Int) < 4
  case neg =>
    obtain rfl : i = 4 := by omega
    simp (disch := first | assumption | omega | (simp only [az]; done)) only [ru, eq_self, if_true, if_false, BEq.rfl, binI, AO.row?, splice, fillL, mmAll, loadV, storeV, zeros, Am.rowAt, Am.part, addOff, Nat.reduceAdd, Nat.reduceMul, Nat.reduceLeDiff, Nat.reduceSub, Nat.reduceLT, Int.reduceEq, Int.reduceLT, Int.reduceLE, Int.reduceGT, Int.reduceGE, Int.reduceAdd, Int.reduceSub, Int.reduceMul, Int.reduceNeg, Int.reduceToNat, reduceCtorEq, reduceIte, hlt]
    exact ho
  have hi' : i < 4 := by omega
  have li := idx_len (f := fun i => r (i : Nat)) (n := i)
  obtain ⟨v', h', A, ho', hb', -⟩ := outE_ap (eb := 8) (lim := lim) intE intSc (by omega) (by omega) (by omega) ho hle gl (by omega) (i : Int)
  have es := idx_succ (f := fun i => r (i : Nat)) (n := i)
  obtain rfl | rfl | rfl | rfl : i = 0 ∨ i = 1 ∨ i = 2 ∨ i = 3 := by omega
  all_goals
    simp only [Int.natCast_zero, Int.natCast_one, Int.cast_ofNat_Int] at *
  · cases hc : r 0 <;> rw [hc] at es
    · simp only [Bool.false_eq_true, if_false, List.append_nil] at es
      simp (disch := first | assumption | omega | (simp only [az]; done)) only [ru, eq_self, if_true, if_false, BEq.rfl, binI, AO.row?, splice, fillL, mmAll, loadV, storeV, zeros, Am.rowAt, Am.part, addOff, Nat.reduceAdd, Nat.reduceMul, Nat.reduceLeDiff, Nat.reduceSub, Nat.reduceLT, Int.reduceEq, Int.reduceLT, Int.reduceLE, Int.reduceGT, Int.reduceGE, Int.reduceAdd, Int.reduceSub, Int.reduceMul, Int.reduceNeg, Int.reduceToNat, reduceCtorEq, reduceIte, hlt, hc]
      exact ih (4 - 1) _ _ _ (by omega) ⟨1, u, by omega, rfl, hle, by rw [es]; exact ho, rfl, rfl, by rw [hc]; rfl, rfl, rfl⟩
    · simp only [if_true] at es
      simp (disch := first | assumption | omega | (simp only [az]; done)) only [ru, eq_self, if_true, if_false, BEq.rfl, binI, AO.row?, splice, fillL, mmAll, loadV, storeV, zeros, Am.rowAt, Am.part, addOff, Nat.reduceAdd, Nat.reduceMul, Nat.reduceLeDiff, Nat.reduceSub, Nat.reduceLT, Int.reduceEq, Int.reduceLT, Int.reduceLE, Int.reduceGT, Int.reduceGE, Int.reduceAdd, Int.reduceSub, Int.reduceMul, Int.reduceNeg, Int.reduceToNat, reduceCtorEq, reduceIte, hlt, hc, exOp_litS, AV.pureV.go, AV.pureV, Bool.and_true, exOp_append, A]
      exact ih (4 - 1) _ _ _ (by omega) ⟨1, v', by omega, rfl, hb', by rw [es]; exact ho', rfl, rfl, by rw [hc]; rfl, rfl, rfl⟩
  · cases hc : r 1 <;> rw [hc] at es
    · simp only [Bool.false_eq_true, if_false, List.append_nil] at es
      simp (disch := first | assumption | omega | (simp only [az]; done)) only [ru, eq_self, if_true, if_false, BEq.rfl, binI, AO.row?, splice, fillL, mmAll, loadV, storeV, zeros, Am.rowAt, Am.part, addOff, Nat.reduceAdd, Nat.reduceMul, Nat.reduceLeDiff, Nat.reduceSub, Nat.reduceLT, Int.reduceEq, Int.reduceLT, Int.reduceLE, Int.reduceGT, Int.reduceGE, Int.reduceAdd, Int.reduceSub, Int.reduceMul, Int.reduceNeg, Int.reduceToNat, reduceCtorEq, reduceIte, hlt, hc]
      exact ih (4 - 2) _ _ _ (by omega) ⟨2, u, by omega, rfl, hle, by rw [es]; exact ho, rfl, rfl, by rw [hc]; rfl, rfl, rfl⟩
    · simp only [if_true] at es
      simp (disch := first | assumption | omega | (simp only [az]; done)) only [ru, eq_self, if_true, if_false, BEq.rfl, binI, AO.row?, splice, fillL, mmAll, loadV, storeV, zeros, Am.rowAt, Am.part, addOff, Nat.reduceAdd, Nat.reduceMul, Nat.reduceLeDiff, Nat.reduceSub, Nat.reduceLT, Int.reduceEq, Int.reduceLT, Int.reduceLE, Int.reduceGT, Int.reduceGE, Int.reduceAdd, Int.reduceSub, Int.reduceMul, Int.reduceNeg, Int.reduceToNat, reduceCtorEq, reduceIte, hlt, hc, exOp_litS, AV.pureV.go, AV.pureV, Bool.and_true, exOp_append, A]
      exact ih (4 - 2) _ _ _ (by omega) ⟨2, v', by omega, rfl, hb', by rw [es]; exact ho', rfl, rfl, by rw [hc]; rfl, rfl, rfl⟩
  · cases hc : r 2 <;> rw [hc] at es
    · simp only [Bool.false_eq_true, if_false, List.append_nil] at es
      simp (disch := first | assumption | omega | (simp only [az]; done)) only [ru, eq_self, if_true, if_false, BEq.rfl, binI, AO.row?, splice, fillL, mmAll, loadV, storeV, zeros, Am.rowAt, Am.part, addOff, Nat.reduceAdd, Nat.reduceMul, Nat.reduceLeDiff, Nat.reduceSub, Nat.reduceLT, Int.reduceEq, Int.reduceLT, Int.reduceLE, Int.reduceGT, Int.reduceGE, Int.reduceAdd, Int.reduceSub, Int.reduceMul, Int.reduceNeg, Int.reduceToNat, reduceCtorEq, reduceIte, hlt, hc]
      exact ih (4 - 3) _ _ _ (by omega) ⟨3, u, by omega, rfl, hle, by rw [es]; exact ho, rfl, rfl, by rw [hc]; rfl, rfl, rfl⟩
    · simp only [if_true] at es
      simp (disch := first | assumption | omega | (simp only [az]; done)) only [ru, eq_self, if_true, if_false, BEq.rfl, binI, AO.row?, splice, fillL, mmAll, loadV, storeV, zeros, Am.rowAt, Am.part, addOff, Nat.reduceAdd, Nat.reduceMul, Nat.reduceLeDiff, Nat.reduceSub, Nat.reduceLT, Int.reduceEq, Int.reduceLT, Int.reduceLE, Int.reduceGT, Int.reduceGE, Int.reduceAdd, Int.reduceSub, Int.reduceMul, Int.reduceNeg, Int.reduceToNat, reduceCtorEq, reduceIte, hlt, hc, exOp_litS, AV.pureV.go, AV.pureV, Bool.and_true, exOp_append, A]
      exact ih (4 - 3) _ _ _ (by omega) ⟨3, v', by omega, rfl, hb', by rw [es]; exact ho', rfl, rfl, by rw [hc]; rfl, rfl, rfl⟩
  · cases hc : r 3 <;> rw [hc] at es
    · simp only [Bool.false_eq_true, if_false, List.append_nil] at es
      simp (disch := first | assumption | omega | (simp only [az]; done)) only [ru, eq_self, if_true, if_false, BEq.rfl, binI, AO.row?, splice, fillL, mmAll, loadV, storeV, zeros, Am.rowAt, Am.part, addOff, Nat.reduceAdd, Nat.reduceMul, Nat.reduceLeDiff, Nat.reduceSub, Nat.reduceLT, Int.reduceEq, Int.reduceLT, Int.reduceLE, Int.reduceGT, Int.reduceGE, Int.reduceAdd, Int.reduceSub, Int.reduceMul, Int.reduceNeg, Int.reduceToNat, reduceCtorEq, reduceIte, hlt, hc]
      exact ih (4 - 4) _ _ _ (by omega) ⟨4, u, by omega, rfl, hle, by rw [es]; exact ho, rfl, rfl, by rw [hc]; rfl, rfl, rfl⟩
    · simp only [if_true] at es
      simp (disch := first | assumption | omega | (simp only [az]; done)) only [ru, eq_self, if_true, if_false, BEq.rfl, binI, AO.row?, splice, fillL, mmAll, loadV, storeV, zeros, Am.rowAt, Am.part, addOff, Nat.reduceAdd, Nat.reduceMul, Nat.reduceLeDiff, Nat.reduceSub, Nat.reduceLT, Int.reduceEq, Int.reduceLT, Int.reduceLE, Int.reduceGT, Int.reduceGE, Int.reduceAdd, Int.reduceSub, Int.reduceMul, Int.reduceNeg, Int.reduceToNat, reduceCtorEq, reduceIte, hlt, hc, exOp_litS, AV.pureV.go, AV.pureV, Bool.and_true, exOp_append, A]
      exact ih (4 - 4) _ _ _ (by omega) ⟨4, v', by omega, rfl, hb', by rw [es]; exact ho', rfl, rfl, by rw [hc]; rfl, rfl, rfl⟩
end
end Go.Proofs.YtfagcnokdnanpaaGreat.S
/-
All sales, one after another, in one list that is written in place.
-/
namespace Go.Proofs.YtfagcnokdnanpaaGreat.S
open Go Go.Am Go.Proofs.YtfagcnokdnanpaaGreat.T
set_option maxRecDepth 100000
set_option linter.unusedSimpArgs false
set_option linter.unusedVariables false
section
variable {f : Fs} {k p b pv bv : AV} {w : Nat → AV}
theorem isS_mem {r : Int → Bool} {L : List Bi} {s : List Int} (h : isS r L s = true) : ∀ x ∈ s, 0 ≤ x ∧ x < L.length := fun x hx => by
  obtain ⟨j, hj, rfl⟩ := mem_getD (d := 0) hx
  have := isS_at h hj; exact ⟨this.1, this.2.1⟩
set_option maxHeartbeats 4000000 in
theorem t134 (H : FsOk f k p b pv bv w) (G : FG f) {r : Int → Bool} {mo o q lim m : Nat} (hlim : lim ≤ o) (hoq : o < q) (hm : m ≤ 8) {P : List (List Int) → List AO → Prop} {Q : List AO → Prop}
    (hP : ∀ D g g', P D g → Lo o g g' → P D g')
    (hstep : ∀ D F g, Lq m g q F → P D g → F.length = m → isS r f.bids F = true → ∃ t g', R E (.rnd o) [.mr 1 q 0 F.length m] g lim = some (Bo t, g') ∧ ((t = true ∧ P (D ++ [F]) g' ∧ Fk (o + 1) g g') ∨ (t = false ∧ Q g'))) :
    ∀ (d : Nat) (F : List Int) (D : List (List Int)) (g : List AO), F.length + d = m → isS r f.bids F = true → Lq m g q F → P D g →
    ∃ t g', R E (.fn 134) [wkV f k p b pv bv r mo, .mr 1 q 0 F.length m, I m, .yld o] g lim = some (Bo t, g') ∧ ((t = true ∧ P (D ++ ens (isS r f.bids) (upto f.bids.length) d F) g' ∧ Hi o q g g' ∧ Lq m g' q F) ∨ (t = false ∧ Q g')) := by
  have nb := G.bg.l
  intro d
  induction d with
  | zero =>
    intro F D g hd hF L hp
    have hl : (F.length : Int) = m := by omega
    obtain ⟨g2, hg2⟩ : ∃ g2 : List AO, g2 = g ++ [.cells (wkC f k p b pv bv r mo) false] := ⟨_, rfl⟩
    have fr : Fr g g2 := by rw [hg2]; exact Fr.app g _
    have lt := L.lt
    obtain ⟨t, g', hr, hp'⟩ := hstep D F g2 (L.fr fr) (hP _ _ _ hp ⟨fr.l, fun j hj => fr.k j (by omega)⟩) (by omega) hF
    rw [hg2] at hr
    refine (fun x => ?_ : (∃ u g', R E (.fn 134) [wkV f k p b pv bv r mo, .mr 1 q 0 F.length m, I m, .yld o] g lim = some (u, g') ∧ (∃ t, u = Bo t ∧ ((t = true ∧ P (D ++ ens (isS r f.bids) (upto f.bids.length) 0 F) g' ∧ Hi o q g g' ∧ Lq m g' q F) ∨ (t = false ∧ Q g')))) → _) (R_of _ (es _ _ _ _) e134 ?_)
    · obtain ⟨u, g', hr, t, rfl, hh⟩ := x; exact ⟨t, g', hr, hh⟩
    simp only [f134]
    simp only [wkC] at hr
    have e1 : ((F.length : Int) == (m : Int)) = true := by simp [hl]
    simp (disch := first | assumption | omega | (simp only [az]; done)) only [ru, eq_self, if_true, if_false, BEq.rfl, binI, AO.row?, splice, fillL, mmAll, loadV, storeV, zeros, Am.rowAt, Am.part, addOff, Nat.reduceAdd, Nat.reduceMul, Nat.reduceLeDiff, Nat.reduceSub, Nat.reduceLT, Int.reduceEq, Int.reduceLT, Int.reduceLE, Int.reduceGT, Int.reduceGE, Int.reduceAdd, Int.reduceSub, Int.reduceMul, Int.reduceNeg, Int.reduceToNat, reduceCtorEq, reduceIte, rmp, H.fai, Int.toNat_natCast, rmr, e1, lenE, exOp_callv0, hr]
    refine ⟨t, rfl, ?_⟩
    rcases hp' with ⟨e, h1, h2⟩ | h1
    · refine .inl ⟨e, ?_, (Hi.of fr).trans (Hi.ofk h2), (L.fr fr).fk h2 hoq⟩
      simp only [ens, hF, if_true]; exact h1
    · exact .inr h1
  | succ d ih =>
    intro F D g hd hF L hp
    have e1 : ((F.length : Int) == (m : Int)) = false := by simp; omega
    have lt := L.lt
    obtain ⟨g2, hg2⟩ : ∃ g2 : List AO, g2 = g ++ [.cells (wkC f k p b pv bv r mo) false] := ⟨_, rfl⟩
    have fr : Fr g g2 := by rw [hg2]; exact Fr.app g _
    have g20 : g2[g.length]? = some (.cells (wkC f k p b pv bv r mo) false) := by rw [hg2]; simp
    have hFm := isS_mem hF
    have ihc := fun (c : Nat) => ih (F ++ [(c : Int)])
    simp only [List.length_append, List.length_singleton] at ihc
    refine (fun x => ?_ : (∃ u g', R E (.fn 134) [wkV f k p b pv bv r mo, .mr 1 q 0 F.length m, I m, .yld o] g lim = some (u, g') ∧ (∃ t, u = Bo t ∧ ((t = true ∧ P (D ++ ens (isS r f.bids) (upto f.bids.length) (d + 1) F) g' ∧ Hi o q g g' ∧ Lq m g' q F) ∨ (t = false ∧ Q g')))) → _) (R_of _ (es _ _ _ _) e134 ?_)
    · obtain ⟨u, g', hr, t, rfl, hh⟩ := x; exact ⟨t, g', hr, hh⟩
    simp only [f134]
    simp (disch := first | assumption | omega | (simp only [az]; done)) only [ru, eq_self, if_true, if_false, BEq.rfl, binI, AO.row?, splice, fillL, mmAll, loadV, storeV, zeros, Am.rowAt, Am.part, addOff, Nat.reduceAdd, Nat.reduceMul, Nat.reduceLeDiff, Nat.reduceSub, Nat.reduceLT, Int.reduceEq, Int.reduceLT, Int.reduceLE, Int.reduceGT, Int.reduceGE, Int.reduceAdd, Int.reduceSub, Int.reduceMul, Int.reduceNeg, Int.reduceToNat, reduceCtorEq, reduceIte, rmp, H.fai, Int.toNat_natCast, rmr, e1, lenE, atE]
    rw [← hg2]
    refine G_loop_ind (fun y ts hk mk => ∃ (j : Nat), j ≤ f.bids.length ∧ y = f.bids.length - j ∧ Hi o q g hk ∧ Lq m hk q F ∧ hk[g.length]? = some (.cells (wkC f k p b pv bv r mo) false) ∧ P (D ++ enP (isS r f.bids) (upto f.bids.length) d F 0 j) hk ∧
      ts.length = 40 ∧ ts.getD 1 .undef = .mr 1 q 0 F.length m ∧ ts.getD 2 .undef = I m ∧ ts.getD 3 .undef = .yld o ∧ ts.getD 4 .undef = .ptr g.length 0 ∧ ts.getD 20 .undef = I f.bids.length ∧ ts.getD 21 .undef = I j ∧ mk = []) ?_ f.bids.length _ _ _ ?_
    rotate_left
    · exact ⟨0, Nat.zero_le _, rfl, Hi.of fr, L.fr fr, g20, by rw [enP_zero, List.append_nil]; exact hP _ _ _ hp ⟨fr.l, fun j hj => fr.k j (by omega)⟩, rfl, rfl, rfl, rfl, rfl, rfl, rfl, rfl⟩
    rintro y ts hk mk ihk ⟨j, hj, rfl, hi, Lk, c0, hpk, hl', q1, q2, q3, q4, q20, q21, rfl⟩
    rw [lit_all hl']
    simp only [lit0, litS, Nat.reduceAdd, q1, q2, q3, q4, q20, q21]
    simp (disch := first | assumption | omega | (simp only [az]; done)) only [ru, eq_self, if_true, if_false, BEq.rfl, binI, AO.row?, splice, fillL, mmAll, loadV, storeV, zeros, Am.rowAt, Am.part, addOff, Nat.reduceAdd, Nat.reduceMul, Nat.reduceLeDiff, Nat.reduceSub, Nat.reduceLT, Int.reduceEq, Int.reduceLT, Int.reduceLE, Int.reduceGT, Int.reduceGE, Int.reduceAdd, Int.reduceSub, Int.reduceMul, Int.reduceNeg, Int.reduceToNat, reduceCtorEq, reduceIte]
    by_cases hlt : (j : Int) < f.bids.length
    case neg =>
      obtain rfl : j = f.bids.length := by omega
      simp (disch := first | assumption | omega | (simp only [az]; done)) only [ru, eq_self, if_true, if_false, BEq.rfl, binI, AO.row?, splice, fillL, mmAll, loadV, storeV, zeros, Am.rowAt, Am.part, addOff, Nat.reduceAdd, Nat.reduceMul, Nat.reduceLeDiff, Nat.reduceSub, Nat.reduceLT, Int.reduceEq, Int.reduceLT, Int.reduceLE, Int.reduceGT, Int.reduceGE, Int.reduceAdd, Int.reduceSub, Int.reduceMul, Int.reduceNeg, Int.reduceToNat, reduceCtorEq, reduceIte, hlt]
      refine ⟨true, rfl, .inl ⟨rfl, ?_, hi, Lk⟩⟩
      simp only [ens, hF, if_true]
      simp only [enP, csL_zero] at hpk
      exact hpk
    have hj2 : j < f.bids.length := by omega
    have es2 := enP_succ (ok := isS r f.bids) (cs := upto f.bids.length) (d := d) (F := F) (lo := 0) (k := j)
    rw [Int.zero_add] at es2
    have a1 := t100 H G (r := r) (o := mo) (EaOk.m Lk (by omega)) hFm (c := (j : Int)) (by omega) hlt
    have ef : isS r f.bids (F ++ [(j : Int)]) = fitS r f.bids F j := by
      rw [isS_snoc, hF, inR_iff.2 ⟨by omega, by omega⟩]; simp
    have ihj := ihc j
    have m0 : g.length < hk.length := (List.getElem?_eq_some_iff.1 c0).1
    simp only [wkV, wkC] at a1 ihj c0
    cases hf : fitS r f.bids F (j : Int)
    · rw [hf] at a1
      simp (disch := first | assumption | omega | (simp only [az]; done)) only [ru, eq_self, if_true, if_false, BEq.rfl, binI, AO.row?, splice, fillL, mmAll, loadV, storeV, zeros, Am.rowAt, Am.part, addOff, Nat.reduceAdd, Nat.reduceMul, Nat.reduceLeDiff, Nat.reduceSub, Nat.reduceLT, Int.reduceEq, Int.reduceLT, Int.reduceLE, Int.reduceGT, Int.reduceGE, Int.reduceAdd, Int.reduceSub, Int.reduceMul, Int.reduceNeg, Int.reduceToNat, reduceCtorEq, reduceIte, rmp, H.fai, Int.toNat_natCast, rmr, hlt, c0, a1, gUn, at_ap m0, atE, setE, lenE, Bool.not_false]
      refine ihk (f.bids.length - (j + 1)) _ _ _ (by omega) ⟨j + 1, by omega, rfl, hi, Lk, c0, ?_, rfl, rfl, rfl, rfl, rfl, rfl, rfl, rfl⟩
      rw [es2, ens_no (by rw [ef, hf]), List.append_nil]
      exact hpk
    rw [hf] at a1 ef
    obtain ⟨g3, hw, g3l, g3k, L3⟩ := Lk.put (lim := lim) (by omega) (by omega) (j : Int)
    have d0 : g3[g.length]? = some (.cells (wkC f k p b pv bv r mo) false) := by rw [g3k _ (by omega)]; exact c0
    have n0 : (g.length != q) = true := by simp; omega
    have n0' : (q != g.length) = true := by simp; omega
    have hLo : Lo o hk g3 := ⟨by omega, fun i hi => by rw [g3k i (by omega)]⟩
    have hHi : Hi o q hk g3 := ⟨by omega, fun i h1 h2 h3 => by rw [g3k i h3]⟩
    obtain ⟨t, g', hr, hp'⟩ := ihj (D ++ enP (isS r f.bids) (upto f.bids.length) d F 0 j) g3 (by omega) ef L3 (hP _ _ _ hpk hLo)
    rcases hp' with ⟨rfl, hp', hi', Lk'⟩ | ⟨rfl, hq⟩
    · simp (disch := first | assumption | omega | (simp only [az]; done)) only [ru, eq_self, if_true, if_false, BEq.rfl, binI, AO.row?, splice, fillL, mmAll, loadV, storeV, zeros, Am.rowAt, Am.part, addOff, Nat.reduceAdd, Nat.reduceMul, Nat.reduceLeDiff, Nat.reduceSub, Nat.reduceLT, Int.reduceEq, Int.reduceLT, Int.reduceLE, Int.reduceGT, Int.reduceGE, Int.reduceAdd, Int.reduceSub, Int.reduceMul, Int.reduceNeg, Int.reduceToNat, reduceCtorEq, reduceIte, rmp, H.fai, Int.toNat_natCast, rmr, hlt, c0, a1, exOp_wAppM, objIsA, objNotA, BEq.rfl, n0, n0', hw, d0, at_ap m0, atE, setE, lenE, Bool.not_true, exOp_call0, hr, exOp_litS, AV.pureV.go, AV.pureV, Bool.and_true]
      refine ihk (f.bids.length - (j + 1)) _ _ _ (by omega) ⟨j + 1, by omega, rfl, hi.trans (hHi.trans hi'), Lk'.init, hi'.at (by omega) (by omega) d0, ?_, rfl, rfl, rfl, rfl, rfl, rfl, rfl, rfl⟩
      rw [es2, ← List.append_assoc]; exact hp'
    · simp (disch := first | assumption | omega | (simp only [az]; done)) only [ru, eq_self, if_true, if_false, BEq.rfl, binI, AO.row?, splice, fillL, mmAll, loadV, storeV, zeros, Am.rowAt, Am.part, addOff, Nat.reduceAdd, Nat.reduceMul, Nat.reduceLeDiff, Nat.reduceSub, Nat.reduceLT, Int.reduceEq, Int.reduceLT, Int.reduceLE, Int.reduceGT, Int.reduceGE, Int.reduceAdd, Int.reduceSub, Int.reduceMul, Int.reduceNeg, Int.reduceToNat, reduceCtorEq, reduceIte, rmp, H.fai, Int.toNat_natCast, rmr, hlt, c0, a1, exOp_wAppM, objIsA, objNotA, BEq.rfl, n0, n0', hw, d0, at_ap m0, atE, setE, lenE, Bool.not_false, exOp_call0, hr, exOp_litS, AV.pureV.go, AV.pureV, Bool.and_true]
      exact ⟨false, rfl, .inr ⟨rfl, hq⟩⟩
end
end Go.Proofs.YtfagcnokdnanpaaGreat.S
/-
All sales: the function that a loop ranges over; the best of those that are meant.
-/
namespace Go.Proofs.YtfagcnokdnanpaaGreat.S
open Go Go.Am Go.Proofs.YtfagcnokdnanpaaGreat.T
set_option maxRecDepth 100000
set_option linter.unusedSimpArgs false
set_option linter.unusedVariables false
theorem salT_succ {r : Int → Bool} {L : List Bi} {k : Nat} : salT r L (k + 1) = salT r L k ++ sals r L k := by
  simp [salT, List.range_succ]
section
variable {f : Fs} {k p b pv bv : AV} {w : Nat → AV}
set_option maxHeartbeats 2000000 in
theorem t116 (H : FsOk f k p b pv bv w) (G : FG f) {r : Int → Bool} {mo o lim : Nat} (hlim : lim ≤ o) {P : List (List Int) → List AO → Prop} {Q : List AO → Prop}
    (hP : ∀ D g g', P D g → Lo o g g' → P D g')
    (hstep : ∀ m q D F g, o < q → Lq m g q F → P D g → F.length = m → isS r f.bids F = true → ∃ t g', R E (.rnd o) [.mr 1 q 0 F.length m] g lim = some (Bo t, g') ∧ ((t = true ∧ P (D ++ [F]) g' ∧ Fk (o + 1) g g') ∨ (t = false ∧ Q g')))
    {g : List AO} (ho : o < g.length) (h0 : P [] g) : ∃ u g', R E (.fn 116) [wkV f k p b pv bv r mo, .yld o] g lim = some (u, g') ∧ (P (allS r f.bids) g' ∨ Q g') := by
  have nb := G.bg.l
  refine R_of _ (es _ _ _ _) e116 ?_
  simp only [f116]
  have wr1 : wr .i64 ((f.bids.length : Int) + 1) = (f.bids.length : Int) + 1 := by simp [wr]; omega
  simp (disch := first | assumption | omega | (simp only [az]; done)) only [ru, eq_self, if_true, if_false, BEq.rfl, binI, AO.row?, splice, fillL, mmAll, loadV, storeV, zeros, Am.rowAt, Am.part, addOff, Nat.reduceAdd, Nat.reduceMul, Nat.reduceLeDiff, Nat.reduceSub, Nat.reduceLT, Int.reduceEq, Int.reduceLT, Int.reduceLE, Int.reduceGT, Int.reduceGE, Int.reduceAdd, Int.reduceSub, Int.reduceMul, Int.reduceNeg, Int.reduceToNat, reduceCtorEq, reduceIte, rmp, H.fai, Int.toNat_natCast, rmr, lenE, atE]
  refine G_loop_ind (fun y ts hk mk => ∃ (j : Nat), j ≤ f.bids.length + 1 ∧ y = f.bids.length + 1 - j ∧ g.length < hk.length ∧ hk[g.length]? = some (.cells (wkC f k p b pv bv r mo) false) ∧ P (salT r f.bids j) hk ∧
      ts.length = 21 ∧ ts.getD 1 .undef = .yld o ∧ ts.getD 2 .undef = .ptr g.length 0 ∧ ts.getD 9 .undef = I ((f.bids.length : Int) + 1) ∧ ts.getD 10 .undef = I j ∧ mk = []) ?_ (f.bids.length + 1) _ _ _ ?_
  rotate_left
  · exact ⟨0, Nat.zero_le _, rfl, by simp, by simp, hP _ _ _ h0 ⟨by simp, fun j hj => List.getElem?_append_left (by omega)⟩, rfl, rfl, rfl, rfl, rfl, rfl⟩
  rintro y ts hk mk ihk ⟨j, hj, rfl, m0, c0, hpk, hl', q1, q2, q9, q10, rfl⟩
  rw [lit_all hl']
  simp only [lit0, litS, Nat.reduceAdd, q1, q2, q9, q10]
  simp (disch := first | assumption | omega | (simp only [az]; done)) only [ru, eq_self, if_true, if_false, BEq.rfl, binI, AO.row?, splice, fillL, mmAll, loadV, storeV, zeros, Am.rowAt, Am.part, addOff, Nat.reduceAdd, Nat.reduceMul, Nat.reduceLeDiff, Nat.reduceSub, Nat.reduceLT, Int.reduceEq, Int.reduceLT, Int.reduceLE, Int.reduceGT, Int.reduceGE, Int.reduceAdd, Int.reduceSub, Int.reduceMul, Int.reduceNeg, Int.reduceToNat, reduceCtorEq, reduceIte]
  by_cases hlt : (j : Int) < (f.bids.length : Int) + 1
  case neg =>
    obtain rfl : j = f.bids.length + 1 := by omega
    simp (disch := first | assumption | omega | (simp only [az]; done)) only [ru, eq_self, if_true, if_false, BEq.rfl, binI, AO.row?, splice, fillL, mmAll, loadV, storeV, zeros, Am.rowAt, Am.part, addOff, Nat.reduceAdd, Nat.reduceMul, Nat.reduceLeDiff, Nat.reduceSub, Nat.reduceLT, Int.reduceEq, Int.reduceLT, Int.reduceLE, Int.reduceGT, Int.reduceGE, Int.reduceAdd, Int.reduceSub, Int.reduceMul, Int.reduceNeg, Int.reduceToNat, reduceCtorEq, reduceIte, hlt, fin0, fin0n]
    exact .inl hpk
  have hj2 : j ≤ 8 := by omega
  obtain ⟨g2, hg2⟩ : ∃ g2 : List AO, g2 = hk ++ [.cells (List.replicate j (I 0)) false] := ⟨_, rfl⟩
  have fr : Fr hk g2 := by rw [hg2]; exact Fr.app hk _
  have L0 : Lq j g2 hk.length [] := ⟨List.replicate j (I 0), by rw [hg2]; simp, by simp, by simp⟩
  obtain ⟨t, g', hr, hp⟩ := t134 H G (mo := mo) (q := hk.length) hlim (by omega) hj2 hP (fun D F g => hstep _ _ D F g (by omega)) j [] (salT r f.bids j) g2 (by simp) isS_nil L0 (hP _ _ _ hpk ⟨fr.l, fun i hi => fr.k i (by omega)⟩)
  rw [hg2] at hr
  simp only [wkV, wkC, List.length_nil] at hr c0
  have b0 : (0 : Int) ≤ (j : Int) := by omega
  have b8 : (8 : Int) * (j : Int) ≤ 140737488355328 := by omega
  rcases hp with ⟨rfl, hp, hi, _⟩ | ⟨rfl, hq⟩
  · simp (disch := first | assumption | omega | (simp only [az]; done)) only [ru, eq_self, if_true, if_false, BEq.rfl, binI, AO.row?, splice, fillL, mmAll, loadV, storeV, zeros, Am.rowAt, Am.part, addOff, Nat.reduceAdd, Nat.reduceMul, Nat.reduceLeDiff, Nat.reduceSub, Nat.reduceLT, Int.reduceEq, Int.reduceLT, Int.reduceLE, Int.reduceGT, Int.reduceGE, Int.reduceAdd, Int.reduceSub, Int.reduceMul, Int.reduceNeg, Int.reduceToNat, reduceCtorEq, reduceIte, rmp, H.fai, Int.toNat_natCast, rmr, hlt, c0, at_ap m0, atE, setE, lenE, GO_smakeR, GO_mcall0, unhN, unhC, exOp_call0, hr, b0, b8, flat_rep, Int.natCast_zero, Bool.not_true, Int.toNat_natCast]
    have hS : P (salT r f.bids (j + 1)) g' := by rw [salT_succ]; exact hp
    refine ihk (f.bids.length + 1 - (j + 1)) _ _ _ (by omega) ⟨j + 1, by omega, rfl, by have := hi.l; have := fr.l; omega, hi.at (by omega) (by omega) (fr.at c0), hS, rfl, rfl, rfl, rfl, rfl, rfl⟩
  · simp (disch := first | assumption | omega | (simp only [az]; done)) only [ru, eq_self, if_true, if_false, BEq.rfl, binI, AO.row?, splice, fillL, mmAll, loadV, storeV, zeros, Am.rowAt, Am.part, addOff, Nat.reduceAdd, Nat.reduceMul, Nat.reduceLeDiff, Nat.reduceSub, Nat.reduceLT, Int.reduceEq, Int.reduceLT, Int.reduceLE, Int.reduceGT, Int.reduceGE, Int.reduceAdd, Int.reduceSub, Int.reduceMul, Int.reduceNeg, Int.reduceToNat, reduceCtorEq, reduceIte, rmp, H.fai, Int.toNat_natCast, rmr, hlt, c0, at_ap m0, atE, setE, lenE, GO_smakeR, GO_mcall0, unhN, unhC, exOp_call0, hr, b0, b8, flat_rep, Int.natCast_zero, Bool.not_false, Int.toNat_natCast, fin0, fin0n]
    exact .inr hq
end
end Go.Proofs.YtfagcnokdnanpaaGreat.S
/-
The best of the sales that are meant.
-/
namespace Go.Proofs.YtfagcnokdnanpaaGreat.S
open Go Go.Am Go.Proofs.YtfagcnokdnanpaaGreat.T
set_option maxRecDepth 100000
set_option linter.unusedSimpArgs false
set_option linter.unusedVariables false
theorem G_range_gen {X : Cx} {f : Opd} {ps : List Nat} {sa bd : ACode} {k : List KF} {ts : List AV} {h : List AO} {mk : List Nat} (H : ∀ TS AS BD, TS = ts → AS = sa → BD = bd → G X (.rangeFunc f ps AS BD) k TS h mk) : G X (.rangeFunc f ps sa bd) k ts h mk := H ts sa bd rfl rfl rfl
theorem G_at {X : Cx} {a b : ACode} {k : List KF} {ts ts' : List AV} {h : List AO} {mk : List Nat} (ea : a = b) (et : ts = ts') (h' : G X b k ts' h mk) : G X a k ts h mk := by rw [ea, et]; exact h'
def bV (x : List Int × Int) : AV := if x.2 < 0 then .nils else slV 1 intL x.1
theorem bV_is {L : List Bi} {p : List Int → Bool} {l : List (List Int)} (h0 : ∀ s ∈ l, 0 ≤ prc L s) : IsSl 1 intL (bsT L p l).1 (bV (bsT L p l)) := by
  unfold bV
  split
  · rename_i h
    have sp := (bsT_spec (L := L) (p := p) l h0).2
    generalize (bsT L p l) = z at sp h
    rcases sp with ⟨_, e, _⟩ | ⟨a, b, e1, _, e3, _⟩
    · rw [e]; exact .inr ⟨rfl, rfl⟩
    · have := h0 z.1 (by rw [e1]; simp)
      omega
  · exact slV_is
theorem c118 {F : List Int} {m q : Nat} {g : List AO} (L : Lq m g q F) (hl : F.length ≤ 1000) : C2 E 118 [.mr 1 q 0 F.length m] g = some (slV 1 intL F, g) := by
  obtain ⟨C, h1, h2, h3⟩ := L
  have hv : Am.view false g 8 (.mr 1 q 0 F.length m) = some (slV 1 intL F) := by
    have hr : Am.rowOf g (.mr 1 q 0 F.length m) = some (F.flatMap intL) := by
      simp only [Am.rowOf, Am.rowAt, h1, Option.bind_some, AO.row?, List.drop_zero, Nat.mul_one, h3]
      rw [if_pos (flat1 F)]
    have hi : (F.flatMap intL).mapM (view false g 7) = some (F.flatMap intL) := flat_view (enc := intL) intIv F
    simp only [Am.view, hr, hi]; rfl
  obtain ⟨o, h', A, fr, ho, hc⟩ := cpyO (eb := 8) (lim := 0) (h := ([] : List AO)) (slV_is (esz := 1) (enc := intL) (l := F)) intE intSc (by omega) (by omega) (Nat.zero_le _)
  simp only [slV, apN, len0, List.nil_append, List.length_nil] at A
  have hr : ∃ r h1, R E (.fn 118) [.cs 1 F.length (F.flatMap intL)] [] 0 = some (r, h1) ∧ (r = .ms 1 o 0 F.length ∧ h1 = h') := by
    refine R_of (fun r h1 => r = .ms 1 o 0 F.length ∧ h1 = h') (es _ _ _ _) e118 ?_
    simp only [f118]
    simp (disch := first | assumption | omega | (simp only [az]; done)) only [ru, eq_self, if_true, if_false, BEq.rfl, binI, AO.row?, splice, fillL, mmAll, loadV, storeV, zeros, Am.rowAt, Am.part, addOff, Nat.reduceAdd, Nat.reduceMul, Nat.reduceLeDiff, Nat.reduceSub, Nat.reduceLT, Int.reduceEq, Int.reduceLT, Int.reduceLE, Int.reduceGT, Int.reduceGE, Int.reduceAdd, Int.reduceSub, Int.reduceMul, Int.reduceNeg, Int.reduceToNat, reduceCtorEq, reduceIte, pex_isNil, A]
  obtain ⟨_, _, hr, rfl, rfl⟩ := hr
  have hv2 := viewB hc (st := true) (n := 7)
  simp only [C2, List.mapM_cons, List.mapM_nil, hv]
  rw [if_neg (by simp [AV.pureV.go, AV.pureV])]
  simp only [slV, Option.pure_def, Option.bind_eq_bind, Option.bind_some, hr, hv2, Option.map_some]
section
variable {f : Fs} {k p b pv bv : AV} {w : Nat → AV}
set_option maxHeartbeats 4000000 in
theorem t81 (H : FsOk f k p b pv bv w) (G : FG f) {r : Int → Bool} {mo : Nat} {g : List AO} {K : Nat} {cap : List AV} {pm : List Int → Bool} (hmo : mo < g.length)
    (hK : ∀ hk, Fr g hk → ∀ q m F, g.length ≤ q → Lq m hk q F → isS r f.bids F = true → Ro E K (.mr 1 q 0 F.length m :: cap) hk = some (Bo (pm F))) :
    Ro E 81 [wkV f k p b pv bv r mo, .fn K [] cap] g = some (.tup [bV (bsT f.bids pm (allS r f.bids)), I (bsT f.bids pm (allS r f.bids)).2]) := by
  have nb := G.bg.l
  refine Ro_of (es _ _ _ _) e81 ?_
  simp only [f81]
  simp (disch := first | assumption | omega | (simp only [az]; done)) only [ru, eq_self, if_true, if_false, BEq.rfl, binI, AO.row?, splice, fillL, mmAll, loadV, storeV, zeros, Am.rowAt, Am.part, addOff, Nat.reduceAdd, Nat.reduceMul, Nat.reduceLeDiff, Nat.reduceSub, Nat.reduceLT, Int.reduceEq, Int.reduceLT, Int.reduceLE, Int.reduceGT, Int.reduceGE, Int.reduceAdd, Int.reduceSub, Int.reduceMul, Int.reduceNeg, Int.reduceToNat, reduceCtorEq, reduceIte, rmp, H.fai, Int.toNat_natCast, rmr, List.append_assoc, List.cons_append, List.nil_append, List.length_append, List.length_cons, List.length_nil, Nat.zero_add, Nat.add_assoc, atT, atT0, setT, setT0, List.getElem?_cons_succ, List.getElem?_cons_zero, List.set_cons_succ, List.set_cons_zero, Nat.le_add_right, Nat.le_refl]
  obtain ⟨n, hn⟩ : ∃ n, n = g.length := ⟨_, rfl⟩
  refine G_range_gen fun TS AS BD hTS hAS hBD => ?_
  obtain ⟨H1, hH1⟩ : ∃ H1 : List AO, H1 = g ++ [.cells (wkC f k p b pv bv r mo) false, .cells [.fn K [] cap] false, .cells [.nils] false, .cells [I (-1)] false] ++ [.dfr, .loop .ready none 81 TS [12] AS BD (n + 4)] := ⟨_, rfl⟩
  have atH : ∀ j, H1[n + j]? = [AO.cells (wkC f k p b pv bv r mo) false, .cells [.fn K [] cap] false, .cells [.nils] false, .cells [I (-1)] false, .dfr, .loop .ready none 81 TS [12] AS BD (n + 4)][j]? := fun j => by
    rw [hH1, List.append_assoc, hn, atT]; rfl
  have key := t116 H G (mo := mo) (r := r) (o := n + 5) (lim := n) (by omega) (Q := fun _ => False)
    (P := fun D h => (∀ x ∈ D, isS r f.bids x = true) ∧ Fr g h ∧ h[n]? = some (.cells (wkC f k p b pv bv r mo) false) ∧ h[n + 1]? = some (.cells [.fn K [] cap] false) ∧ h[n + 2]? = some (.cells [bV (bsT f.bids pm D)] false) ∧ h[n + 3]? = some (.cells [I (bsT f.bids pm D).2] false) ∧ h[n + 4]? = some .dfr ∧ h[n + 5]? = some (.loop .ready none 81 TS [12] AS BD (n + 4)))
    (by rintro D h h' ⟨z, fr, a, b, c, d, e, l⟩ lo
        exact ⟨z, ⟨Nat.le_trans fr.l lo.l, fun j hj => (lo.k j (by omega)).trans (fr.k j hj)⟩, by rw [lo.k _ (by omega)]; exact a, by rw [lo.k _ (by omega)]; exact b, by rw [lo.k _ (by omega)]; exact c, by rw [lo.k _ (by omega)]; exact d, by rw [lo.k _ (by omega)]; exact e, by rw [lo.k _ (by omega)]; exact l⟩) ?_ (g := H1) (by rw [hH1]; simp only [List.length_append, List.length_cons, List.length_nil]; omega) ⟨by simp, by rw [hH1, List.append_assoc]; exact Fr.app g _, atH 0, atH 1, atH 2, atH 3, atH 4, atH 5⟩
  · refine G_range_of rfl (by rw [hTS]; rfl) ?_
    obtain ⟨u, h3, hr, ⟨gp, fr, g0, g1, g2, g3, g4, g5⟩ | hf⟩ := key
    case inr => exact hf.elim
    rw [hH1] at hr
    have ll : (g ++ [AO.cells (wkC f k p b pv bv r mo) false, AO.cells [AV.fn K [] cap] false, AO.cells [AV.nils] false, AO.cells [AV.int IntKind.i64 (-1)] false]).length = n + 4 := by simp [hn]
    rw [ll, ← hn]
    refine ⟨u, h3, .ready, none, 81, TS, [12], AS, BD, n + 4, hr, g5, .inl rfl, ?_⟩
    simp only [Option.getD_none, GE_nrm]
    obtain ⟨h4, hh4⟩ : ∃ h4, h4 = h3.set (n + 4 + 1) (AO.loop .exhausted none 81 TS [12] AS BD (n + 4)) := ⟨_, rfl⟩
    rw [← hh4]
    have k2 : h4[n + 2]? = some (.cells [bV (bsT f.bids pm (allS r f.bids))] false) := by rw [hh4, List.getElem?_set_ne (by omega)]; exact g2
    have k3 : h4[n + 3]? = some (.cells [I (bsT f.bids pm (allS r f.bids)).2] false) := by rw [hh4, List.getElem?_set_ne (by omega)]; exact g3
    have k4 : h4[n + 4]? = some .dfr := by rw [hh4, List.getElem?_set_ne (by omega)]; exact g4
    have bis := bV_is (L := f.bids) (p := pm) (l := allS r f.bids) fun s hs => (sale_bd G.bg (mem_allS.1 hs)).1
    refine G_at rfl hTS ?_
    rw [← hn]
    simp (disch := first | assumption | omega | (simp only [az]; done)) only [ru, eq_self, if_true, if_false, BEq.rfl, binI, AO.row?, splice, fillL, mmAll, loadV, storeV, zeros, Am.rowAt, Am.part, addOff, Nat.reduceAdd, Nat.reduceMul, Nat.reduceLeDiff, Nat.reduceSub, Nat.reduceLT, Int.reduceEq, Int.reduceLT, Int.reduceLE, Int.reduceGT, Int.reduceGE, Int.reduceAdd, Int.reduceSub, Int.reduceMul, Int.reduceNeg, Int.reduceToNat, reduceCtorEq, reduceIte, k2, k3, lenV_sl bis, view_sl bis, scalar_sl bis, cells_sl bis, pure_sl bis]
    refine finM (h' := h4.set (n + 4) .tomb) (vs := [bV (bsT f.bids pm (allS r f.bids)), I (bsT f.bids pm (allS r f.bids)).2]) (.inr rfl) (by simp) ?_ ?_ ?_
    · simp only [takeMarks, k4]
    · simp (disch := first | assumption | omega | (simp only [az]; done)) only [ru, eq_self, if_true, if_false, BEq.rfl, binI, AO.row?, splice, fillL, mmAll, loadV, storeV, zeros, Am.rowAt, Am.part, addOff, Nat.reduceAdd, Nat.reduceMul, Nat.reduceLeDiff, Nat.reduceSub, Nat.reduceLT, Int.reduceEq, Int.reduceLT, Int.reduceLE, Int.reduceGT, Int.reduceGE, Int.reduceAdd, Int.reduceSub, Int.reduceMul, Int.reduceNeg, Int.reduceToNat, reduceCtorEq, reduceIte, List.mapM_cons, List.mapM_nil, getRes, Option.bind_eq_bind, Option.pure_def, Option.bind_some]
    · exact ⟨rfl, by simp only [AV.under, AV.under.go, sl_under bis, Bool.and_self]⟩
  · rintro m q D F h hq L ⟨gp, fr, g0, g1, g2, g3, g4, g5⟩ hFm hF
    have gp' : ∀ x ∈ D ++ [F], isS r f.bids x = true := fun x hx => by
      rcases List.mem_append.1 hx with hx | hx
      · exact gp x hx
      · rw [List.mem_singleton] at hx; rw [hx]; exact hF
    have := R_rnd_of (E := E) (lim := n) (args := [.mr 1 q 0 F.length m]) (P := fun u h' => u = Bo true ∧ (Fr g h' ∧ h'[n]? = some (.cells (wkC f k p b pv bv r mo) false) ∧ h'[n + 1]? = some (.cells [.fn K [] cap] false) ∧ h'[n + 2]? = some (.cells [bV (bsT f.bids pm (D ++ [F]))] false) ∧ h'[n + 3]? = some (.cells [I (bsT f.bids pm (D ++ [F])).2] false) ∧ h'[n + 4]? = some .dfr ∧ h'[n + 5]? = some (.loop .ready none 81 TS [12] AS BD (n + 4))) ∧ Fk (n + 5 + 1) h h') g5 rfl (by omega) ?_
    · obtain ⟨u, h', hr, rfl, hp, fk⟩ := this
      exact ⟨true, h', hr, .inl ⟨rfl, ⟨gp', hp⟩, fk⟩⟩
    have lF := isS_lenL hF
    have lt := L.lt
    refine G_at hAS (by rw [hTS]) ?_
    simp only [setAll, List.set_cons_succ, List.set_cons_zero]
    rw [← hn]
    simp (disch := first | assumption | omega | (simp only [az]; done)) only [ru, eq_self, if_true, if_false, BEq.rfl, binI, AO.row?, splice, fillL, mmAll, loadV, storeV, zeros, Am.rowAt, Am.part, addOff, Nat.reduceAdd, Nat.reduceMul, Nat.reduceLeDiff, Nat.reduceSub, Nat.reduceLT, Int.reduceEq, Int.reduceLT, Int.reduceLE, Int.reduceGT, Int.reduceGE, Int.reduceAdd, Int.reduceSub, Int.reduceMul, Int.reduceNeg, Int.reduceToNat, reduceCtorEq, reduceIte, rmr]
    have ho : n + 5 < h.length := (List.getElem?_eq_some_iff.1 g5).1
    refine ⟨none, 81, TS, [12], AS, BD, n + 4, g5, ?_⟩
    obtain ⟨h6, hh6⟩ : ∃ h6, h6 = h.set (n + 5) (AO.loop .busy none 81 TS [12] AS BD (n + 4)) := ⟨_, rfl⟩
    rw [← hh6]
    have n0 : h6[n]? = some (.cells (wkC f k p b pv bv r mo) false) := by rw [hh6, List.getElem?_set_ne (by omega)]; exact g0
    have n1 : h6[n + 1]? = some (.cells [.fn K [] cap] false) := by rw [hh6, List.getElem?_set_ne (by omega)]; exact g1
    have n2 : h6[n + 2]? = some (.cells [bV (bsT f.bids pm D)] false) := by rw [hh6, List.getElem?_set_ne (by omega)]; exact g2
    have n3 : h6[n + 3]? = some (.cells [I (bsT f.bids pm D).2] false) := by rw [hh6, List.getElem?_set_ne (by omega)]; exact g3
    have n5 : h6[n + 5]? = some (AO.loop .busy none 81 TS [12] AS BD (n + 4)) := by rw [hh6, List.getElem?_set_self (by omega)]
    have l6 : h6.length = h.length := by rw [hh6]; simp
    have fr6 : Fr g h6 := ⟨by rw [l6]; exact fr.l, fun j hj => by rw [hh6, List.getElem?_set_ne (by omega)]; exact fr.k j hj⟩
    have L6 : Lq m h6 q F := by
      obtain ⟨C, c1, c2, c3⟩ := L
      exact ⟨C, by rw [hh6, List.getElem?_set_ne (by omega)]; exact c1, c2, c3⟩
    have old : ∀ j, n + 5 + 1 ≤ j → j < h.length → h6[j]? = h[j]? := fun j hj hl => by rw [hh6, List.getElem?_set_ne (by omega)]
    have ap := peM H G (r := r) (o := mo) L6 (by omega) (isS_mem hF)
    have am := hK h6 fr6 q m F (by omega) L6 hF
    have ac := c118 L6 (by omega)
    have bs := bsT_snoc (L := f.bids) (p := pm) (l := D) (s := F)
    simp only [wkC] at n0
    simp only [wkV, wkC] at ap
    have hsc := bV_is (L := f.bids) (p := pm) (l := D) fun s hs => (sale_bd G.bg (gp s hs)).1
    have vs := slV_is (esz := 1) (enc := intL) (l := F)
    have fin : ∀ (hx : List AO) (x : List Int × Int), hx.length = h.length → Fr g hx → hx[n]? = some (.cells (wkC f k p b pv bv r mo) false) → hx[n + 1]? = some (.cells [.fn K [] cap] false) → hx[n + 2]? = some (.cells [bV x] false) → hx[n + 3]? = some (.cells [I x.2] false) → hx[n + 4]? = some .dfr → (∀ j, n + 5 + 1 ≤ j → j < h.length → hx[j]? = h[j]?) →
        (Fr g (hx.set (n + 5) (.loop .ready none 81 TS [12] AS BD (n + 4))) ∧ (hx.set (n + 5) (.loop .ready none 81 TS [12] AS BD (n + 4)))[n]? = some (.cells (wkC f k p b pv bv r mo) false) ∧ (hx.set (n + 5) (.loop .ready none 81 TS [12] AS BD (n + 4)))[n + 1]? = some (.cells [.fn K [] cap] false) ∧ (hx.set (n + 5) (.loop .ready none 81 TS [12] AS BD (n + 4)))[n + 2]? = some (.cells [bV x] false) ∧ (hx.set (n + 5) (.loop .ready none 81 TS [12] AS BD (n + 4)))[n + 3]? = some (.cells [I x.2] false) ∧ (hx.set (n + 5) (.loop .ready none 81 TS [12] AS BD (n + 4)))[n + 4]? = some .dfr ∧ (hx.set (n + 5) (.loop .ready none 81 TS [12] AS BD (n + 4)))[n + 5]? = some (.loop .ready none 81 TS [12] AS BD (n + 4))) ∧ Fk (n + 5 + 1) h (hx.set (n + 5) (.loop .ready none 81 TS [12] AS BD (n + 4))) := by
      intro hx x e0 e1 e2 e3 e4 e5 e6 e7
      refine ⟨⟨⟨by simp only [List.length_set]; exact e1.l, fun j hj => by rw [List.getElem?_set_ne (by omega)]; exact e1.k j hj⟩, ?_, ?_, ?_, ?_, ?_, ?_⟩, ⟨by simp [e0], fun j hj hl => by rw [List.getElem?_set_ne (by omega)]; exact e7 j hj hl⟩⟩
      · rw [List.getElem?_set_ne (by omega)]; exact e2
      · rw [List.getElem?_set_ne (by omega)]; exact e3
      · rw [List.getElem?_set_ne (by omega)]; exact e4
      · rw [List.getElem?_set_ne (by omega)]; exact e5
      · rw [List.getElem?_set_ne (by omega)]; exact e6
      · rw [List.getElem?_set_self (by omega)]
    have n4 : h6[n + 4]? = some .dfr := by rw [hh6, List.getElem?_set_ne (by omega)]; exact g4
    have m3 : ∀ z, (h6.set (n + 2) z)[n + 3]? = some (.cells [I (bsT f.bids pm D).2] false) := fun z => by rw [List.getElem?_set_ne (by omega)]; exact n3
    refine G_at hBD rfl ?_
    by_cases c1 : (bsT f.bids pm D).2 < prc f.bids F
    · cases c2 : pm F
      · rw [c2] at am
        rw [bs, bsF, if_neg (by simp [c2])]
        simp (disch := first | assumption | omega | (simp only [az]; done)) only [ru, eq_self, if_true, if_false, BEq.rfl, binI, AO.row?, splice, fillL, mmAll, loadV, storeV, zeros, Am.rowAt, Am.part, addOff, Nat.reduceAdd, Nat.reduceMul, Nat.reduceLeDiff, Nat.reduceSub, Nat.reduceLT, Int.reduceEq, Int.reduceLT, Int.reduceLE, Int.reduceGT, Int.reduceGE, Int.reduceAdd, Int.reduceSub, Int.reduceMul, Int.reduceNeg, Int.reduceToNat, reduceCtorEq, reduceIte, rmp, rmr, H.fai, Int.toNat_natCast, n0, n1, n2, n3, ap, am, c1, gUn, decide_true, exOp_callv1, List.nil_append, List.cons_append]
        exact ⟨.busy, none, 81, TS, [12], AS, BD, n + 4, n5, fin h6 _ l6 fr6 n0 n1 n2 n3 n4 old⟩
      · rw [c2] at am
        rw [bs, bsF, if_pos ⟨c1, c2⟩]
        have pb := (sale_bd G.bg hF).1
        have eb : bV (F, prc f.bids F) = slV 1 intL F := by simp only [bV]; rw [if_neg (by omega)]
        simp (disch := first | assumption | omega | (simp only [az]; done)) only [ru, eq_self, if_true, if_false, BEq.rfl, binI, AO.row?, splice, fillL, mmAll, loadV, storeV, zeros, Am.rowAt, Am.part, addOff, Nat.reduceAdd, Nat.reduceMul, Nat.reduceLeDiff, Nat.reduceSub, Nat.reduceLT, Int.reduceEq, Int.reduceLT, Int.reduceLE, Int.reduceGT, Int.reduceGE, Int.reduceAdd, Int.reduceSub, Int.reduceMul, Int.reduceNeg, Int.reduceToNat, reduceCtorEq, reduceIte, rmp, rmr, H.fai, Int.toNat_natCast, lenV_sl vs, view_sl vs, scalar_sl vs, cells_sl vs, pure_sl vs, n0, n1, n2, n3, m3, ap, am, ac, exOp_call2, c1, gUn, decide_true, exOp_callv1, List.nil_append, List.cons_append, List.length_cons, List.length_nil, Nat.le_add_right]
        refine ⟨.busy, none, 81, TS, [12], AS, BD, n + 4, by rw [List.getElem?_set_ne (by omega), List.getElem?_set_ne (by omega)]; exact n5, fin ((h6.set (n + 2) (.cells [slV 1 intL F] false)).set (n + 3) (.cells [I (prc f.bids F)] false)) (F, prc f.bids F) (by simp [l6]) ⟨by simp only [List.length_set]; exact fr6.l, fun j hj => by rw [List.getElem?_set_ne (by omega), List.getElem?_set_ne (by omega)]; exact fr6.k j hj⟩ ?_ ?_ ?_ ?_ ?_ fun j hj hl => by rw [List.getElem?_set_ne (by omega), List.getElem?_set_ne (by omega)]; exact old j hj hl⟩
        · rw [List.getElem?_set_ne (by omega), List.getElem?_set_ne (by omega)]; exact n0
        · rw [List.getElem?_set_ne (by omega), List.getElem?_set_ne (by omega)]; exact n1
        · rw [List.getElem?_set_ne (by omega), List.getElem?_set_self (by omega), eb]
        · rw [List.getElem?_set_self (by simp; omega)]
        · rw [List.getElem?_set_ne (by omega), List.getElem?_set_ne (by omega)]; exact n4
    · rw [bs, bsF, if_neg (by simp [c1])]
      simp (disch := first | assumption | omega | (simp only [az]; done)) only [ru, eq_self, if_true, if_false, BEq.rfl, binI, AO.row?, splice, fillL, mmAll, loadV, storeV, zeros, Am.rowAt, Am.part, addOff, Nat.reduceAdd, Nat.reduceMul, Nat.reduceLeDiff, Nat.reduceSub, Nat.reduceLT, Int.reduceEq, Int.reduceLT, Int.reduceLE, Int.reduceGT, Int.reduceGE, Int.reduceAdd, Int.reduceSub, Int.reduceMul, Int.reduceNeg, Int.reduceToNat, reduceCtorEq, reduceIte, rmp, rmr, H.fai, Int.toNat_natCast, n0, n1, n2, n3, ap, c1, gUn, decide_false]
      exact ⟨.busy, none, 81, TS, [12], AS, BD, n + 4, n5, fin h6 _ l6 fr6 n0 n1 n2 n3 n4 old⟩
end
end Go.Proofs.YtfagcnokdnanpaaGreat.S
/-
What is meant: closures; the best with and without; what is kept in the map.
-/
namespace Go.Proofs.YtfagcnokdnanpaaGreat.S
open Go Go.Am Go.Proofs.YtfagcnokdnanpaaGreat.T
set_option maxRecDepth 100000
set_option linter.unusedSimpArgs false
set_option linter.unusedVariables false
theorem lq_view {F : List Int} {m q : Nat} {g : List AO} (L : Lq m g q F) {n : Nat} : Am.view false g (n + 1) (.mr 1 q 0 F.length m) = some (slV 1 intL F) := by
  obtain ⟨C, h1, h2, h3⟩ := L
  have hr : Am.rowOf g (.mr 1 q 0 F.length m) = some (F.flatMap intL) := by
    simp only [Am.rowOf, Am.rowAt, h1, Option.bind_some, AO.row?, List.drop_zero, Nat.mul_one, h3]
    rw [if_pos (flat1 F)]
  have hi : (F.flatMap intL).mapM (view false g n) = some (F.flatMap intL) := flat_view (enc := intL) intIv F
  simp only [Am.view, hr, hi]; rfl
theorem t82 {x : AV} {g : List AO} : Ro E 82 [x] g = some (Bo true) := by
  refine Ro_of (es _ _ _ _) e82 ?_
  simp only [f82]
  simp (disch := first | assumption | omega | (simp only [az]; done)) only [ru, eq_self, if_true, if_false, BEq.rfl, binI, AO.row?, splice, fillL, mmAll, loadV, storeV, zeros, Am.rowAt, Am.part, addOff, Nat.reduceAdd, Nat.reduceMul, Nat.reduceLeDiff, Nat.reduceSub, Nat.reduceLT, Int.reduceEq, Int.reduceLT, Int.reduceLE, Int.reduceGT, Int.reduceGE, Int.reduceAdd, Int.reduceSub, Int.reduceMul, Int.reduceNeg, Int.reduceToNat, reduceCtorEq, reduceIte]
  rfl
theorem t102 {F : List Int} {m q : Nat} {g : List AO} (L : Lq m g q F) (hl : F.length ≤ 1000) {o : Nat} {c : Int} (ho : g[o]? = some (.cells [I c] false)) : Ro E 102 [.mr 1 q 0 F.length m, .ptr o 0] g = some (Bo (decide (c ∈ F))) := by
  have a := fun st => t103 (slV_is (esz := 1) (enc := intL) (l := F)) hl c st
  have hv := lq_view L (n := 7)
  refine Ro_of (es _ _ _ _) e102 ?_
  simp only [f102]
  simp (disch := first | assumption | omega | (simp only [az]; done)) only [ru, eq_self, if_true, if_false, BEq.rfl, binI, AO.row?, splice, fillL, mmAll, loadV, storeV, zeros, Am.rowAt, Am.part, addOff, Nat.reduceAdd, Nat.reduceMul, Nat.reduceLeDiff, Nat.reduceSub, Nat.reduceLT, Int.reduceEq, Int.reduceLT, Int.reduceLE, Int.reduceGT, Int.reduceGE, Int.reduceAdd, Int.reduceSub, Int.reduceMul, Int.reduceNeg, Int.reduceToNat, reduceCtorEq, reduceIte, rmr, ho, hv, a]
  rfl
theorem t65 (c : Int) (g : List AO) : C2 E 65 [I c] g = some (.fn 102 [] [.ptr g.length 0], g ++ [.cells [I c] false]) := by
  have hr : ∃ r J, R E (.fn 65) [I c] [] 0 = some (r, J) ∧ (r = .fn 102 [] [.ptr 0 0] ∧ J = [.cells [I c] false]) := by
    refine R_of (fun r J => r = .fn 102 [] [.ptr 0 0] ∧ J = [.cells [I c] false]) (es _ _ _ _) e65 ?_
    simp only [f65]
    simp (disch := first | assumption | omega | (simp only [az]; done)) only [ru, eq_self, if_true, if_false, BEq.rfl, binI, AO.row?, splice, fillL, mmAll, loadV, storeV, zeros, Am.rowAt, Am.part, addOff, Nat.reduceAdd, Nat.reduceMul, Nat.reduceLeDiff, Nat.reduceSub, Nat.reduceLT, Int.reduceEq, Int.reduceLT, Int.reduceLE, Int.reduceGT, Int.reduceGE, Int.reduceAdd, Int.reduceSub, Int.reduceMul, Int.reduceNeg, Int.reduceToNat, reduceCtorEq, reduceIte]
  obtain ⟨_, _, hr, rfl, rfl⟩ := hr
  rw [C2_of (by rfl) hr]
  simp [AV.shift, AV.shift.go, AO.shift]
theorem t101 {x : AV} (hx : x.scalar = true) {K : Nat} {cap : List AV} {g : List AO} {o : Nat} (ho : g[o]? = some (.cells [.fn K [] cap] false)) {z : Bool} (hK : Ro E K (x :: cap) g = some (Bo z)) : Ro E 101 [x, .ptr o 0] g = some (Bo (!z)) := by
  refine Ro_of (es _ _ _ _) e101 ?_
  simp only [f101]
  simp (disch := first | assumption | omega | (simp only [az]; done)) only [ru, eq_self, if_true, if_false, BEq.rfl, binI, AO.row?, splice, fillL, mmAll, loadV, storeV, zeros, Am.rowAt, Am.part, addOff, Nat.reduceAdd, Nat.reduceMul, Nat.reduceLeDiff, Nat.reduceSub, Nat.reduceLT, Int.reduceEq, Int.reduceLT, Int.reduceLE, Int.reduceGT, Int.reduceGE, Int.reduceAdd, Int.reduceSub, Int.reduceMul, Int.reduceNeg, Int.reduceToNat, reduceCtorEq, reduceIte, ho, hx, exOp_callv1, List.nil_append, List.cons_append, hK]
  rfl
def keyR (r : Int → Bool) : List Int := [if r 0 = true then 1 else 0, if r 1 = true then 1 else 0, if r 2 = true then 1 else 0, if r 3 = true then 1 else 0]
theorem keyR_of (r : Int → Bool) : Am.keyOf k4 (.agg [Bo (r 0), Bo (r 1), Bo (r 2), Bo (r 3)]) = some (keyR r) := by simp [Am.keyOf, keyCells, keyR]
theorem keyR_inj {r r' : Int → Bool} (h : keyR r = keyR r') : ∀ i : Int, 0 ≤ i → i < 4 → r i = r' i := by
  intro i h0 h4
  simp only [keyR, List.cons.injEq, and_true] at h
  obtain ⟨a, b, c, d⟩ := h
  have e : ∀ x y : Bool, ((if x = true then 1 else 0 : Int) = if y = true then 1 else 0) → x = y := by intro x y; cases x <;> cases y <;> simp
  obtain rfl | rfl | rfl | rfl : i = 0 ∨ i = 1 ∨ i = 2 ∨ i = 3 := by omega
  · exact e _ _ a
  · exact e _ _ b
  · exact e _ _ c
  · exact e _ _ d
theorem findM_put {x y : List Int} {v : AV} : ∀ {es : List (List Int × AV)}, findM x (putM y v es) = if x = y then some v else findM x es
  | [] => by simp [putM, findM]
  | (z, u) :: es => by
    simp only [putM]
    split
    · rename_i e; subst e
      simp only [findM]
      split <;> rfl
    · rename_i e
      split
      · simp only [findM]
      · simp only [findM, findM_put]
        by_cases h1 : x = z
        · subst h1; rw [if_pos rfl, if_neg (fun h => e h.symm), if_pos rfl]
        · rw [if_neg h1, if_neg h1]
theorem isS_congr {r r' : Int → Bool} {L : List Bi} {n : Int} {nb : Nat} (G : BG n nb L) (hnb : nb ≤ 4) (h : ∀ i : Int, 0 ≤ i → i < 4 → r i = r' i) (s : List Int) : isS r L s = isS r' L s := by
  unfold isS
  refine range_congr fun i hi => ?_
  cases hc : inR (s.getD i 0) 0 (L.length - 1)
  · rfl
  · have hin := inR_iff.1 hc
    have gb := (G.at hin.1 (by omega)).2.2.2.2.2
    simp only [fitS]
    have : (bAt L (s.getD i 0)).bs.all r = (bAt L (s.getD i 0)).bs.all r' := by
      rw [Bool.eq_iff_iff, List.all_eq_true, List.all_eq_true]
      constructor
      · intro hh x hx; rw [← h x (gb x hx).1 (by have := (gb x hx).2; omega)]; exact hh x hx
      · intro hh x hx; rw [h x (gb x hx).1 (by have := (gb x hx).2; omega)]; exact hh x hx
    rw [this]
theorem allS_congr {r r' : Int → Bool} {L : List Bi} {n : Int} {nb : Nat} (G : BG n nb L) (hnb : nb ≤ 4) (h : ∀ i : Int, 0 ≤ i → i < 4 → r i = r' i) : allS r L = allS r' L := by
  have e1 : isS r L = isS r' L := funext (isS_congr G hnb h)
  have e2 : sals r L = sals r' L := funext fun m => by simp only [sals, e1]
  simp only [allS, salT, e2]
def tops (L : List Bi) (r : Int → Bool) : Int := (bsT L (fun _ => true) (allS r L)).2
def CaOk (L : List Bi) (es : List (List Int × AV)) : Prop := ∀ r v, findM (keyR r) es = some v → v = I (tops L r)
theorem CaOk.nil {L : List Bi} : CaOk L [] := fun r v h => by simp [findM] at h
theorem CaOk.put {L : List Bi} {n : Int} {nb : Nat} (G : BG n nb L) (hnb : nb ≤ 4) {es : List (List Int × AV)} (h : CaOk L es) (r : Int → Bool) : CaOk L (putM (keyR r) (I (tops L r)) es) := fun r' v hv => by
  rw [findM_put] at hv
  split at hv
  · rename_i e
    cases hv
    simp only [tops, allS_congr G hnb (keyR_inj e)]
  · exact h r' v hv
section
variable {f : Fs} {k p b pv bv : AV} {w : Nat → AV}
set_option maxHeartbeats 1000000 in
theorem t64 (H : FsOk f k p b pv bv w) (G : FG f) {r : Int → Bool} {mo : Nat} {g : List AO} {K : Nat} {cap : List AV} {pm : List Int → Bool} (hmo : mo < g.length)
    (hK : ∀ hk, Fr g hk → ∀ q m F, g.length ≤ q → Lq m hk q F → isS r f.bids F = true → Ro E K (.mr 1 q 0 F.length m :: cap) hk = some (Bo (pm F))) :
    Ro E 64 [wkV f k p b pv bv r mo, .fn K [] cap] g = some (.tup [I (bsT f.bids pm (allS r f.bids)).2, I (bsT f.bids (fun s => !pm s) (allS r f.bids)).2]) := by
  have h0 : ∀ s ∈ allS r f.bids, 0 ≤ prc f.bids s := fun s hs => (sale_bd G.bg (mem_allS.1 hs)).1
  have i1 := bV_is (p := pm) h0
  have i2 := bV_is (p := fun s => !pm s) h0
  have fr : ∀ {hk : List AO}, Fr (g ++ [.cells (wkC f k p b pv bv r mo) false, .cells [.fn K [] cap] false]) hk → Fr g hk := fun h => (Fr.app g _).trans h
  have a1 := t81 H G (r := r) (mo := mo) (g := g ++ [.cells (wkC f k p b pv bv r mo) false, .cells [.fn K [] cap] false]) (K := K) (cap := cap) (pm := pm) (by simp; omega) fun hk h q m F hq L hF => hK hk (fr h) q m F (by simp at hq; omega) L hF
  have a2 := t81 H G (r := r) (mo := mo) (g := g ++ [.cells (wkC f k p b pv bv r mo) false, .cells [.fn K [] cap] false]) (K := 101) (cap := [.ptr (g.length + 1) 0]) (pm := fun s => !pm s) (by simp; omega) fun hk h q m F hq L hF => t101 rfl (h.at (by rw [List.getElem?_append_right (by omega), Nat.add_sub_cancel_left]; rfl)) (hK hk (fr h) q m F (by simp at hq; omega) L hF)
  simp only [wkV, wkC] at a1 a2
  refine Ro_of (es _ _ _ _) e64 ?_
  simp only [f64]
  simp (disch := first | assumption | omega | (simp only [az]; done)) only [ru, eq_self, if_true, if_false, BEq.rfl, binI, AO.row?, splice, fillL, mmAll, loadV, storeV, zeros, Am.rowAt, Am.part, addOff, Nat.reduceAdd, Nat.reduceMul, Nat.reduceLeDiff, Nat.reduceSub, Nat.reduceLT, Int.reduceEq, Int.reduceLT, Int.reduceLE, Int.reduceGT, Int.reduceGE, Int.reduceAdd, Int.reduceSub, Int.reduceMul, Int.reduceNeg, Int.reduceToNat, reduceCtorEq, reduceIte, rmp, H.fai, Int.toNat_natCast, lenV_sl i1, view_sl i1, scalar_sl i1, cells_sl i1, pure_sl i1, lenV_sl i2, view_sl i2, scalar_sl i2, cells_sl i2, pure_sl i2, List.append_assoc, List.cons_append, List.nil_append, List.length_append, List.length_cons, List.length_nil, Nat.zero_add, Nat.add_assoc, atT, atT0, setT, setT0, List.getElem?_cons_succ, List.getElem?_cons_zero, List.set_cons_succ, List.set_cons_zero, Nat.le_add_right, Nat.le_refl, a1, a2]
  rfl
set_option maxHeartbeats 1000000 in
theorem t79 (H : FsOk f k p b pv bv w) (G : FG f) {r : Int → Bool} {mo lim : Nat} {g : List AO} (hmo : mo < g.length) (hlim : lim ≤ mo) {es' : List (List Int × AV)} (hm : g[mo]? = some (.mpo k4 es')) (C : CaOk f.bids es') :
    ∃ g' es2, R E (.fn 79) [wkV f k p b pv bv r mo] g lim = some (I (tops f.bids r), g') ∧ g.length ≤ g'.length ∧ (∀ j, j < g.length → j ≠ mo → g'[j]? = g[j]?) ∧ g'[mo]? = some (.mpo k4 es2) ∧ CaOk f.bids es2 := by
  have h0 : ∀ s ∈ allS r f.bids, 0 ≤ prc f.bids s := fun s hs => (sale_bd G.bg (mem_allS.1 hs)).1
  have i1 := bV_is (p := fun _ => true) h0
  have a1 := t81 H G (r := r) (mo := mo) (g := g ++ [.cells (wkC f k p b pv bv r mo) false]) (K := 82) (cap := []) (pm := fun _ => true) (by simp; omega) fun hk h q m F hq L hF => t82
  have hm2 : (g ++ [AO.cells (wkC f k p b pv bv r mo) false])[mo]? = some (.mpo k4 es') := by rw [at_ap hmo]; exact hm
  have gt := mapGet_as (h := g ++ [AO.cells (wkC f k p b pv bv r mo) false]) hm2 (keyR_of r) (z := I 0) (ok := true)
  have st := mapSet_as (h := g ++ [AO.cells (wkC f k p b pv bv r mo) false]) (lim := lim) hm2 (keyR_of r) (x := I (tops f.bids r)) rfl hlim
  refine (fun x => ?_ : (∃ u g', R E (.fn 79) [wkV f k p b pv bv r mo] g lim = some (u, g') ∧ ∃ es2, u = I (tops f.bids r) ∧ g.length ≤ g'.length ∧ (∀ j, j < g.length → j ≠ mo → g'[j]? = g[j]?) ∧ g'[mo]? = some (.mpo k4 es2) ∧ CaOk f.bids es2) → _) (R_of _ (es _ _ _ _) e79 ?_)
  · obtain ⟨u, g', h1, es2, rfl, h2⟩ := x; exact ⟨g', es2, h1, h2⟩
  simp only [f79]
  simp only [wkV, wkC, tops] at a1 gt st
  cases hf : findM (keyR r) es' with
  | some v =>
    obtain rfl := C r v hf
    simp only [hf, Option.getD_some, Option.isSome_some, if_true] at gt
    simp (disch := first | assumption | omega | (simp only [az]; done)) only [ru, eq_self, if_true, if_false, BEq.rfl, binI, AO.row?, splice, fillL, mmAll, loadV, storeV, zeros, Am.rowAt, Am.part, addOff, Nat.reduceAdd, Nat.reduceMul, Nat.reduceLeDiff, Nat.reduceSub, Nat.reduceLT, Int.reduceEq, Int.reduceLT, Int.reduceLE, Int.reduceGT, Int.reduceGE, Int.reduceAdd, Int.reduceSub, Int.reduceMul, Int.reduceNeg, Int.reduceToNat, reduceCtorEq, reduceIte, rmp, H.fai, Int.toNat_natCast, lenE, atE, gt, Bool.not_true]
    exact ⟨es', by simp, fun j hj _ => at_ap hj, hm2, C⟩
  | none =>
    simp only [hf, Option.getD_none, Option.isSome_none, if_true] at gt
    simp (disch := first | assumption | omega | (simp only [az]; done)) only [ru, eq_self, if_true, if_false, BEq.rfl, binI, AO.row?, splice, fillL, mmAll, loadV, storeV, zeros, Am.rowAt, Am.part, addOff, Nat.reduceAdd, Nat.reduceMul, Nat.reduceLeDiff, Nat.reduceSub, Nat.reduceLT, Int.reduceEq, Int.reduceLT, Int.reduceLE, Int.reduceGT, Int.reduceGE, Int.reduceAdd, Int.reduceSub, Int.reduceMul, Int.reduceNeg, Int.reduceToNat, reduceCtorEq, reduceIte, rmp, H.fai, Int.toNat_natCast, lenV_sl i1, view_sl i1, scalar_sl i1, cells_sl i1, pure_sl i1, lenE, atE, gt, a1, st, Bool.not_false, List.map_nil]
    refine ⟨_, rfl, by simp, fun j hj hne => ?_, ?_, C.put G.bg G.h.nb r⟩
    · rw [List.getElem?_set_ne (Ne.symm hne), at_ap hj]
    · rw [List.getElem?_set_self (by simp; omega)]; rfl
end
end Go.Proofs.YtfagcnokdnanpaaGreat.S
/-
What a buyer pays, what a bid needs, the first day (program).
-/
namespace Go.Proofs.YtfagcnokdnanpaaGreat.S
open Go Go.Am Go.Proofs.YtfagcnokdnanpaaGreat.T
set_option maxRecDepth 100000
set_option linter.unusedSimpArgs false
set_option linter.unusedVariables false
theorem bsT_bd {L : List Bi} {n : Int} {nb : Nat} (G : BG n nb L) {r : Int → Bool} {pm : List Int → Bool} : -1 ≤ (bsT L pm (allS r L)).2 ∧ (bsT L pm (allS r L)).2 ≤ 396 := by
  rcases (bsT_spec (L := L) (p := pm) (allS r L) fun s hs => (sale_bd G (mem_allS.1 hs)).1).2 with ⟨e, _, _⟩ | ⟨a, b, e1, _, e3, _⟩
  · omega
  · have hm : (bsT L pm (allS r L)).1 ∈ allS r L := by
      have : ∀ {l : List (List Int)} {x : List Int}, l = a ++ x :: b → x ∈ l := fun e => by rw [e]; simp
      exact this e1
    have := sale_bd G (mem_allS.1 hm)
    omega
theorem win_isS {L : List Bi} {n : Int} {nb : Nat} (G : BG n nb L) {r : Int → Bool} {pm : List Int → Bool} : isS r L (bsT L pm (allS r L)).1 = true := by
  rcases (bsT_spec (L := L) (p := pm) (allS r L) fun s hs => (sale_bd G (mem_allS.1 hs)).1).2 with ⟨_, e, _⟩ | ⟨a, b, e1, _, e3, _⟩
  · rw [e]; exact isS_nil
  · have : ∀ {l : List (List Int)} {x : List Int}, l = a ++ x :: b → x ∈ l := fun e => by rw [e]; simp
    exact mem_allS.1 (this e1)
def byU (L : List Bi) (u : Int) (i : Int) : Bool := decide ((bAt L i).u = u)
def wins (L : List Bi) (r : Int → Bool) : List Int := (bsT L (fun _ => true) (allS r L)).1
def payF (L : List Bi) (r : Int → Bool) (u : Int) : Int :=
  match (wins L r).find? (byU L u) with
  | none => 0
  | some x => (bsT L (fun s => !s.any (byU L u)) (allS r L)).2 - (tops L r - (bAt L x).c)
def wit (L : List Bi) (r : Int → Bool) (c : Int) : Int := (bsT L (fun s => decide (c ∈ s)) (allS r L)).2
def wot (L : List Bi) (r : Int → Bool) (c : Int) : Int := (bsT L (fun s => !decide (c ∈ s)) (allS r L)).2
def needF (L : List Bi) (r : Int → Bool) (c : Int) : Int := mx 0 (wot L r c - (wit L r c - (bAt L c).c))
def needE (L : List Bi) (r : Int → Bool) (c : Int) : Bool := decide (wit L r c < 0) || decide (needF L r c > 99)
def fsB (v : Nat → Int) : Nat → Int × Int
  | 0 => (0, -1)
  | n + 1 => if (fsB v n).2 < v n then ((n : Int), v n) else fsB v n
def Fs.on (f : Fs) (x : List Int) (d : Int) : Fs := { f with pk := x, d := d }
section
variable {f : Fs} {k p b pv bv : AV} {w : Nat → AV}
theorem FsOk.on (H : FsOk f k p b pv bv w) {x : List Int} {v : AV} (V : IsSl 1 intL x v) (hl : x.length ≤ 41) (d : Int) : FsOk (f.on x d) k p b v bv w := ⟨⟨H.h, V, H.bi⟩, H.ho, hl, H.nb, H.nw⟩
theorem FG.on (G : FG f) {x : List Int} (hx : f.h.isP x = true) {d : Int} (hd : 0 ≤ d ∧ d ≤ 20) : FG (f.on x d) := ⟨G.h, hx, hd, G.bg⟩
theorem rdF_far (h : Hs) (x : List Int) (d : Int) : ∀ i : Int, ¬ i < h.bs.length → rdF h x d i = false := fun i hi => rdF_out hi
theorem t104 (H : FsOk f k p b pv bv w) {r : Int → Bool} {mo F B : Nat} {g : List AO} (hF : g[F]? = some (.cells (wkC f k p b pv bv r mo) false)) {u : Int} (hB : g[B]? = some (.cells [I u] false)) {x : Int} (x0 : 0 ≤ x) (hx : x < f.bids.length) : Ro E 104 [I x, .ptr F 0, .ptr B 0] g = some (Bo (byU f.bids u x)) := by
  have ex := H.bi.el x x0 hx
  have e1 : ((bAt f.bids x).u == u) = byU f.bids u x := by simp [byU, Bool.beq_eq_decide_eq]
  refine Ro_of (es _ _ _ _) e104 ?_
  simp only [f104]
  simp (disch := first | assumption | omega | (simp only [az]; done)) only [ru, eq_self, if_true, if_false, BEq.rfl, binI, AO.row?, splice, fillL, mmAll, loadV, storeV, zeros, Am.rowAt, Am.part, addOff, Nat.reduceAdd, Nat.reduceMul, Nat.reduceLeDiff, Nat.reduceSub, Nat.reduceLT, Int.reduceEq, Int.reduceLT, Int.reduceLE, Int.reduceGT, Int.reduceGE, Int.reduceAdd, Int.reduceSub, Int.reduceMul, Int.reduceNeg, Int.reduceToNat, reduceCtorEq, reduceIte, wkC, hF, hB, ex, H.fai, Int.toNat_natCast, e1]
  rfl
set_option maxHeartbeats 2000000 in
theorem t66 (H : FsOk f k p b pv bv w) (G : FG f) {r : Int → Bool} {mo : Nat} {g : List AO} (hmo : mo < g.length) (u : Int) : Ro E 66 [wkV f k p b pv bv r mo, I u] g = some (I (payF f.bids r u)) := by
  have h0 : ∀ s ∈ allS r f.bids, 0 ≤ prc f.bids s := fun s hs => (sale_bd G.bg (mem_allS.1 hs)).1
  have i1 := bV_is (p := fun _ => true) h0
  have ws := win_isS G.bg (r := r) (pm := fun _ => true)
  have wm := isS_mem ws
  have wl := isS_lenL ws
  have nb := H.nb
  obtain ⟨n, hn⟩ : ∃ n, n = g.length := ⟨_, rfl⟩
  obtain ⟨g3, hg3⟩ : ∃ g3 : List AO, g3 = g ++ [.cells (wkC f k p b pv bv r mo) false, .cells [I u] false, .cells [.fn 104 [] [.ptr n 0, .ptr (n + 1) 0]] false] := ⟨_, rfl⟩
  have at3 : ∀ j, g3[n + j]? = [AO.cells (wkC f k p b pv bv r mo) false, .cells [I u] false, .cells [.fn 104 [] [.ptr n 0, .ptr (n + 1) 0]] false][j]? := fun j => by rw [hg3, hn, atT]
  have l3 : g3.length = n + 3 := by rw [hg3, hn]; simp
  have a1 := t81 H G (r := r) (mo := mo) (g := g3) (K := 82) (cap := []) (pm := fun _ => true) (by omega) fun hk h q m F hq L hF => t82
  obtain ⟨j, a2, hj⟩ := ixC i1 (by omega) (q := byU f.bids u) (k := 104) (cap := [.ptr n 0, .ptr (n + 1) 0]) (h := g3) fun x hx => t104 H (at3 0) (at3 1) (wm x hx).1 (wm x hx).2
  have a3 := t64 H G (r := r) (mo := mo) (g := g3) (K := 106) (cap := [.ptr (n + 2) 0]) (pm := fun s => s.any (byU f.bids u)) (by omega) fun hk h q m F hq L hF => by
    have lF := isS_lenL hF
    have c := cfM L (by omega) (q := byU f.bids u) (k := 104) (cap := [.ptr n 0, .ptr (n + 1) 0]) fun x hx => t104 H (h.at (at3 0)) (h.at (at3 1)) (isS_mem hF x hx).1 (isS_mem hF x hx).2
    have ho := h.at (at3 2)
    refine Ro_of (es _ _ _ _) e106 ?_
    simp only [f106]
    simp (disch := first | assumption | omega | (simp only [az]; done)) only [ru, eq_self, if_true, if_false, BEq.rfl, binI, AO.row?, splice, fillL, mmAll, loadV, storeV, zeros, Am.rowAt, Am.part, addOff, Nat.reduceAdd, Nat.reduceMul, Nat.reduceLeDiff, Nat.reduceSub, Nat.reduceLT, Int.reduceEq, Int.reduceLT, Int.reduceLE, Int.reduceGT, Int.reduceGE, Int.reduceAdd, Int.reduceSub, Int.reduceMul, Int.reduceNeg, Int.reduceToNat, reduceCtorEq, reduceIte, rmr, ho, List.getElem?_cons_succ, List.getElem?_cons_zero, c]
    rfl
  have b1 := bsT_bd G.bg (r := r) (pm := fun _ => true)
  have b2 := bsT_bd G.bg (r := r) (pm := fun s => !s.any (byU f.bids u))
  have hfind : (j = -1 ∧ (wins f.bids r).find? (byU f.bids u) = none) ∨ ∃ i : Nat, j = i ∧ i < (wins f.bids r).length ∧ (wins f.bids r).find? (byU f.bids u) = some ((wins f.bids r).getD i 0) := by
    rcases hj with ⟨rfl, e⟩ | ⟨i, rfl, hi, hq, _⟩
    · refine .inl ⟨rfl, ?_⟩
      rw [List.find?_eq_none]
      intro x hx
      rw [List.any_eq_false] at e
      exact e x hx
    · refine .inr ⟨i, rfl, hi, ?_⟩
      cases hfn : (wins f.bids r).find? (byU f.bids u) with
      | none =>
        rw [List.find?_eq_none] at hfn
        exact absurd hq (hfn _ (getD_memI hi))
      | some y =>
        have hy := List.find?_some hfn
        obtain ⟨jy, hjy, rfl⟩ := mem_getD (d := 0) (List.mem_of_find?_eq_some hfn)
        rcases Nat.lt_trichotomy i jy with h | rfl | h
        · have := (isS_pair ws h hjy).2.1
          simp only [byU, decide_eq_true_eq] at hq hy
          exact absurd (hq.trans hy.symm) this
        · rfl
        · have := (isS_pair ws h hi).2.1
          simp only [byU, decide_eq_true_eq] at hq hy
          exact absurd (hy.trans hq.symm) this
  have hg3' : g ++ [AO.cells (wkC f k p b pv bv r mo) false, .cells [I u] false, .cells [.fn 104 [] [.ptr n 0, .ptr (n + 1) 0]] false] = g3 := hg3.symm
  simp only [wkV, wkC] at a1 a3 hg3'
  have k0 := at3 0
  have k1 := at3 1
  have k2 := at3 2
  simp only [List.getElem?_cons_succ, List.getElem?_cons_zero, wkC, Nat.add_zero] at k0 k1 k2
  have aN : ∀ (l : List AO) j, (g ++ l)[n + j]? = l[j]? := fun l j => by rw [hn]; exact atT
  have a0 : ∀ (l : List AO), (g ++ l)[n]? = l[0]? := fun l => by rw [hn]; exact atT0
  have sN : ∀ (l : List AO) j x, (g ++ l).set (n + j) x = g ++ l.set j x := fun l j x => by rw [hn]; exact setT
  have nle : n ≤ n + 2 := by omega
  have d1 := G.bg
  refine Ro_of (es _ _ _ _) e66 ?_
  simp only [f66, payF]
  rcases hfind with ⟨rfl, hfn⟩ | ⟨i, rfl, hi, hfn⟩
  · rw [hfn]
    simp (disch := first | assumption | omega | (simp only [az]; done)) only [ru, eq_self, if_true, if_false, BEq.rfl, binI, AO.row?, splice, fillL, mmAll, loadV, storeV, zeros, Am.rowAt, Am.part, addOff, Nat.reduceAdd, Nat.reduceMul, Nat.reduceLeDiff, Nat.reduceSub, Nat.reduceLT, Int.reduceEq, Int.reduceLT, Int.reduceLE, Int.reduceGT, Int.reduceGE, Int.reduceAdd, Int.reduceSub, Int.reduceMul, Int.reduceNeg, Int.reduceToNat, reduceCtorEq, reduceIte, rmp, H.fai, Int.toNat_natCast, lenV_sl i1, view_sl i1, scalar_sl i1, cells_sl i1, pure_sl i1, ← hn, List.append_assoc, List.cons_append, List.nil_append, List.length_append, List.length_cons, List.length_nil, Nat.zero_add, Nat.add_assoc, aN, a0, sN, List.getElem?_cons_succ, List.getElem?_cons_zero, List.set_cons_succ, List.set_cons_zero, nle, Nat.le_refl, hg3', k0, k1, k2, a1, a2]
    rfl
  · rw [hfn]
    have hx := wm _ (getD_memI hi)
    have gx := G.bg.at hx.1 hx.2
    have ep := elem_in i1
    have hil : (i : Int) < (bsT f.bids (fun _ => true) (allS r f.bids)).1.length := by exact Int.ofNat_lt.2 hi
    have hin : ¬ (i : Int) < 0 := by omega
    obtain ⟨x, ex⟩ : ∃ x, x = (bsT f.bids (fun _ => true) (allS r f.bids)).1.getD i 0 := ⟨_, rfl⟩
    have eb := H.bi.el x (by rw [ex]; exact hx.1) (by rw [ex]; exact hx.2)
    have hw : (wins f.bids r).getD i 0 = x := ex.symm
    rw [hw]
    rw [← ex] at hx gx
    simp only [tops]
    simp (disch := first | assumption | omega | (simp only [az]; done)) only [ru, eq_self, if_true, if_false, BEq.rfl, binI, AO.row?, splice, fillL, mmAll, loadV, storeV, zeros, Am.rowAt, Am.part, addOff, Nat.reduceAdd, Nat.reduceMul, Nat.reduceLeDiff, Nat.reduceSub, Nat.reduceLT, Int.reduceEq, Int.reduceLT, Int.reduceLE, Int.reduceGT, Int.reduceGE, Int.reduceAdd, Int.reduceSub, Int.reduceMul, Int.reduceNeg, Int.reduceToNat, reduceCtorEq, reduceIte, rmp, H.fai, Int.toNat_natCast, lenV_sl i1, view_sl i1, scalar_sl i1, cells_sl i1, pure_sl i1, ← hn, List.append_assoc, List.cons_append, List.nil_append, List.length_append, List.length_cons, List.length_nil, Nat.zero_add, Nat.add_assoc, aN, a0, sN, List.getElem?_cons_succ, List.getElem?_cons_zero, List.set_cons_succ, List.set_cons_zero, nle, Nat.le_refl, hg3', k0, k1, k2, a1, a2, a3, ep, hil, hin, Int.toNat_natCast, ← ex, eb]
    rfl
end
end Go.Proofs.YtfagcnokdnanpaaGreat.S
/-
The program's answers: Ready, Good, Most, Winners, Won, Pays, Paid, Need, On, When.
-/
namespace Go.Proofs.YtfagcnokdnanpaaGreat.S
open Go Go.Am Go.Proofs.YtfagcnokdnanpaaGreat.T
set_option maxRecDepth 100000
set_option linter.unusedSimpArgs false
set_option linter.unusedVariables false
theorem mx_b {x lo hi : Int} (h : lo ≤ x ∧ x ≤ hi) (h0 : lo ≤ 0 ∧ 0 ≤ hi) : lo ≤ mx 0 x ∧ mx 0 x ≤ hi := by unfold mx; split <;> omega
section
variable {f : Fs} {k p b pv bv : AV} {w : Nat → AV}
set_option maxHeartbeats 1000000 in
theorem t88 (H : FsOk f k p b pv bv w) (G : FG f) {r : Int → Bool} {mo : Nat} {g : List AO} (hmo : mo < g.length) {c : Int} (c0 : 0 ≤ c) (hc : c < f.bids.length) :
    Ro E 88 [wkV f k p b pv bv r mo, I c] g = some (.tup [I (if needE f.bids r c then 0 else needF f.bids r c), I (if needE f.bids r c then 3 else 0)]) := by
  have eb := H.bi.el c c0 hc
  have gx := G.bg.at c0 hc
  have b1 := bsT_bd G.bg (r := r) (pm := fun s => decide (c ∈ s))
  have b2 := bsT_bd G.bg (r := r) (pm := fun s => !decide (c ∈ s))
  obtain ⟨n, hn⟩ : ∃ n, n = g.length := ⟨_, rfl⟩
  have a2 := t65 c (g ++ [.cells (wkC f k p b pv bv r mo) false])
  have l2 : (g ++ [.cells (wkC f k p b pv bv r mo) false] ++ [.cells [I c] false] : List AO).length = n + 2 := by simp [hn]
  have a3 := t64 H G (r := r) (mo := mo) (g := g ++ [.cells (wkC f k p b pv bv r mo) false] ++ [.cells [I c] false]) (K := 102) (cap := [.ptr (g.length + 1) 0]) (pm := fun s => decide (c ∈ s)) (by rw [l2]; omega) fun hk h q m F hq L hF => t102 L (by have := isS_lenL hF; have := G.bg.l; omega) (h.at at2)
  simp only [List.length_append, List.length_cons, List.length_nil, Nat.zero_add] at a2
  have gz : g.length + 1 ≤ g.length + 1 + 1 := by omega
  obtain ⟨W, hW⟩ : ∃ W, W = wit f.bids r c := ⟨_, rfl⟩
  obtain ⟨V, hV⟩ : ∃ V, V = wot f.bids r c := ⟨_, rfl⟩
  have hW' : (bsT f.bids (fun s => decide (c ∈ s)) (allS r f.bids)).2 = W := hW.symm
  have hV' : (bsT f.bids (fun s => !decide (c ∈ s)) (allS r f.bids)).2 = V := hV.symm
  rw [hW', hV'] at a3
  rw [hW'] at b1
  rw [hV'] at b2
  obtain ⟨z, hz⟩ : ∃ z, z = (bAt f.bids c).c := ⟨_, rfl⟩
  rw [← hz] at gx eb
  have nb := mx_b (x := V - (W - z)) (lo := -2000) (hi := 2000) (by omega) (by omega)
  simp only [needE, needF, ← hW, ← hV, ← hz]
  obtain ⟨M, hM⟩ : ∃ M, M = mx 0 (V - (W - z)) := ⟨_, rfl⟩
  have hmm : mmx true 0 (V - (W - z)) = M := by rw [hM]; rfl
  rw [← hM] at nb ⊢
  have atA : ∀ a b : AO, (g ++ [a] ++ [b])[g.length]? = some a := fun a b => by simp
  simp only [wkV, wkC] at a3 a2
  refine Ro_of (es _ _ _ _) e88 ?_
  simp only [f88]
  by_cases h1 : W < 0
  · simp (disch := first | assumption | omega | (simp only [az]; done)) only [ru, eq_self, if_true, if_false, BEq.rfl, binI, AO.row?, splice, fillL, mmAll, loadV, storeV, zeros, Am.rowAt, Am.part, addOff, Nat.reduceAdd, Nat.reduceMul, Nat.reduceLeDiff, Nat.reduceSub, Nat.reduceLT, Int.reduceEq, Int.reduceLT, Int.reduceLE, Int.reduceGT, Int.reduceGE, Int.reduceAdd, Int.reduceSub, Int.reduceMul, Int.reduceNeg, Int.reduceToNat, reduceCtorEq, reduceIte, rmp, H.fai, Int.toNat_natCast, atE, atA, at2, lenE, exOp_call2, a2, a3, eb, hmm, h1, gUn, decide_true, Bool.true_or]
    simp [h1, AV.under, AV.under.go]
  · by_cases h2 : M > 99
    · simp (disch := first | assumption | omega | (simp only [az]; done)) only [ru, eq_self, if_true, if_false, BEq.rfl, binI, AO.row?, splice, fillL, mmAll, loadV, storeV, zeros, Am.rowAt, Am.part, addOff, Nat.reduceAdd, Nat.reduceMul, Nat.reduceLeDiff, Nat.reduceSub, Nat.reduceLT, Int.reduceEq, Int.reduceLT, Int.reduceLE, Int.reduceGT, Int.reduceGE, Int.reduceAdd, Int.reduceSub, Int.reduceMul, Int.reduceNeg, Int.reduceToNat, reduceCtorEq, reduceIte, rmp, H.fai, Int.toNat_natCast, atE, atA, at2, lenE, exOp_call2, a2, a3, eb, hmm, h1, h2, gUn, decide_true, decide_false, Bool.false_or]
      simp [h1, h2, AV.under, AV.under.go]
    · simp (disch := first | assumption | omega | (simp only [az]; done)) only [ru, eq_self, if_true, if_false, BEq.rfl, binI, AO.row?, splice, fillL, mmAll, loadV, storeV, zeros, Am.rowAt, Am.part, addOff, Nat.reduceAdd, Nat.reduceMul, Nat.reduceLeDiff, Nat.reduceSub, Nat.reduceLT, Int.reduceEq, Int.reduceLT, Int.reduceLE, Int.reduceGT, Int.reduceGE, Int.reduceAdd, Int.reduceSub, Int.reduceMul, Int.reduceNeg, Int.reduceToNat, reduceCtorEq, reduceIte, rmp, H.fai, Int.toNat_natCast, atE, atA, at2, lenE, exOp_call2, a2, a3, eb, hmm, h1, h2, gUn, decide_true, decide_false, Bool.false_or]
      simp [h1, h2, AV.under, AV.under.go]
set_option maxHeartbeats 1000000 in
theorem t94 (H : FsOk f k p b pv bv w) (G : FG f) {mo lim : Nat} {g : List AO} (hmo : mo < g.length) (hlim : lim ≤ mo) {es' : List (List Int × AV)} (hm : g[mo]? = some (.mpo k4 es')) (C : CaOk f.bids es') :
    ∃ g', R E (.fn 94) [wkV f k p b pv bv f.r mo] g lim = some (I (fsB (fun d => tops f.bids (rdF f.h f.pk d)) 21).1, g') := by
  refine (fun x => ?_ : (∃ u g', R E (.fn 94) [wkV f k p b pv bv f.r mo] g lim = some (u, g') ∧ u = I (fsB (fun d => tops f.bids (rdF f.h f.pk d)) 21).1) → _) (R_of _ (es _ _ _ _) e94 ?_)
  · obtain ⟨u, g', h1, rfl⟩ := x; exact ⟨g', h1⟩
  simp only [f94]
  simp (disch := first | assumption | omega | (simp only [az]; done)) only [ru, eq_self, if_true, if_false, BEq.rfl, binI, AO.row?, splice, fillL, mmAll, loadV, storeV, zeros, Am.rowAt, Am.part, addOff, Nat.reduceAdd, Nat.reduceMul, Nat.reduceLeDiff, Nat.reduceSub, Nat.reduceLT, Int.reduceEq, Int.reduceLT, Int.reduceLE, Int.reduceGT, Int.reduceGE, Int.reduceAdd, Int.reduceSub, Int.reduceMul, Int.reduceNeg, Int.reduceToNat, reduceCtorEq, reduceIte, rmp, H.fai, Int.toNat_natCast, lenE]
  refine G_loop_ind (fun y ts hk mk => ∃ (j : Nat) (e2 : List (List Int × AV)), j ≤ 21 ∧ y = 21 - j ∧ g.length < hk.length ∧ hk[g.length]? = some (.cells (wkC f k p b pv bv f.r mo) false) ∧ hk[mo]? = some (.mpo k4 e2) ∧ CaOk f.bids e2 ∧
      ts.length = 24 ∧ ts.getD 1 .undef = .ptr g.length 0 ∧ ts.getD 3 .undef = I (fsB (fun d => tops f.bids (rdF f.h f.pk d)) j).1 ∧ ts.getD 4 .undef = I (fsB (fun d => tops f.bids (rdF f.h f.pk d)) j).2 ∧ ts.getD 7 .undef = I j ∧ mk = []) ?_ 21 _ _ _ ?_
  rotate_left
  · exact ⟨0, es', by omega, rfl, by simp, by simp, by rw [at_ap hmo]; exact hm, C, rfl, rfl, rfl, rfl, rfl, rfl⟩
  rintro y ts hk mk ihk ⟨j, e2, hj, rfl, hl, c0, hm2, C2, hl', q1, q3, q4, q7, rfl⟩
  rw [lit_all hl']
  simp only [lit0, litS, Nat.reduceAdd, q1, q3, q4, q7]
  simp (disch := first | assumption | omega | (simp only [az]; done)) only [ru, eq_self, if_true, if_false, BEq.rfl, binI, AO.row?, splice, fillL, mmAll, loadV, storeV, zeros, Am.rowAt, Am.part, addOff, Nat.reduceAdd, Nat.reduceMul, Nat.reduceLeDiff, Nat.reduceSub, Nat.reduceLT, Int.reduceEq, Int.reduceLT, Int.reduceLE, Int.reduceGT, Int.reduceGE, Int.reduceAdd, Int.reduceSub, Int.reduceMul, Int.reduceNeg, Int.reduceToNat, reduceCtorEq, reduceIte]
  by_cases hlt : (j : Int) < 21
  case neg =>
    obtain rfl : j = 21 := by omega
    simp (disch := first | assumption | omega | (simp only [az]; done)) only [ru, eq_self, if_true, if_false, BEq.rfl, binI, AO.row?, splice, fillL, mmAll, loadV, storeV, zeros, Am.rowAt, Am.part, addOff, Nat.reduceAdd, Nat.reduceMul, Nat.reduceLeDiff, Nat.reduceSub, Nat.reduceLT, Int.reduceEq, Int.reduceLT, Int.reduceLE, Int.reduceGT, Int.reduceGE, Int.reduceAdd, Int.reduceSub, Int.reduceMul, Int.reduceNeg, Int.reduceToNat, reduceCtorEq, reduceIte, hlt]
  have mo2 : mo < hk.length := by omega
  have a1 := t91 H G.h H.pk G.pk (j : Int) (r := f.r) (rdF_far _ _ _) (o := mo) (g := hk) mo2
  have Gj := G.on G.pk (d := (j : Int)) ⟨by omega, by omega⟩
  have Hj := H.on H.pk H.np (j : Int)
  obtain ⟨h3, e3, a2, l3, k3, m3, C3⟩ := t79 Hj Gj (r := rdF f.h f.pk j) (lim := lim) mo2 hlim hm2 C2
  have d0 : h3[g.length]? = some (.cells (wkC f k p b pv bv f.r mo) false) := by rw [k3 _ hl (by omega)]; exact c0
  have eb : (f.on f.pk (j : Int)).bids = f.bids := rfl
  have fs : fsB (fun d => tops f.bids (rdF f.h f.pk d)) (j + 1) = if (fsB (fun d => tops f.bids (rdF f.h f.pk d)) j).2 < tops f.bids (rdF f.h f.pk j) then ((j : Int), tops f.bids (rdF f.h f.pk j)) else fsB (fun d => tops f.bids (rdF f.h f.pk d)) j := rfl
  obtain ⟨Z, hZ⟩ : ∃ Z, Z = fsB (fun d => tops f.bids (rdF f.h f.pk d)) j := ⟨_, rfl⟩
  obtain ⟨T, hT⟩ : ∃ T, T = tops f.bids (rdF f.h f.pk j) := ⟨_, rfl⟩
  rw [eb, ← hT] at a2
  rw [← hZ, ← hT] at fs
  rw [← hZ]
  have C3' : CaOk f.bids e3 := C3
  simp only [wkV, wkC, Fs.on] at a1 a2 c0
  by_cases c1 : Z.2 < T
  · rw [if_pos c1] at fs
    simp (disch := first | assumption | omega | (simp only [az]; done)) only [ru, eq_self, if_true, if_false, BEq.rfl, binI, AO.row?, splice, fillL, mmAll, loadV, storeV, zeros, Am.rowAt, Am.part, addOff, Nat.reduceAdd, Nat.reduceMul, Nat.reduceLeDiff, Nat.reduceSub, Nat.reduceLT, Int.reduceEq, Int.reduceLT, Int.reduceLE, Int.reduceGT, Int.reduceGE, Int.reduceAdd, Int.reduceSub, Int.reduceMul, Int.reduceNeg, Int.reduceToNat, reduceCtorEq, reduceIte, rmp, H.fai, Int.toNat_natCast, hlt, c0, a1, a2, c1, exOp_call0]
    exact ihk (21 - (j + 1)) _ _ _ (by omega) ⟨j + 1, e3, by omega, rfl, by omega, d0, m3, C3', rfl, rfl, by rw [fs]; rfl, by rw [fs]; rfl, rfl, rfl⟩
  · rw [if_neg c1] at fs
    simp (disch := first | assumption | omega | (simp only [az]; done)) only [ru, eq_self, if_true, if_false, BEq.rfl, binI, AO.row?, splice, fillL, mmAll, loadV, storeV, zeros, Am.rowAt, Am.part, addOff, Nat.reduceAdd, Nat.reduceMul, Nat.reduceLeDiff, Nat.reduceSub, Nat.reduceLT, Int.reduceEq, Int.reduceLT, Int.reduceLE, Int.reduceGT, Int.reduceGE, Int.reduceAdd, Int.reduceSub, Int.reduceMul, Int.reduceNeg, Int.reduceToNat, reduceCtorEq, reduceIte, rmp, H.fai, Int.toNat_natCast, hlt, c0, a1, a2, c1, exOp_call0]
    exact ihk (21 - (j + 1)) _ _ _ (by omega) ⟨j + 1, e3, by omega, rfl, by omega, d0, m3, C3', rfl, rfl, by rw [fs]; rfl, by rw [fs]; rfl, rfl, rfl⟩
end
end Go.Proofs.YtfagcnokdnanpaaGreat.S
/-
The program's answers: Ready, Good, Most, Winners, Won, Pays, Paid, Need, On, When.
-/
namespace Go.Proofs.YtfagcnokdnanpaaGreat.S
open Go Go.Am Go.Proofs.YtfagcnokdnanpaaGreat.T
set_option maxRecDepth 100000
set_option linter.unusedSimpArgs false
set_option linter.unusedVariables false
section
variable {f : Fs} {k p b pv bv : AV} {w : Nat → AV}
abbrev frC (f : Fs) (k p b pv bv : AV) : List AV := [k, I f.h.fl, p, b, pv, I f.d, I f.n, bv]
set_option maxHeartbeats 1000000 in
theorem t40 (H : FsOk f k p b pv bv w) (st : Bool) : Iso E 40 [frV f k p b pv bv] st = some (.tup [if f.valid then resL (idx (fun i => f.r i) 4) else .nils, I (fE f.valid)]) := by
  have ck := fun st => t38 H st
  simp only [frV, fE] at ck
  refine Iso_of (es _ _ _ _) e40 ?_
  simp only [f40, frV, fE]
  cases hv : f.valid
  · simp only [hv, Bool.false_eq_true, if_false] at ck
    simp (disch := first | assumption | omega | (simp only [az]; done)) only [ru, eq_self, if_true, if_false, BEq.rfl, binI, AO.row?, splice, fillL, mmAll, loadV, storeV, zeros, Am.rowAt, Am.part, addOff, Nat.reduceAdd, Nat.reduceMul, Nat.reduceLeDiff, Nat.reduceSub, Nat.reduceLT, Int.reduceEq, Int.reduceLT, Int.reduceLE, Int.reduceGT, Int.reduceGE, Int.reduceAdd, Int.reduceSub, Int.reduceMul, Int.reduceNeg, Int.reduceToNat, reduceCtorEq, reduceIte, H.fai, Int.toNat_natCast, ck, fin2]
    done
  simp only [hv, if_true] at ck
  have G := fvalid_iff hv
  obtain ⟨g1, hc, fr, gl, gm⟩ := c61 H G [.cells (frC f k p b pv bv) false]
  simp only [List.length_cons, List.length_nil, Nat.reduceAdd, Nat.zero_add, wkV, wkC, frV, frC] at hc gl gm
  obtain ⟨u, g2, hr, ho⟩ := t77 (r := f.r) (o := 3) H (g := g1) (lim := 0) (by omega)
  simp only [wkV, wkC] at hr
  have hvw := ho.viewL (st := st) (k := 6)
  simp (disch := first | assumption | omega | (simp only [az]; done)) only [ru, eq_self, if_true, if_false, BEq.rfl, binI, AO.row?, splice, fillL, mmAll, loadV, storeV, zeros, Am.rowAt, Am.part, addOff, Nat.reduceAdd, Nat.reduceMul, Nat.reduceLeDiff, Nat.reduceSub, Nat.reduceLT, Int.reduceEq, Int.reduceLT, Int.reduceLE, Int.reduceGT, Int.reduceGE, Int.reduceAdd, Int.reduceSub, Int.reduceMul, Int.reduceNeg, Int.reduceToNat, reduceCtorEq, reduceIte, rmp, H.fai, Int.toNat_natCast, ck, exOp_call2, hc, exOp_call0, hr, hvw, fin2, view_tup, List.mapM_cons, List.mapM_nil, view_int]
set_option maxHeartbeats 1000000 in
theorem t44 (H : FsOk f k p b pv bv w) (st : Bool) : Iso E 44 [frV f k p b pv bv] st = some (.tup [I (if f.valid then tops f.bids f.r else 0), I (fE f.valid)]) := by
  have ck := fun st => t38 H st
  simp only [frV, fE] at ck
  refine Iso_of (es _ _ _ _) e44 ?_
  simp only [f44, frV, fE]
  cases hv : f.valid
  · simp only [hv, Bool.false_eq_true, if_false] at ck
    simp (disch := first | assumption | omega | (simp only [az]; done)) only [ru, eq_self, if_true, if_false, BEq.rfl, binI, AO.row?, splice, fillL, mmAll, loadV, storeV, zeros, Am.rowAt, Am.part, addOff, Nat.reduceAdd, Nat.reduceMul, Nat.reduceLeDiff, Nat.reduceSub, Nat.reduceLT, Int.reduceEq, Int.reduceLT, Int.reduceLE, Int.reduceGT, Int.reduceGE, Int.reduceAdd, Int.reduceSub, Int.reduceMul, Int.reduceNeg, Int.reduceToNat, reduceCtorEq, reduceIte, H.fai, Int.toNat_natCast, ck, fin2]
    done
  simp only [hv, if_true] at ck
  have G := fvalid_iff hv
  obtain ⟨g1, hc, fr, gl, gm⟩ := c61 H G [.cells (frC f k p b pv bv) false]
  simp only [List.length_cons, List.length_nil, Nat.reduceAdd, Nat.zero_add, wkV, wkC, frV, frC] at hc gl gm
  obtain ⟨g2, e2, hr, _, _, _, _⟩ := t79 H G (r := f.r) (mo := 3) (lim := 0) (g := g1) (by omega) (Nat.zero_le _) gm CaOk.nil
  simp only [wkV, wkC] at hr
  simp (disch := first | assumption | omega | (simp only [az]; done)) only [ru, eq_self, if_true, if_false, BEq.rfl, binI, AO.row?, splice, fillL, mmAll, loadV, storeV, zeros, Am.rowAt, Am.part, addOff, Nat.reduceAdd, Nat.reduceMul, Nat.reduceLeDiff, Nat.reduceSub, Nat.reduceLT, Int.reduceEq, Int.reduceLT, Int.reduceLE, Int.reduceGT, Int.reduceGE, Int.reduceAdd, Int.reduceSub, Int.reduceMul, Int.reduceNeg, Int.reduceToNat, reduceCtorEq, reduceIte, rmp, H.fai, Int.toNat_natCast, ck, exOp_call2, hc, exOp_call0, hr, fin2]
set_option maxHeartbeats 1000000 in
theorem t46 (H : FsOk f k p b pv bv w) : Iso E 46 [frV f k p b pv bv] false = some (.tup [if f.valid then bV (bsT f.bids (fun _ => true) (allS f.r f.bids)) else .nils, I (fE f.valid)]) := by
  have ck := fun st => t38 H st
  simp only [frV, fE] at ck
  refine Iso_of (es _ _ _ _) e46 ?_
  simp only [f46, frV, fE]
  cases hv : f.valid
  · simp only [hv, Bool.false_eq_true, if_false] at ck
    simp (disch := first | assumption | omega | (simp only [az]; done)) only [ru, eq_self, if_true, if_false, BEq.rfl, binI, AO.row?, splice, fillL, mmAll, loadV, storeV, zeros, Am.rowAt, Am.part, addOff, Nat.reduceAdd, Nat.reduceMul, Nat.reduceLeDiff, Nat.reduceSub, Nat.reduceLT, Int.reduceEq, Int.reduceLT, Int.reduceLE, Int.reduceGT, Int.reduceGE, Int.reduceAdd, Int.reduceSub, Int.reduceMul, Int.reduceNeg, Int.reduceToNat, reduceCtorEq, reduceIte, H.fai, Int.toNat_natCast, ck, fin2]
    done
  simp only [hv, if_true] at ck
  have G := fvalid_iff hv
  obtain ⟨g1, hc, fr, gl, gm⟩ := c61 H G [.cells (frC f k p b pv bv) false]
  simp only [List.length_cons, List.length_nil, Nat.reduceAdd, Nat.zero_add, wkV, wkC, frV, frC] at hc gl gm
  have h0 : ∀ s ∈ allS f.r f.bids, 0 ≤ prc f.bids s := fun s hs => (sale_bd G.bg (mem_allS.1 hs)).1
  have i1 := bV_is (p := fun _ => true) h0
  have a1 := t81 H G (r := f.r) (mo := 3) (g := g1) (K := 82) (cap := []) (pm := fun _ => true) (by omega) fun hk h q m F hq L hF => t82
  simp only [wkV, wkC] at a1
  have vw := fun g n => view_sl i1 (g := g) (n := n)
  simp (disch := first | assumption | omega | (simp only [az]; done)) only [ru, eq_self, if_true, if_false, BEq.rfl, binI, AO.row?, splice, fillL, mmAll, loadV, storeV, zeros, Am.rowAt, Am.part, addOff, Nat.reduceAdd, Nat.reduceMul, Nat.reduceLeDiff, Nat.reduceSub, Nat.reduceLT, Int.reduceEq, Int.reduceLT, Int.reduceLE, Int.reduceGT, Int.reduceGE, Int.reduceAdd, Int.reduceSub, Int.reduceMul, Int.reduceNeg, Int.reduceToNat, reduceCtorEq, reduceIte, rmp, H.fai, Int.toNat_natCast, lenV_sl i1, view_sl i1, scalar_sl i1, cells_sl i1, pure_sl i1, ck, exOp_call2, hc, a1, fin2, view_tup, List.mapM_cons, List.mapM_nil, view_int]
theorem t25 (H : FsOk f k p b pv bv w) (u : Int) (st : Bool) : Iso E 25 [frV f k p b pv bv, I u] st = some (.tup [I (if askF f.valid (inR u 0 (f.n - 1)) = 0 then payF f.bids f.r u else 0), I (askF f.valid (inR u 0 (f.n - 1)))]) := by
  have ck := fun st => t38 H st
  have cu := fun st => t67 H.toFsIn u st
  simp only [frV, fE] at ck cu
  refine Iso_of (es _ _ _ _) e25 ?_
  simp only [f25, frV, fE, askF]
  cases hv : f.valid
  · simp only [hv, Bool.false_eq_true, if_false] at ck
    simp (disch := first | assumption | omega | (simp only [az]; done)) only [ru, eq_self, if_true, if_false, BEq.rfl, binI, AO.row?, splice, fillL, mmAll, loadV, storeV, zeros, Am.rowAt, Am.part, addOff, Nat.reduceAdd, Nat.reduceMul, Nat.reduceLeDiff, Nat.reduceSub, Nat.reduceLT, Int.reduceEq, Int.reduceLT, Int.reduceLE, Int.reduceGT, Int.reduceGE, Int.reduceAdd, Int.reduceSub, Int.reduceMul, Int.reduceNeg, Int.reduceToNat, reduceCtorEq, reduceIte, H.fai, Int.toNat_natCast, ck, fin2]
    done
  simp only [hv, if_true] at ck
  have G := fvalid_iff hv
  obtain ⟨g1, hc, fr, gl, gm⟩ := c61 H G [.cells (frC f k p b pv bv) false]
  simp only [List.length_cons, List.length_nil, Nat.reduceAdd, Nat.zero_add, wkV, wkC, frV, frC] at hc gl gm
  have a := t66 H G (r := f.r) (mo := 3) (g := g1) (by omega) u
  simp only [wkV, wkC] at a
  cases h : inR u 0 (f.n - 1)
  · rw [h] at cu
    simp (disch := first | assumption | omega | (simp only [az]; done)) only [ru, eq_self, if_true, if_false, BEq.rfl, binI, AO.row?, splice, fillL, mmAll, loadV, storeV, zeros, Am.rowAt, Am.part, addOff, Nat.reduceAdd, Nat.reduceMul, Nat.reduceLeDiff, Nat.reduceSub, Nat.reduceLT, Int.reduceEq, Int.reduceLT, Int.reduceLE, Int.reduceGT, Int.reduceGE, Int.reduceAdd, Int.reduceSub, Int.reduceMul, Int.reduceNeg, Int.reduceToNat, reduceCtorEq, reduceIte, rmp, H.fai, Int.toNat_natCast, ck, cu, fin2, Bool.not_false]
  · rw [h] at cu
    simp (disch := first | assumption | omega | (simp only [az]; done)) only [ru, eq_self, if_true, if_false, BEq.rfl, binI, AO.row?, splice, fillL, mmAll, loadV, storeV, zeros, Am.rowAt, Am.part, addOff, Nat.reduceAdd, Nat.reduceMul, Nat.reduceLeDiff, Nat.reduceSub, Nat.reduceLT, Int.reduceEq, Int.reduceLT, Int.reduceLE, Int.reduceGT, Int.reduceGE, Int.reduceAdd, Int.reduceSub, Int.reduceMul, Int.reduceNeg, Int.reduceToNat, reduceCtorEq, reduceIte, rmp, H.fai, Int.toNat_natCast, ck, cu, exOp_call2, hc, a, fin2, Bool.not_true]
theorem t49 (H : FsOk f k p b pv bv w) (c : Int) (st : Bool) : Iso E 49 [frV f k p b pv bv, I c] st = some (.tup [I (if askF f.valid (inR c 0 (f.bids.length - 1)) = 0 ∧ needE f.bids f.r c = false then needF f.bids f.r c else 0), I (if askF f.valid (inR c 0 (f.bids.length - 1)) = 0 then (if needE f.bids f.r c then 3 else 0) else askF f.valid (inR c 0 (f.bids.length - 1)))]) := by
  have ck := fun st => t63 H c st
  simp only [frV] at ck
  refine Iso_of (es _ _ _ _) e49 ?_
  simp only [f49, frV]
  obtain ⟨e, he⟩ : ∃ e, e = askF f.valid (inR c 0 (f.bids.length - 1)) := ⟨_, rfl⟩
  rw [← he] at ck ⊢
  by_cases e0 : e = 0
  case neg =>
    have e1 : (e != 0) = true := by simp [e0]
    simp (disch := first | assumption | omega | (simp only [az]; done)) only [ru, eq_self, if_true, if_false, BEq.rfl, binI, AO.row?, splice, fillL, mmAll, loadV, storeV, zeros, Am.rowAt, Am.part, addOff, Nat.reduceAdd, Nat.reduceMul, Nat.reduceLeDiff, Nat.reduceSub, Nat.reduceLT, Int.reduceEq, Int.reduceLT, Int.reduceLE, Int.reduceGT, Int.reduceGE, Int.reduceAdd, Int.reduceSub, Int.reduceMul, Int.reduceNeg, Int.reduceToNat, reduceCtorEq, reduceIte, H.fai, Int.toNat_natCast, ck, e0, e1, fin2]
    simp [e0]
  subst e0
  have hv : f.valid = true := by
    cases h : f.valid
    · rw [h] at he; simp [askF] at he
    · rfl
  have hc2 : inR c 0 (f.bids.length - 1) = true := by
    cases h : inR c 0 (f.bids.length - 1)
    · rw [hv, h] at he; simp [askF] at he
    · rfl
  have hin := inR_iff.1 hc2
  have G := fvalid_iff hv
  obtain ⟨g1, hc, fr, gl, gm⟩ := c61 H G [.cells (frC f k p b pv bv) false]
  simp only [List.length_cons, List.length_nil, Nat.reduceAdd, Nat.zero_add, wkV, wkC, frV, frC] at hc gl gm
  have a := t88 H G (r := f.r) (mo := 3) (g := g1) (by omega) (c := c) hin.1 (by omega)
  simp only [wkV, wkC] at a
  cases hn : needE f.bids f.r c
  · rw [hn] at a
    simp only [Bool.false_eq_true, if_false] at a
    simp (disch := first | assumption | omega | (simp only [az]; done)) only [ru, eq_self, if_true, if_false, BEq.rfl, binI, AO.row?, splice, fillL, mmAll, loadV, storeV, zeros, Am.rowAt, Am.part, addOff, Nat.reduceAdd, Nat.reduceMul, Nat.reduceLeDiff, Nat.reduceSub, Nat.reduceLT, Int.reduceEq, Int.reduceLT, Int.reduceLE, Int.reduceGT, Int.reduceGE, Int.reduceAdd, Int.reduceSub, Int.reduceMul, Int.reduceNeg, Int.reduceToNat, reduceCtorEq, reduceIte, rmp, H.fai, Int.toNat_natCast, ck, exOp_call2, hc, a, fin2, and_self, Bool.false_eq_true]
  · rw [hn] at a
    simp only [if_true] at a
    simp (disch := first | assumption | omega | (simp only [az]; done)) only [ru, eq_self, if_true, if_false, BEq.rfl, binI, AO.row?, splice, fillL, mmAll, loadV, storeV, zeros, Am.rowAt, Am.part, addOff, Nat.reduceAdd, Nat.reduceMul, Nat.reduceLeDiff, Nat.reduceSub, Nat.reduceLT, Int.reduceEq, Int.reduceLT, Int.reduceLE, Int.reduceGT, Int.reduceGE, Int.reduceAdd, Int.reduceSub, Int.reduceMul, Int.reduceNeg, Int.reduceToNat, reduceCtorEq, reduceIte, rmp, H.fai, Int.toNat_natCast, ck, exOp_call2, hc, a, fin2, and_false]
set_option maxHeartbeats 1000000 in
theorem t55 (H : FsOk f k p b pv bv w) (st : Bool) : Iso E 55 [frV f k p b pv bv] st = some (.tup [I (if f.valid then (fsB (fun d => tops f.bids (rdF f.h f.pk d)) 21).1 else 0), I (fE f.valid)]) := by
  have ck := fun st => t38 H st
  simp only [frV, fE] at ck
  refine Iso_of (es _ _ _ _) e55 ?_
  simp only [f55, frV, fE]
  cases hv : f.valid
  · simp only [hv, Bool.false_eq_true, if_false] at ck
    simp (disch := first | assumption | omega | (simp only [az]; done)) only [ru, eq_self, if_true, if_false, BEq.rfl, binI, AO.row?, splice, fillL, mmAll, loadV, storeV, zeros, Am.rowAt, Am.part, addOff, Nat.reduceAdd, Nat.reduceMul, Nat.reduceLeDiff, Nat.reduceSub, Nat.reduceLT, Int.reduceEq, Int.reduceLT, Int.reduceLE, Int.reduceGT, Int.reduceGE, Int.reduceAdd, Int.reduceSub, Int.reduceMul, Int.reduceNeg, Int.reduceToNat, reduceCtorEq, reduceIte, H.fai, Int.toNat_natCast, ck, fin2]
    done
  simp only [hv, if_true] at ck
  have G := fvalid_iff hv
  obtain ⟨g1, hc, fr, gl, gm⟩ := c61 H G [.cells (frC f k p b pv bv) false]
  simp only [List.length_cons, List.length_nil, Nat.reduceAdd, Nat.zero_add, wkV, wkC, frV, frC] at hc gl gm
  obtain ⟨g2, hr⟩ := t94 H G (mo := 3) (lim := 0) (g := g1) (by omega) (Nat.zero_le _) gm CaOk.nil
  simp only [wkV, wkC] at hr
  simp (disch := first | assumption | omega | (simp only [az]; done)) only [ru, eq_self, if_true, if_false, BEq.rfl, binI, AO.row?, splice, fillL, mmAll, loadV, storeV, zeros, Am.rowAt, Am.part, addOff, Nat.reduceAdd, Nat.reduceMul, Nat.reduceLeDiff, Nat.reduceSub, Nat.reduceLT, Int.reduceEq, Int.reduceLT, Int.reduceLE, Int.reduceGT, Int.reduceGE, Int.reduceAdd, Int.reduceSub, Int.reduceMul, Int.reduceNeg, Int.reduceToNat, reduceCtorEq, reduceIte, rmp, H.fai, Int.toNat_natCast, ck, exOp_call2, hc, exOp_call0, hr, fin2]
end
end Go.Proofs.YtfagcnokdnanpaaGreat.S
/-
The specification: who bids, which barrels are ready, what is a sale, what it brings.
-/
namespace Go.Proofs.YtfagcnokdnanpaaGreat.S
open Go Go.Am Go.Proofs.YtfagcnokdnanpaaGreat.T
set_option maxRecDepth 100000
set_option linter.unusedSimpArgs false
set_option linter.unusedVariables false
section
variable {f : Fs} {k p b pv bv : AV} {w : Nat → AV}
theorem t27 (H : FsIn f k p b pv bv w) (n : Int) (hb : -9223372036854775808 ≤ f.n - 1 ∧ f.n - 1 ≤ 9223372036854775807) (st : Bool) : Iso E 27 [frV f k p b pv bv, I n] st = some (Bo (inR n 0 (f.n - 1))) := by
  refine Iso_of (es _ _ _ _) e27 ?_
  simp only [f27]
  simp (disch := first | assumption | omega | (simp only [az]; done)) only [ru, eq_self, if_true, if_false, BEq.rfl, binI, AO.row?, splice, fillL, mmAll, loadV, storeV, zeros, Am.rowAt, Am.part, addOff, Nat.reduceAdd, Nat.reduceMul, Nat.reduceLeDiff, Nat.reduceSub, Nat.reduceLT, Int.reduceEq, Int.reduceLT, Int.reduceLE, Int.reduceGT, Int.reduceGE, Int.reduceAdd, Int.reduceSub, Int.reduceMul, Int.reduceNeg, Int.reduceToNat, reduceCtorEq, reduceIte, H.fai, Int.toNat_natCast, t68]
end
end Go.Proofs.YtfagcnokdnanpaaGreat.S
/-
The specification: what is a sale, what it brings; what is valid; what is too much.
-/
namespace Go.Proofs.YtfagcnokdnanpaaGreat.S
open Go Go.Am Go.Proofs.YtfagcnokdnanpaaGreat.T
set_option maxRecDepth 100000
set_option linter.unusedSimpArgs false
set_option linter.unusedVariables false
section
variable {f : Fs} {k p b pv bv : AV} {w : Nat → AV}
end
end Go.Proofs.YtfagcnokdnanpaaGreat.S
/-
The specification: what is valid; the laws: what is far too much, what they ask of the program's answers.
-/
namespace Go.Proofs.YtfagcnokdnanpaaGreat.S
open Go Go.Am Go.Proofs.YtfagcnokdnanpaaGreat.T
set_option maxRecDepth 100000
set_option linter.unusedSimpArgs false
set_option linter.unusedVariables false
def Fs.huge (f : Fs) : Bool := f.h.huge || decide ((f.pk.length : Int) > 40) || decide ((f.bids.length : Int) > 40) || !((List.range f.bids.length).all fun i => decide ((bAt f.bids i).bs.length ≤ 40))
def Fs.rdy (f : Fs) : Bool := !f.huge && f.valid
theorem fE_f : fE false = 90 := rfl
theorem fE_t : fE true = 0 := rfl
section
variable {f : Fs} {k p b pv bv : AV} {w : Nat → AV}
set_option maxHeartbeats 2000000 in
theorem t39 (H : FsOk f k p b pv bv w) (st : Bool) : Iso E 39 [frV f k p b pv bv] st = some (I (fE f.valid)) := by
  have nb := H.nb
  have a1 := fun st => s20 H.ho st
  simp only [hsV] at a1
  refine Iso_of (es _ _ _ _) e39 ?_
  simp only [f39, frV]
  have vd : f.valid = (f.h.valid && f.h.isP f.pk && inR f.d 0 20 && inR f.n 0 4 && decide ((f.bids.length : Int) ≤ 8) && (List.range f.bids.length).all fun i => bidOk f.n f.h.bs.length (bAt f.bids i)) := rfl
  cases c1 : f.h.valid
  · simp only [c1, vE, Bool.false_eq_true, if_false] at a1
    rw [show f.valid = false by rw [vd, c1]; rfl]
    simp (disch := first | assumption | omega | (simp only [az]; done)) only [ru, eq_self, if_true, if_false, BEq.rfl, binI, AO.row?, splice, fillL, mmAll, loadV, storeV, zeros, Am.rowAt, Am.part, addOff, Nat.reduceAdd, Nat.reduceMul, Nat.reduceLeDiff, Nat.reduceSub, Nat.reduceLT, Int.reduceEq, Int.reduceLT, Int.reduceLE, Int.reduceGT, Int.reduceGE, Int.reduceAdd, Int.reduceSub, Int.reduceMul, Int.reduceNeg, Int.reduceToNat, reduceCtorEq, reduceIte, H.fai, Int.toNat_natCast, a1, gUn, fE_f]
  simp only [c1, vE, if_true] at a1
  have G := valid_iff.1 c1
  have a2 := fun st => s47 H.ho G H.pk (by have := H.np; omega) st
  simp only [hsV] at a2
  cases c2 : f.h.isP f.pk
  · rw [c2] at a2
    rw [show f.valid = false by rw [vd, c2]; simp]
    simp (disch := first | assumption | omega | (simp only [az]; done)) only [ru, eq_self, if_true, if_false, BEq.rfl, binI, AO.row?, splice, fillL, mmAll, loadV, storeV, zeros, Am.rowAt, Am.part, addOff, Nat.reduceAdd, Nat.reduceMul, Nat.reduceLeDiff, Nat.reduceSub, Nat.reduceLT, Int.reduceEq, Int.reduceLT, Int.reduceLE, Int.reduceGT, Int.reduceGE, Int.reduceAdd, Int.reduceSub, Int.reduceMul, Int.reduceNeg, Int.reduceToNat, reduceCtorEq, reduceIte, H.fai, Int.toNat_natCast, a1, a2, gUn, fE_f, Bool.not_false]
  rw [c2] at a2
  cases c3 : inR f.d 0 20
  · rw [show f.valid = false by rw [vd, c3]; simp]
    simp (disch := first | assumption | omega | (simp only [az]; done)) only [ru, eq_self, if_true, if_false, BEq.rfl, binI, AO.row?, splice, fillL, mmAll, loadV, storeV, zeros, Am.rowAt, Am.part, addOff, Nat.reduceAdd, Nat.reduceMul, Nat.reduceLeDiff, Nat.reduceSub, Nat.reduceLT, Int.reduceEq, Int.reduceLT, Int.reduceLE, Int.reduceGT, Int.reduceGE, Int.reduceAdd, Int.reduceSub, Int.reduceMul, Int.reduceNeg, Int.reduceToNat, reduceCtorEq, reduceIte, H.fai, Int.toNat_natCast, a1, a2, t68, c3, gUn, fE_f, Bool.not_false, Bool.not_true]
  cases c4 : inR f.n 0 4
  · rw [show f.valid = false by rw [vd, c4]; simp]
    simp (disch := first | assumption | omega | (simp only [az]; done)) only [ru, eq_self, if_true, if_false, BEq.rfl, binI, AO.row?, splice, fillL, mmAll, loadV, storeV, zeros, Am.rowAt, Am.part, addOff, Nat.reduceAdd, Nat.reduceMul, Nat.reduceLeDiff, Nat.reduceSub, Nat.reduceLT, Int.reduceEq, Int.reduceLT, Int.reduceLE, Int.reduceGT, Int.reduceGE, Int.reduceAdd, Int.reduceSub, Int.reduceMul, Int.reduceNeg, Int.reduceToNat, reduceCtorEq, reduceIte, H.fai, Int.toNat_natCast, a1, a2, t68, c3, c4, gUn, fE_f, Bool.not_false, Bool.not_true]
  by_cases c5 : (f.bids.length : Int) > 8
  · have c5' : ¬ (f.bids.length : Int) ≤ 8 := by omega
    rw [show f.valid = false by rw [vd, decide_eq_false c5']; simp]
    simp (disch := first | assumption | omega | (simp only [az]; done)) only [ru, eq_self, if_true, if_false, BEq.rfl, binI, AO.row?, splice, fillL, mmAll, loadV, storeV, zeros, Am.rowAt, Am.part, addOff, Nat.reduceAdd, Nat.reduceMul, Nat.reduceLeDiff, Nat.reduceSub, Nat.reduceLT, Int.reduceEq, Int.reduceLT, Int.reduceLE, Int.reduceGT, Int.reduceGE, Int.reduceAdd, Int.reduceSub, Int.reduceMul, Int.reduceNeg, Int.reduceToNat, reduceCtorEq, reduceIte, H.fai, Int.toNat_natCast, a1, a2, t68, c3, c4, c5, gUn, decide_true, fE_f, Bool.not_false, Bool.not_true]
  have c5' : (f.bids.length : Int) ≤ 8 := by omega
  have hn := inR_iff.1 c4
  have bu := fun (n : Int) st => t27 H.toFsIn n ⟨by omega, by omega⟩ st
  simp only [frV] at bu
  have nbs := H.ho.nb
  rw [show f.valid = ((List.range f.bids.length).all fun i => bidOk f.n f.h.bs.length (bAt f.bids i)) by rw [vd, c1, c2, c3, c4, decide_eq_true c5']; simp]
  simp (disch := first | assumption | omega | (simp only [az]; done)) only [ru, eq_self, if_true, if_false, BEq.rfl, binI, AO.row?, splice, fillL, mmAll, loadV, storeV, zeros, Am.rowAt, Am.part, addOff, Nat.reduceAdd, Nat.reduceMul, Nat.reduceLeDiff, Nat.reduceSub, Nat.reduceLT, Int.reduceEq, Int.reduceLT, Int.reduceLE, Int.reduceGT, Int.reduceGE, Int.reduceAdd, Int.reduceSub, Int.reduceMul, Int.reduceNeg, Int.reduceToNat, reduceCtorEq, reduceIte, H.fai, Int.toNat_natCast, a1, a2, t68, c3, c4, c5, gUn, decide_false, Bool.not_true]
  refine G_loop_ind (fun m ts hh mk => ∃ i : Nat, i ≤ f.bids.length ∧ m = f.bids.length - i ∧ ((List.range i).all fun i => bidOk f.n f.h.bs.length (bAt f.bids i)) = true ∧ hh[0]? = some (.cells [k, I f.h.fl, p, b, pv, I f.d, I f.n, bv] false) ∧ ts.length = 73 ∧ ts.getD 1 .undef = .ptr 0 0 ∧ ts.getD 3 .undef = I i ∧ mk = []) ?_ f.bids.length _ _ _
    ⟨0, Nat.zero_le _, rfl, rfl, rfl, rfl, rfl, rfl, rfl⟩
  rintro m ts hh mk ih ⟨i, hi, rfl, hall, c0, hl', q1, q3, rfl⟩
  rw [lit_all hl']
  simp only [lit0, litS, Nat.reduceAdd, q1, q3]
  simp (disch := first | assumption | omega | (simp only [az]; done)) only [ru, eq_self, if_true, if_false, BEq.rfl, binI, AO.row?, splice, fillL, mmAll, loadV, storeV, zeros, Am.rowAt, Am.part, addOff, Nat.reduceAdd, Nat.reduceMul, Nat.reduceLeDiff, Nat.reduceSub, Nat.reduceLT, Int.reduceEq, Int.reduceLT, Int.reduceLE, Int.reduceGT, Int.reduceGE, Int.reduceAdd, Int.reduceSub, Int.reduceMul, Int.reduceNeg, Int.reduceToNat, reduceCtorEq, reduceIte, H.fai, Int.toNat_natCast, c0]
  by_cases hlt : (i : Int) < f.bids.length
  case neg =>
    obtain rfl : i = f.bids.length := by omega
    simp (disch := first | assumption | omega | (simp only [az]; done)) only [ru, eq_self, if_true, if_false, BEq.rfl, binI, AO.row?, splice, fillL, mmAll, loadV, storeV, zeros, Am.rowAt, Am.part, addOff, Nat.reduceAdd, Nat.reduceMul, Nat.reduceLeDiff, Nat.reduceSub, Nat.reduceLT, Int.reduceEq, Int.reduceLT, Int.reduceLE, Int.reduceGT, Int.reduceGE, Int.reduceAdd, Int.reduceSub, Int.reduceMul, Int.reduceNeg, Int.reduceToNat, reduceCtorEq, reduceIte, hlt]
    rw [hall]; rfl
  have hi' : i < f.bids.length := by omega
  have no := fun hp => range_not (N := f.bids.length) (p := fun i => bidOk f.n f.h.bs.length (bAt f.bids i)) hi' hp
  have nx := fun hp => range_all_succ (p := fun i => bidOk f.n f.h.bs.length (bAt f.bids i)) hall hp
  have eb := H.bi.el i (by omega) hlt
  obtain ⟨W, lW⟩ := bAt_w H (i := (i : Int)) (by omega) hlt
  have m0 : 0 < hh.length := (List.getElem?_eq_some_iff.1 c0).1
  rw [Int.toNat_natCast] at eb W
  obtain ⟨x, hx⟩ : ∃ x, x = bAt f.bids i := ⟨_, rfl⟩
  rw [← hx] at eb W lW
  have hok : bidOk f.n f.h.bs.length (bAt f.bids i) = (inR x.u 0 (f.n - 1) && inR x.c 0 99 && decide (0 < (x.bs.length : Int)) && risB x.bs 0 (f.h.bs.length - 1)) := by rw [← hx]; rfl
  have a4 := fun st => s54 W (by omega) 0 (f.h.bs.length - 1) st
  have cA : ∀ a, (hh ++ [a])[0]? = some (.cells [k, I f.h.fl, p, b, pv, I f.d, I f.n, bv] false) := fun a => by rw [at_ap m0]; exact c0
  cases e1 : inR x.u 0 (f.n - 1)
  · have ev := no (by rw [hok, e1]; rfl)
    simp (disch := first | assumption | omega | (simp only [az]; done)) only [ru, eq_self, if_true, if_false, BEq.rfl, binI, AO.row?, splice, fillL, mmAll, loadV, storeV, zeros, Am.rowAt, Am.part, addOff, Nat.reduceAdd, Nat.reduceMul, Nat.reduceLeDiff, Nat.reduceSub, Nat.reduceLT, Int.reduceEq, Int.reduceLT, Int.reduceLE, Int.reduceGT, Int.reduceGE, Int.reduceAdd, Int.reduceSub, Int.reduceMul, Int.reduceNeg, Int.reduceToNat, reduceCtorEq, reduceIte, H.fai, Int.toNat_natCast, lenV_sl W, view_sl W, scalar_sl W, cells_sl W, pure_sl W, c0, cA, hlt, eb, bu, e1, atE, setE, lenE, Nat.zero_le, gUn, Bool.not_false]
    rw [ev]; rfl
  by_cases e2 : (x.bs.length : Int) = 0
  · have e2' : ((x.bs.length : Int) == 0) = true := by rw [beq_iff_eq]; exact e2
    have ev := no (by rw [hok, decide_eq_false (show ¬ (0 : Int) < (x.bs.length : Int) by omega)]; simp)
    simp (disch := first | assumption | omega | (simp only [az]; done)) only [ru, eq_self, if_true, if_false, BEq.rfl, binI, AO.row?, splice, fillL, mmAll, loadV, storeV, zeros, Am.rowAt, Am.part, addOff, Nat.reduceAdd, Nat.reduceMul, Nat.reduceLeDiff, Nat.reduceSub, Nat.reduceLT, Int.reduceEq, Int.reduceLT, Int.reduceLE, Int.reduceGT, Int.reduceGE, Int.reduceAdd, Int.reduceSub, Int.reduceMul, Int.reduceNeg, Int.reduceToNat, reduceCtorEq, reduceIte, H.fai, Int.toNat_natCast, lenV_sl W, view_sl W, scalar_sl W, cells_sl W, pure_sl W, c0, cA, hlt, eb, bu, e1, e2', atE, setE, lenE, Nat.zero_le, gUn, Bool.not_true]
    rw [ev]; rfl
  have e2' : ((x.bs.length : Int) == 0) = false := by rw [beq_eq_false_iff_ne]; exact e2
  cases e3 : risB x.bs 0 (f.h.bs.length - 1)
  · have ev := no (by rw [hok, e3, Bool.and_false])
    rw [e3] at a4
    simp (disch := first | assumption | omega | (simp only [az]; done)) only [ru, eq_self, if_true, if_false, BEq.rfl, binI, AO.row?, splice, fillL, mmAll, loadV, storeV, zeros, Am.rowAt, Am.part, addOff, Nat.reduceAdd, Nat.reduceMul, Nat.reduceLeDiff, Nat.reduceSub, Nat.reduceLT, Int.reduceEq, Int.reduceLT, Int.reduceLE, Int.reduceGT, Int.reduceGE, Int.reduceAdd, Int.reduceSub, Int.reduceMul, Int.reduceNeg, Int.reduceToNat, reduceCtorEq, reduceIte, H.fai, Int.toNat_natCast, lenV_sl W, view_sl W, scalar_sl W, cells_sl W, pure_sl W, c0, cA, hlt, eb, bu, e1, e2', a4, atE, setE, lenE, Nat.zero_le, gUn, Bool.not_true, Bool.not_false]
    rw [ev]; rfl
  rw [e3] at a4
  cases e4 : inR x.c 0 99
  · have ev := no (by rw [hok, e4, Bool.and_false]; rfl)
    simp (disch := first | assumption | omega | (simp only [az]; done)) only [ru, eq_self, if_true, if_false, BEq.rfl, binI, AO.row?, splice, fillL, mmAll, loadV, storeV, zeros, Am.rowAt, Am.part, addOff, Nat.reduceAdd, Nat.reduceMul, Nat.reduceLeDiff, Nat.reduceSub, Nat.reduceLT, Int.reduceEq, Int.reduceLT, Int.reduceLE, Int.reduceGT, Int.reduceGE, Int.reduceAdd, Int.reduceSub, Int.reduceMul, Int.reduceNeg, Int.reduceToNat, reduceCtorEq, reduceIte, H.fai, Int.toNat_natCast, lenV_sl W, view_sl W, scalar_sl W, cells_sl W, pure_sl W, c0, cA, hlt, eb, bu, e1, e2', a4, t68, e4, atE, setE, lenE, Nat.zero_le, gUn, Bool.not_true, Bool.not_false]
    rw [ev]; rfl
  have e5 : bidOk f.n f.h.bs.length (bAt f.bids i) = true := by
    rw [hok, e1, e3, e4, decide_eq_true (show (0 : Int) < (x.bs.length : Int) by omega)]; rfl
  simp (disch := first | assumption | omega | (simp only [az]; done)) only [ru, eq_self, if_true, if_false, BEq.rfl, binI, AO.row?, splice, fillL, mmAll, loadV, storeV, zeros, Am.rowAt, Am.part, addOff, Nat.reduceAdd, Nat.reduceMul, Nat.reduceLeDiff, Nat.reduceSub, Nat.reduceLT, Int.reduceEq, Int.reduceLT, Int.reduceLE, Int.reduceGT, Int.reduceGE, Int.reduceAdd, Int.reduceSub, Int.reduceMul, Int.reduceNeg, Int.reduceToNat, reduceCtorEq, reduceIte, H.fai, Int.toNat_natCast, lenV_sl W, view_sl W, scalar_sl W, cells_sl W, pure_sl W, c0, cA, hlt, eb, bu, e1, e2', a4, t68, e4, atE, setE, lenE, Nat.zero_le, gUn, Bool.not_true, Bool.not_false]
  exact ih (f.bids.length - (i + 1)) _ _ _ (by omega) ⟨i + 1, by omega, rfl, nx e5, cA _, rfl, rfl, rfl, rfl⟩
set_option maxHeartbeats 1000000 in
theorem t37 (H : FsIn f k p b pv bv w) (st : Bool) : Iso E 37 [frV f k p b pv bv] st = some (Bo f.huge) := by
  have a1 := fun st => s15 H.h st
  simp only [hsV] at a1
  refine Iso_of (es _ _ _ _) e37 ?_
  simp only [f37, frV, Fs.huge]
  cases c1 : f.h.huge
  case true =>
    rw [c1] at a1
    simp (disch := first | assumption | omega | (simp only [az]; done)) only [ru, eq_self, if_true, if_false, BEq.rfl, binI, AO.row?, splice, fillL, mmAll, loadV, storeV, zeros, Am.rowAt, Am.part, addOff, Nat.reduceAdd, Nat.reduceMul, Nat.reduceLeDiff, Nat.reduceSub, Nat.reduceLT, Int.reduceEq, Int.reduceLT, Int.reduceLE, Int.reduceGT, Int.reduceGE, Int.reduceAdd, Int.reduceSub, Int.reduceMul, Int.reduceNeg, Int.reduceToNat, reduceCtorEq, reduceIte, H.fai, Int.toNat_natCast, a1, gUn, Bool.true_or]
  rw [c1] at a1
  by_cases c2 : (f.pk.length : Int) > 40
  · simp (disch := first | assumption | omega | (simp only [az]; done)) only [ru, eq_self, if_true, if_false, BEq.rfl, binI, AO.row?, splice, fillL, mmAll, loadV, storeV, zeros, Am.rowAt, Am.part, addOff, Nat.reduceAdd, Nat.reduceMul, Nat.reduceLeDiff, Nat.reduceSub, Nat.reduceLT, Int.reduceEq, Int.reduceLT, Int.reduceLE, Int.reduceGT, Int.reduceGE, Int.reduceAdd, Int.reduceSub, Int.reduceMul, Int.reduceNeg, Int.reduceToNat, reduceCtorEq, reduceIte, H.fai, Int.toNat_natCast, a1, c2, gUn, decide_true, Bool.true_or, Bool.or_true]
  by_cases c3 : (f.bids.length : Int) > 40
  · simp (disch := first | assumption | omega | (simp only [az]; done)) only [ru, eq_self, if_true, if_false, BEq.rfl, binI, AO.row?, splice, fillL, mmAll, loadV, storeV, zeros, Am.rowAt, Am.part, addOff, Nat.reduceAdd, Nat.reduceMul, Nat.reduceLeDiff, Nat.reduceSub, Nat.reduceLT, Int.reduceEq, Int.reduceLT, Int.reduceLE, Int.reduceGT, Int.reduceGE, Int.reduceAdd, Int.reduceSub, Int.reduceMul, Int.reduceNeg, Int.reduceToNat, reduceCtorEq, reduceIte, H.fai, Int.toNat_natCast, a1, c2, c3, gUn, decide_true, decide_false, Bool.true_or, Bool.or_true]
  simp (disch := first | assumption | omega | (simp only [az]; done)) only [ru, eq_self, if_true, if_false, BEq.rfl, binI, AO.row?, splice, fillL, mmAll, loadV, storeV, zeros, Am.rowAt, Am.part, addOff, Nat.reduceAdd, Nat.reduceMul, Nat.reduceLeDiff, Nat.reduceSub, Nat.reduceLT, Int.reduceEq, Int.reduceLT, Int.reduceLE, Int.reduceGT, Int.reduceGE, Int.reduceAdd, Int.reduceSub, Int.reduceMul, Int.reduceNeg, Int.reduceToNat, reduceCtorEq, reduceIte, H.fai, Int.toNat_natCast, a1, c2, c3, gUn, decide_false, Bool.false_or]
  refine G_loop_ind (fun m ts hh mk => ∃ i : Nat, i ≤ f.bids.length ∧ m = f.bids.length - i ∧ ((List.range i).all fun i => decide ((bAt f.bids i).bs.length ≤ 40)) = true ∧ hh = [.cells [k, I f.h.fl, p, b, pv, I f.d, I f.n, bv] false] ∧ ts.length = 34 ∧ ts.getD 1 .undef = .ptr 0 0 ∧ ts.getD 3 .undef = I i ∧ mk = []) ?_ f.bids.length _ _ _
    ⟨0, Nat.zero_le _, rfl, rfl, rfl, rfl, rfl, rfl, rfl⟩
  rintro m ts hh mk ih ⟨i, hi, rfl, hall, rfl, hl', q1, q3, rfl⟩
  rw [lit_all hl']
  simp only [lit0, litS, Nat.reduceAdd, q1, q3]
  simp (disch := first | assumption | omega | (simp only [az]; done)) only [ru, eq_self, if_true, if_false, BEq.rfl, binI, AO.row?, splice, fillL, mmAll, loadV, storeV, zeros, Am.rowAt, Am.part, addOff, Nat.reduceAdd, Nat.reduceMul, Nat.reduceLeDiff, Nat.reduceSub, Nat.reduceLT, Int.reduceEq, Int.reduceLT, Int.reduceLE, Int.reduceGT, Int.reduceGE, Int.reduceAdd, Int.reduceSub, Int.reduceMul, Int.reduceNeg, Int.reduceToNat, reduceCtorEq, reduceIte, H.fai, Int.toNat_natCast]
  by_cases hlt : (i : Int) < f.bids.length
  case neg =>
    obtain rfl : i = f.bids.length := by omega
    simp (disch := first | assumption | omega | (simp only [az]; done)) only [ru, eq_self, if_true, if_false, BEq.rfl, binI, AO.row?, splice, fillL, mmAll, loadV, storeV, zeros, Am.rowAt, Am.part, addOff, Nat.reduceAdd, Nat.reduceMul, Nat.reduceLeDiff, Nat.reduceSub, Nat.reduceLT, Int.reduceEq, Int.reduceLT, Int.reduceLE, Int.reduceGT, Int.reduceGE, Int.reduceAdd, Int.reduceSub, Int.reduceMul, Int.reduceNeg, Int.reduceToNat, reduceCtorEq, reduceIte, hlt]
    rw [hall]; rfl
  have hi' : i < f.bids.length := by omega
  have no := fun hp => range_not (N := f.bids.length) (p := fun i => decide ((bAt f.bids i).bs.length ≤ 40)) hi' hp
  have nx := fun hp => range_all_succ (p := fun i => decide ((bAt f.bids i).bs.length ≤ 40)) hall hp
  have eb := H.bi.el i (by omega) hlt
  have W := H.bi.iw i hi'
  rw [Int.toNat_natCast] at eb
  by_cases c4 : ((f.bids.getD i default).bs.length : Int) > 40
  · have ev := no (decide_eq_false (by simp only [bAt, Int.toNat_natCast]; omega))
    simp (disch := first | assumption | omega | (simp only [az]; done)) only [ru, eq_self, if_true, if_false, BEq.rfl, binI, AO.row?, splice, fillL, mmAll, loadV, storeV, zeros, Am.rowAt, Am.part, addOff, Nat.reduceAdd, Nat.reduceMul, Nat.reduceLeDiff, Nat.reduceSub, Nat.reduceLT, Int.reduceEq, Int.reduceLT, Int.reduceLE, Int.reduceGT, Int.reduceGE, Int.reduceAdd, Int.reduceSub, Int.reduceMul, Int.reduceNeg, Int.reduceToNat, reduceCtorEq, reduceIte, H.fai, Int.toNat_natCast, lenV_sl W, view_sl W, scalar_sl W, cells_sl W, pure_sl W, hlt, eb, c4, decide_true]
    rw [ev]; rfl
  · simp (disch := first | assumption | omega | (simp only [az]; done)) only [ru, eq_self, if_true, if_false, BEq.rfl, binI, AO.row?, splice, fillL, mmAll, loadV, storeV, zeros, Am.rowAt, Am.part, addOff, Nat.reduceAdd, Nat.reduceMul, Nat.reduceLeDiff, Nat.reduceSub, Nat.reduceLT, Int.reduceEq, Int.reduceLT, Int.reduceLE, Int.reduceGT, Int.reduceGE, Int.reduceAdd, Int.reduceSub, Int.reduceMul, Int.reduceNeg, Int.reduceToNat, reduceCtorEq, reduceIte, H.fai, Int.toNat_natCast, lenV_sl W, view_sl W, scalar_sl W, cells_sl W, pure_sl W, hlt, eb, c4, decide_false]
    exact ih (f.bids.length - (i + 1)) _ _ _ (by omega) ⟨i + 1, by omega, rfl, nx (decide_eq_true (by simp only [bAt, Int.toNat_natCast]; omega)), rfl, rfl, rfl, rfl, rfl⟩
theorem hugeF_ok (H : FsIn f k p b pv bv w) (hh : f.huge = false) : FsOk f k p b pv bv w := by
  simp only [Fs.huge, Bool.or_eq_false_iff, decide_eq_false_iff_not, Bool.not_eq_false', List.all_eq_true, List.mem_range, decide_eq_true_eq] at hh
  exact ⟨H, huge_ok H.h hh.1.1.1, by omega, by omega, fun i hi => by have := hh.2 i hi; simp only [bAt, Int.toNat_natCast] at this; omega⟩
theorem t13 (H : FsIn f k p b pv bv w) (st : Bool) : Iso E 13 [frV f k p b pv bv] st = some (Bo f.rdy) := by
  have a1 := fun st => t37 H st
  simp only [frV] at a1
  refine Iso_of (es _ _ _ _) e13 ?_
  simp only [f13, frV, Fs.rdy]
  cases c1 : f.huge
  case true =>
    rw [c1] at a1
    simp (disch := first | assumption | omega | (simp only [az]; done)) only [ru, eq_self, if_true, if_false, BEq.rfl, binI, AO.row?, splice, fillL, mmAll, loadV, storeV, zeros, Am.rowAt, Am.part, addOff, Nat.reduceAdd, Nat.reduceMul, Nat.reduceLeDiff, Nat.reduceSub, Nat.reduceLT, Int.reduceEq, Int.reduceLT, Int.reduceLE, Int.reduceGT, Int.reduceGE, Int.reduceAdd, Int.reduceSub, Int.reduceMul, Int.reduceNeg, Int.reduceToNat, reduceCtorEq, reduceIte, H.fai, Int.toNat_natCast, a1, gUn, Bool.not_true, Bool.false_and]
  rw [c1] at a1
  have a2 := fun st => t39 (hugeF_ok H c1) st
  simp only [frV] at a2
  cases c2 : f.valid
  · simp only [c2, fE, Bool.false_eq_true, if_false] at a2
    simp (disch := first | assumption | omega | (simp only [az]; done)) only [ru, eq_self, if_true, if_false, BEq.rfl, binI, AO.row?, splice, fillL, mmAll, loadV, storeV, zeros, Am.rowAt, Am.part, addOff, Nat.reduceAdd, Nat.reduceMul, Nat.reduceLeDiff, Nat.reduceSub, Nat.reduceLT, Int.reduceEq, Int.reduceLT, Int.reduceLE, Int.reduceGT, Int.reduceGE, Int.reduceAdd, Int.reduceSub, Int.reduceMul, Int.reduceNeg, Int.reduceToNat, reduceCtorEq, reduceIte, H.fai, Int.toNat_natCast, a1, a2, gUn, Bool.not_false, Bool.true_and]
  · simp only [c2, fE, if_true] at a2
    simp (disch := first | assumption | omega | (simp only [az]; done)) only [ru, eq_self, if_true, if_false, BEq.rfl, binI, AO.row?, splice, fillL, mmAll, loadV, storeV, zeros, Am.rowAt, Am.part, addOff, Nat.reduceAdd, Nat.reduceMul, Nat.reduceLeDiff, Nat.reduceSub, Nat.reduceLT, Int.reduceEq, Int.reduceLT, Int.reduceLE, Int.reduceGT, Int.reduceGE, Int.reduceAdd, Int.reduceSub, Int.reduceMul, Int.reduceNeg, Int.reduceToNat, reduceCtorEq, reduceIte, H.fai, Int.toNat_natCast, a1, a2, gUn, Bool.not_false, Bool.true_and]
theorem rdy_ok (H : FsIn f k p b pv bv w) (hh : f.rdy = true) : FsOk f k p b pv bv w ∧ FG f ∧ f.valid = true := by
  simp only [Fs.rdy, Bool.and_eq_true, Bool.not_eq_true'] at hh
  exact ⟨hugeF_ok H hh.1, fvalid_iff hh.2, hh.2⟩
theorem tops_bd (G : FG f) {r : Int → Bool} : 0 ≤ tops f.bids r ∧ tops f.bids r ≤ 396 := by
  have h1 := bsT_bd G.bg (r := r) (pm := fun _ => true)
  have h2 := (bsT_spec (L := f.bids) (p := fun _ => true) (allS r f.bids) fun s hs => (sale_bd G.bg (mem_allS.1 hs)).1).1 [] nil_mem rfl
  simp only [prc, List.map_nil, sm] at h2
  exact ⟨h2, h1.2⟩
theorem t16 (H : FsOk f k p b pv bv w) (hv : f.valid = true) (st : Bool) : Iso E 16 [frV f k p b pv bv] st = some (I (tops f.bids f.r)) := by
  have a := fun st => t44 H st
  have bd := tops_bd (fvalid_iff hv) (r := f.r)
  simp only [frV, hv, fE, if_true] at a
  obtain ⟨T, hT⟩ : ∃ T, T = tops f.bids f.r := ⟨_, rfl⟩
  rw [← hT] at a bd ⊢
  have c1 : ¬ T < 0 := by omega
  have c2 : ¬ T ≥ 1000 := by omega
  refine Iso_of (es _ _ _ _) e16 ?_
  simp only [f16]
  simp (disch := first | assumption | omega | (simp only [az]; done)) only [ru, eq_self, if_true, if_false, BEq.rfl, binI, AO.row?, splice, fillL, mmAll, loadV, storeV, zeros, Am.rowAt, Am.part, addOff, Nat.reduceAdd, Nat.reduceMul, Nat.reduceLeDiff, Nat.reduceSub, Nat.reduceLT, Int.reduceEq, Int.reduceLT, Int.reduceLE, Int.reduceGT, Int.reduceGE, Int.reduceAdd, Int.reduceSub, Int.reduceMul, Int.reduceNeg, Int.reduceToNat, reduceCtorEq, reduceIte, H.fai, Int.toNat_natCast, a, c1, c2, gUn, decide_false]
end
end Go.Proofs.YtfagcnokdnanpaaGreat.S
