/-
Functions of both sides of stage 8, one after another (A1).
-/
import Derived.Test.YtaffjmjahenoaaaTab

/-
Numbers, lists, the first of the best: what the stages share.
-/
namespace Go.Proofs.Ytaffjmjahenoaaa.A
set_option linter.unusedVariables false
set_option linter.unusedSimpArgs false

def mx (x y : Int) : Int := if y > x then y else x
theorem le_mx1 {x y : Int} : x ≤ mx x y := by unfold mx; split <;> omega
theorem le_mx2 {x y : Int} : y ≤ mx x y := by unfold mx; split <;> omega
theorem mx_le {x y z : Int} (h1 : x ≤ z) (h2 : y ≤ z) : mx x y ≤ z := by unfold mx; split <;> omega
def inR (n lo hi : Int) : Bool := decide (lo ≤ n) && decide (n ≤ hi)
theorem inR_iff {n lo hi : Int} : inR n lo hi = true ↔ lo ≤ n ∧ n ≤ hi := by simp [inR]
def sm : List Int → Int
  | [] => 0
  | a :: l => a + sm l
theorem sm_app : ∀ {a b : List Int}, sm (a ++ b) = sm a + sm b
  | [], b => by simp [sm]
  | x :: a, b => by simp [sm, sm_app (a := a)]; omega
theorem mem_getD {α : Type} {d : α} {l : List α} {x : α} (h : x ∈ l) : ∃ i, i < l.length ∧ l.getD i d = x := by
  obtain ⟨i, hi, e⟩ := List.mem_iff_getElem.1 h
  exact ⟨i, hi, by rw [List.getD_eq_getElem?_getD, List.getElem?_eq_getElem hi]; exact e⟩
def bstS (f : List Int → Bool) (cost : List Int → Int) (b : Option (List Int)) (c : List Int) : Option (List Int) :=
  if f c then (match b with | none => some c | some x => if cost c < cost x then some c else b) else b
def bst (f : List Int → Bool) (cost : List Int → Int) (l : List (List Int)) : Option (List Int) := l.foldl (bstS f cost) none
theorem bst_snoc {f : List Int → Bool} {cost : List Int → Int} {l : List (List Int)} {c : List Int} : bst f cost (l ++ [c]) = bstS f cost (bst f cost l) c := by
  simp [bst, List.foldl_append]
theorem snocRec {α : Type} (P : List α → Prop) (l : List α) (nil : P []) (snoc : ∀ l c, P l → P (l ++ [c])) : P l := by
  rw [← List.reverse_reverse l]
  induction l.reverse with
  | nil => exact nil
  | cons c l ih => rw [List.reverse_cons]; exact snoc _ _ ih
end Go.Proofs.Ytaffjmjahenoaaa.A

/-
Houses of barrels: what is in a barrel, lists made number by number, packings.
-/
namespace Go.Proofs.Ytaffjmjahenoaaa.A
set_option linter.unusedVariables false
set_option linter.unusedSimpArgs false

/-- a kind: its salt, its days -/
structure Kd where
  s : Int
  d : Int
  deriving Inhabited, DecidableEq
/-- a part: its kind, its pounds -/
structure Pr where
  k : Int
  p : Int
  deriving Inhabited, DecidableEq
structure Hs where
  ks : List Kd
  fl : Int
  ps : List Pr
  bs : List Int

/-! the greatest of some numbers, and 0 -/
def mxs (l : List Int) : Int := l.foldl mx 0
theorem mxs_snoc {l : List Int} {c : Int} : mxs (l ++ [c]) = mx (mxs l) c := by simp [mxs, List.foldl_append]
theorem mxs_ge {l : List Int} : 0 ≤ mxs l ∧ ∀ c ∈ l, c ≤ mxs l := by
  refine snocRec (fun l => 0 ≤ mxs l ∧ ∀ c ∈ l, c ≤ mxs l) l (by simp [mxs]) ?_
  intro l c ih
  rw [mxs_snoc]
  refine ⟨Int.le_trans ih.1 le_mx1, fun x hx => ?_⟩
  rcases List.mem_append.1 hx with hx | hx
  · exact Int.le_trans (ih.2 x hx) le_mx1
  · rw [List.mem_singleton] at hx; subst hx; exact le_mx2
theorem mxs_le {l : List Int} {x : Int} (h0 : 0 ≤ x) (h : ∀ c ∈ l, c ≤ x) : mxs l ≤ x := by
  revert h
  refine snocRec (fun l => (∀ c ∈ l, c ≤ x) → mxs l ≤ x) l (fun _ => h0) ?_
  intro l c ih h
  rw [mxs_snoc]
  exact mx_le (ih fun y hy => h y (by simp [hy])) (h c (by simp))
theorem mxs_sub {l m : List Int} (h : ∀ c ∈ l, c ∈ m) : mxs l ≤ mxs m := mxs_le mxs_ge.1 fun c hc => mxs_ge.2 c (h c hc)

theorem sm_map_le {α : Type} {f g : α → Int} : ∀ {l : List α}, (∀ x ∈ l, f x ≤ g x) → sm (l.map f) ≤ sm (l.map g)
  | [], _ => by simp [sm]
  | a :: l, h => by
    simp only [List.map_cons, sm]
    have := h a (by simp)
    have := sm_map_le (f := f) (g := g) (l := l) fun x hx => h x (by simp [hx])
    omega
theorem sm_nonneg {l : List Int} (h : ∀ x ∈ l, 0 ≤ x) : 0 ≤ sm l := by
  induction l with
  | nil => simp [sm]
  | cons a l ih => simp only [sm]; have := h a (by simp); have := ih fun x hx => h x (by simp [hx]); omega
theorem sm_sub {l m : List Int} (h : l.Sublist m) (h0 : ∀ x ∈ m, 0 ≤ x) : sm l ≤ sm m := by
  induction h with
  | slnil => exact Int.le_refl _
  | cons a h ih => simp only [sm]; have := h0 a (by simp); have := ih fun x hx => h0 x (by simp [hx]); omega
  | cons_cons a h ih => simp only [sm]; have := ih fun x hx => h0 x (by simp [hx]); omega

/-! what is in a barrel: by its parts -/
def lbP (l : List Pr) : Int := sm (l.map Pr.p)
def kdP (ks : List Kd) (q : Pr) : Kd := ks.getD q.k.toNat default
def stP (ks : List Kd) (l : List Pr) : Int := mxs (l.map fun q => (kdP ks q).s)
def dyP (ks : List Kd) (l : List Pr) : Int := mxs (l.map fun q => (kdP ks q).d)
def slP (ks : List Kd) (fl : Int) (l : List Pr) : Int := if l.length = 0 then 0 else fl + (lbP l * stP ks l + 9) / 10
def ndP (ks : List Kd) (fl : Int) (l : List Pr) : Int := lbP l + slP ks fl l

/-- kinds and a floor that can be -/
structure KG (ks : List Kd) (fl : Int) : Prop where
  k : ∀ i, i < ks.length → 0 ≤ (ks.getD i default).s ∧ (ks.getD i default).s ≤ 9 ∧ 0 ≤ (ks.getD i default).d ∧ (ks.getD i default).d ≤ 20
  f : 0 ≤ fl ∧ fl ≤ 9
theorem KG.kd {ks : List Kd} {fl : Int} (K : KG ks fl) (q : Pr) : 0 ≤ (kdP ks q).s ∧ (kdP ks q).s ≤ 9 ∧ 0 ≤ (kdP ks q).d ∧ (kdP ks q).d ≤ 20 := by
  unfold kdP
  by_cases h : q.k.toNat < ks.length
  · exact K.k _ h
  · rw [List.getD_eq_getElem?_getD, List.getElem?_eq_none (by omega)]
    show (0 : Int) ≤ 0 ∧ (0 : Int) ≤ 9 ∧ (0 : Int) ≤ 0 ∧ (0 : Int) ≤ 20
    omega
theorem st_bd {ks : List Kd} {fl : Int} (K : KG ks fl) (l : List Pr) : 0 ≤ stP ks l ∧ stP ks l ≤ 9 :=
  ⟨mxs_ge.1, mxs_le (by omega) fun c hc => by obtain ⟨q, _, rfl⟩ := List.mem_map.1 hc; exact (K.kd q).2.1⟩
def PG (l : List Pr) : Prop := ∀ q ∈ l, 0 ≤ q.p ∧ q.p ≤ 40
theorem lb_bd : ∀ {l : List Pr}, PG l → 0 ≤ lbP l ∧ lbP l ≤ 40 * l.length
  | [], _ => by simp [lbP, sm]
  | a :: l, h => by
    have h1 := h a (by simp)
    have h2 := lb_bd (l := l) fun q hq => h q (by simp [hq])
    simp only [lbP, List.map_cons, sm, List.length_cons] at h2 ⊢
    omega
theorem PG.sub {l m : List Pr} (h : PG m) (hs : ∀ q ∈ l, q ∈ m) : PG l := fun q hq => h q (hs q hq)
theorem sl_bd {ks : List Kd} {fl : Int} (K : KG ks fl) {l : List Pr} (h : PG l) : 0 ≤ slP ks fl l ∧ slP ks fl l ≤ 9 + 37 * l.length := by
  have h1 := st_bd K l
  have h2 := lb_bd h
  have h3 := K.f
  unfold slP
  split
  · omega
  · have h4 : lbP l * stP ks l ≤ (40 * l.length) * 9 := Int.mul_le_mul h2.2 h1.2 h1.1 (by omega)
    have h5 : 0 ≤ lbP l * stP ks l := Int.mul_nonneg h2.1 h1.1
    omega
theorem lb_sub {l m : List Pr} (h : l.Sublist m) (hm : PG m) : lbP l ≤ lbP m := sm_sub (h.map _) fun x hx => by
  obtain ⟨q, hq, rfl⟩ := List.mem_map.1 hx; exact (hm q hq).1
theorem st_sub {ks : List Kd} {l m : List Pr} (h : l.Sublist m) : stP ks l ≤ stP ks m := mxs_sub fun c hc => (h.map _).subset hc
theorem sl_sub {ks : List Kd} {fl : Int} (K : KG ks fl) {l m : List Pr} (h : l.Sublist m) (hm : PG m) : slP ks fl l ≤ slP ks fl m := by
  have h1 := st_bd K l
  have h2 := lb_bd (hm.sub h.subset)
  have h3 := lb_sub h hm
  have h4 := st_sub (ks := ks) h
  have h0 := (sl_bd K hm).1
  have hl := h.length_le
  unfold slP at h0 ⊢
  split
  · exact h0
  · rw [if_neg (by omega)]
    have : lbP l * stP ks l ≤ lbP m * stP ks m := Int.mul_le_mul h3 h4 h1.1 (by omega)
    omega
theorem nd_sub {ks : List Kd} {fl : Int} (K : KG ks fl) {l m : List Pr} (h : l.Sublist m) (hm : PG m) : ndP ks fl l ≤ ndP ks fl m := by
  have := lb_sub h hm; have := sl_sub K h hm; unfold ndP; omega

/-! numbers of parts that are in a barrel -/
/-- parts that are in a barrel -/
def prs (ps : List Pr) (x : List Int) (b : Int) : List Pr := ((ps.zip x).filter fun q => decide (q.2 = b)).map (·.1)
theorem prs_snoc {ps : List Pr} {x : List Int} {c b : Int} (h : x.length < ps.length) : prs ps (x ++ [c]) b = prs ps x b ++ (if c = b then [ps.getD x.length default] else []) := by
  have e : ps.zip (x ++ [c]) = ps.zip x ++ [(ps.getD x.length default, c)] := by
    have e1 : ps = ps.take x.length ++ ps.getD x.length default :: ps.drop (x.length + 1) := by
      rw [List.getD_eq_getElem?_getD, List.getElem?_eq_getElem h, Option.getD_some, ← List.drop_eq_getElem_cons h, List.take_append_drop]
    have e2 : (ps.take x.length).length = x.length := by rw [List.length_take]; omega
    generalize ps.getD x.length default = q at e1 ⊢
    generalize ps.drop (x.length + 1) = r at e1
    rw [e1]
    generalize ps.take x.length = a at e2
    rw [List.zip_append e2]
    have : a.zip x = (a ++ q :: r).zip x := by
      rw [show (a ++ q :: r).zip x = (a ++ q :: r).zip (x ++ []) by rw [List.append_nil], List.zip_append e2]; simp
    rw [← this]; simp
  unfold prs
  rw [e, List.filter_append, List.map_append]
  congr 1
  by_cases e : c = b <;> simp [e]
theorem prs_mem {ps : List Pr} {x : List Int} {b : Int} : ∀ q ∈ prs ps x b, q ∈ ps := by
  intro q hq
  simp only [prs, List.mem_map, List.mem_filter] at hq
  obtain ⟨y, ⟨h1, _⟩, rfl⟩ := hq
  exact (List.of_mem_zip h1).1
theorem prs_len {ps : List Pr} {x : List Int} {b : Int} : (prs ps x b).length ≤ ps.length := by
  unfold prs
  rw [List.length_map]
  exact Nat.le_trans (List.length_filter_le _ _) (by rw [List.length_zip]; omega)
theorem prs_none {ps : List Pr} {x : List Int} {b : Int} (h : b ∉ x) : prs ps x b = [] := by
  rw [List.eq_nil_iff_forall_not_mem]
  intro q hq
  simp only [prs, List.mem_map, List.mem_filter, decide_eq_true_eq] at hq
  obtain ⟨y, ⟨h1, h2⟩, rfl⟩ := hq
  exact h (h2 ▸ (List.of_mem_zip h1).2)

/-! lists that are made number by number -/
def ens (ok : List Int → Bool) (cs : List Int) : Nat → List Int → List (List Int)
  | 0, l => if ok l then [l] else []
  | n + 1, l => if ok l then cs.flatMap fun c => ens ok cs n (l ++ [c]) else []
theorem mem_ens {ok : List Int → Bool} {cs : List Int} : ∀ {n : Nat} {l x : List Int}, x ∈ ens ok cs n l ↔ ∃ y, x = l ++ y ∧ y.length = n ∧ (∀ c ∈ y, c ∈ cs) ∧ ∀ k, k ≤ n → ok (l ++ y.take k) = true
  | 0, l, x => by
    simp only [ens]
    constructor
    · intro h
      split at h
      · rename_i ho
        rw [List.mem_singleton] at h; subst h
        exact ⟨[], by simp, rfl, by simp, fun k _ => by simpa using ho⟩
      · cases h
    · rintro ⟨y, rfl, hy, _, ho⟩
      have : y = [] := List.eq_nil_of_length_eq_zero hy
      subst this
      have := ho 0 (Nat.le_refl _)
      simp at this
      simp [this]
  | n + 1, l, x => by
    simp only [ens]
    constructor
    · intro h
      split at h
      · rename_i ho
        rw [List.mem_flatMap] at h
        obtain ⟨c, hc, hx⟩ := h
        obtain ⟨y, rfl, hy, hm, hk⟩ := mem_ens.1 hx
        refine ⟨c :: y, by simp, by simp [hy], fun d hd => ?_, fun k hkn => ?_⟩
        · rcases List.mem_cons.1 hd with rfl | hd
          · exact hc
          · exact hm d hd
        · cases k with
          | zero => simpa using ho
          | succ k => simpa using hk k (by omega)
      · cases h
    · rintro ⟨y, rfl, hy, hm, hk⟩
      cases y with
      | nil => simp at hy
      | cons c y =>
        have ho := hk 0 (by omega)
        rw [if_pos (by simpa using ho), List.mem_flatMap]
        refine ⟨c, hm c (by simp), mem_ens.2 ⟨y, by simp, by simpa using hy, fun d hd => hm d (by simp [hd]), fun k hkn => ?_⟩⟩
        simpa using hk (k + 1) (by omega)

/-- numbers from a least one on -/
def upto (n : Nat) : List Int := (List.range n).map fun (i : Nat) => (i : Int)
theorem upto_mem {n : Nat} {c : Int} : c ∈ upto n ↔ 0 ≤ c ∧ c < n := by
  simp only [upto, List.mem_map, List.mem_range]
  exact ⟨fun ⟨i, h, e⟩ => by omega, fun ⟨h0, h1⟩ => ⟨c.toNat, by omega, by omega⟩⟩

/-- no barrel is over -/
def Hs.ft (h : Hs) (x : List Int) : Bool := (List.range h.bs.length).all fun b => decide (ndP h.ks h.fl (prs h.ps x b) ≤ h.bs.getD b 0)
theorem Hs.ft_iff {h : Hs} {x : List Int} : h.ft x = true ↔ ∀ b : Nat, b < h.bs.length → ndP h.ks h.fl (prs h.ps x b) ≤ h.bs.getD b 0 := by
  simp [Hs.ft]
/-- a house that is valid -/
structure HG (h : Hs) : Prop where
  nk : h.ks.length ≤ 3
  np : h.ps.length ≤ 6
  nb : h.bs.length ≤ 4
  g : KG h.ks h.fl
  q : ∀ i, i < h.ps.length → (0 ≤ (h.ps.getD i default).k ∧ (h.ps.getD i default).k < h.ks.length) ∧ 0 ≤ (h.ps.getD i default).p ∧ (h.ps.getD i default).p ≤ 40
  b : ∀ i, i < h.bs.length → 0 ≤ h.bs.getD i 0 ∧ h.bs.getD i 0 ≤ 99
theorem HG.pg {h : Hs} (H : HG h) : PG h.ps := fun q hq => by
  obtain ⟨i, hi, rfl⟩ := mem_getD (d := default) hq
  exact (H.q i hi).2
theorem HG.pp {h : Hs} (H : HG h) (x : List Int) (b : Int) : PG (prs h.ps x b) := H.pg.sub prs_mem
theorem zip_tk : ∀ (ps : List Pr) (x : List Int) (k : Nat), ps.zip (x.take k) = (ps.zip x).take k
  | [], x, k => by simp
  | p :: ps, [], k => by simp
  | p :: ps, a :: x, 0 => by simp
  | p :: ps, a :: x, k + 1 => by simp [zip_tk ps x k]
theorem zip_take {ps : List Pr} {x : List Int} {k : Nat} : (ps.zip (x.take k)).Sublist (ps.zip x) := by
  rw [zip_tk]; exact List.take_sublist _ _
theorem prs_take {ps : List Pr} {x : List Int} {k : Nat} {b : Int} : (prs ps (x.take k) b).Sublist (prs ps x b) := (zip_take.filter _).map _
theorem HG.ft_take {h : Hs} (H : HG h) {x : List Int} {k : Nat} (hx : h.ft x = true) : h.ft (x.take k) = true :=
  Hs.ft_iff.2 fun b hb => Int.le_trans (nd_sub H.g prs_take (H.pp x b)) (Hs.ft_iff.1 hx b hb)

/-- all packings; all lists in which parts may be left out -/
def Hs.pk (h : Hs) : List (List Int) := ens h.ft (upto h.bs.length) h.ps.length []
structure Pkg (h : Hs) (x : List Int) : Prop where
  l : x.length = h.ps.length
  c : ∀ c ∈ x, 0 ≤ c ∧ c < h.bs.length
  f : h.ft x = true
theorem HG.mem_ens {h : Hs} (H : HG h) {cs x : List Int} : x ∈ ens h.ft cs h.ps.length [] ↔ x.length = h.ps.length ∧ (∀ c ∈ x, c ∈ cs) ∧ h.ft x = true := by
  rw [A.mem_ens]
  constructor
  · rintro ⟨y, e, hy, hm, hk⟩
    rw [List.nil_append] at e
    subst e
    have := hk x.length (by omega)
    rw [List.nil_append, List.take_length] at this
    exact ⟨hy, hm, this⟩
  · rintro ⟨h1, h2, h3⟩
    exact ⟨x, by simp, h1, h2, fun k _ => by simpa using H.ft_take h3⟩
theorem HG.mem_pk {h : Hs} (H : HG h) {x : List Int} : x ∈ h.pk ↔ Pkg h x := by
  unfold Hs.pk
  rw [H.mem_ens]
  exact ⟨fun ⟨a, b, c⟩ => ⟨a, fun y hy => upto_mem.1 (b y hy), c⟩, fun P => ⟨P.l, fun y hy => upto_mem.2 (P.c y hy), P.f⟩⟩
/-- a list in which parts may be left out -/
structure Pko (h : Hs) (x : List Int) : Prop where
  l : x.length = h.ps.length
  c : ∀ c ∈ x, -1 ≤ c ∧ c < h.bs.length
  f : h.ft x = true
theorem Pkg.o {h : Hs} {x : List Int} (P : Pkg h x) : Pko h x := ⟨P.l, fun c hc => by have := P.c c hc; omega, P.f⟩

/-! what a list comes to -/
def sums (n : Nat) (f : Nat → Int) : Int := sm ((List.range n).map f)
theorem sums_succ {n : Nat} {f : Nat → Int} : sums (n + 1) f = sums n f + f n := by
  simp [sums, List.range_succ, sm_app, sm]
theorem sums_le {n : Nat} {f g : Nat → Int} (h : ∀ b, b < n → f b ≤ g b) : sums n f ≤ sums n g := sm_map_le fun b hb => h b (List.mem_range.1 hb)
theorem sums_congr {n : Nat} {f g : Nat → Int} (h : ∀ b, b < n → f b = g b) : sums n f = sums n g := by
  unfold sums; rw [List.map_congr_left fun b hb => h b (List.mem_range.1 hb)]
theorem sums_nonneg {n : Nat} {f : Nat → Int} (h : ∀ b, b < n → 0 ≤ f b) : 0 ≤ sums n f := sm_nonneg fun x hx => by
  obtain ⟨b, hb, rfl⟩ := List.mem_map.1 hx; exact h b (List.mem_range.1 hb)
theorem sums_zero {n m : Nat} {f : Nat → Int} (hm : n ≤ m) (h : ∀ b, n ≤ b → b < m → f b = 0) : sums m f = sums n f := by
  induction m with
  | zero => obtain rfl : n = 0 := by omega
            rfl
  | succ m ih =>
    by_cases e : n = m + 1
    · rw [e]
    · rw [sums_succ, h m (by omega) (by omega), Int.add_zero]
      exact ih (by omega) fun b h1 h2 => h b h1 (by omega)
def Hs.sa (h : Hs) (x : List Int) : Int := sums h.bs.length fun b => slP h.ks h.fl (prs h.ps x b)
def Hs.us (h : Hs) (x : List Int) : Int := sums h.bs.length fun b => if (prs h.ps x b).length = 0 then 0 else 1
def Hs.all (h : Hs) : Int := lbP h.ps
theorem sa_bd {h : Hs} (H : HG h) (x : List Int) : 0 ≤ h.sa x ∧ h.sa x ≤ 1000 := by
  have key : ∀ b : Nat, 0 ≤ slP h.ks h.fl (prs h.ps x b) ∧ slP h.ks h.fl (prs h.ps x b) ≤ 231 := fun b => by
    have := sl_bd H.g (H.pp x b)
    have := prs_len (ps := h.ps) (x := x) (b := b)
    have := H.np
    omega
  refine ⟨sums_nonneg fun b _ => (key b).1, Int.le_trans (sums_le (g := fun _ => 231) fun b _ => (key b).2) ?_⟩
  have : ∀ n : Nat, sums n (fun _ => 231) = 231 * n := by
    intro n
    induction n with
    | zero => rfl
    | succ n ih => rw [sums_succ, ih]; push_cast; omega
  rw [this]
  have := H.nb
  omega
theorem us_bd {h : Hs} (x : List Int) : 0 ≤ h.us x ∧ h.us x ≤ h.bs.length := by
  refine ⟨sums_nonneg fun b _ => by split <;> omega, Int.le_trans (sums_le (g := fun _ => 1) fun b _ => by split <;> omega) ?_⟩
  have : ∀ n : Nat, sums n (fun _ => 1) = n := by
    intro n
    induction n with
    | zero => rfl
    | succ n ih => rw [sums_succ, ih]; push_cast; omega
  rw [this]; omega
end Go.Proofs.Ytaffjmjahenoaaa.A

/-
Lists in heaps, copies, appends: what the functions of lifts needed and those of mesh need, too.
-/
namespace Go.Proofs.Ytaffjmjahenoaaa.A
open Go Go.Am Go.Proofs.Ytaffjmjahenoaaa.T
set_option maxRecDepth 100000
set_option linter.unusedSimpArgs false
set_option linter.unusedVariables false

abbrev intL (n : Int) : List AV := [I n]
theorem intE (n : Int) : (intL n).length = 1 := rfl
theorem intSc (n : Int) : (intL n).all AV.scalar = true := rfl
def slV {α : Type} (esz : Nat) (enc : α → List AV) (l : List α) : AV := .cs esz l.length (l.flatMap enc)
theorem slV_is {α : Type} {esz : Nat} {enc : α → List AV} {l : List α} : IsSl esz enc l (slV esz enc l) := .inl rfl
theorem elem_in {l : List Int} {v : AV} (h : IsSl 1 intL l v) : ∀ i : Int, 0 ≤ i → i < l.length → elemAt 1 v (I i) = some (.cptr [I (l.getD i.toNat 0)]) := elem_sl intE h
theorem gUn {X : Cx} {base : Nat} {k : List KF} {ts : List AV} {h : List AO} {mk : List Nat} {r : List AOper} {d : Option Nat} {w : Bool} {op : AOp} {sl : Option Nat} {m : List Nat} {x : Option (Nat × Bool)} : GG X base .undef w ⟨d, op, x, sl, m⟩ r k ts h mk = GO X base r k (putT ts d .undef) h mk := id rfl
theorem s57 (n lo hi : Int) (st : Bool) : Iso E 29 [I n, I lo, I hi] st = some (Bo (inR n lo hi)) := by
  refine Iso_of (es _ _ _ _) e29 ?_
  simp only [f29, inR]
  simp (disch := first | assumption | omega | (simp only [az]; done)) only [ru, eq_self, if_true, if_false, BEq.rfl, binI, AO.row?, splice, fillL, mmAll, loadV, storeV, zeros, Am.rowAt, Am.part, addOff, Nat.reduceAdd, Nat.reduceMul, Nat.reduceLeDiff, Nat.reduceSub, Nat.reduceLT, Int.reduceEq, Int.reduceLT, Int.reduceLE, Int.reduceGT, Int.reduceGE, Int.reduceAdd, Int.reduceSub, Int.reduceMul, Int.reduceNeg, Int.reduceToNat, reduceCtorEq, reduceIte]
  by_cases h1 : lo ≤ n
  · simp (disch := first | assumption | omega | (simp only [az]; done)) only [ru, eq_self, if_true, if_false, BEq.rfl, binI, AO.row?, splice, fillL, mmAll, loadV, storeV, zeros, Am.rowAt, Am.part, addOff, Nat.reduceAdd, Nat.reduceMul, Nat.reduceLeDiff, Nat.reduceSub, Nat.reduceLT, Int.reduceEq, Int.reduceLT, Int.reduceLE, Int.reduceGT, Int.reduceGE, Int.reduceAdd, Int.reduceSub, Int.reduceMul, Int.reduceNeg, Int.reduceToNat, reduceCtorEq, reduceIte, h1]
  · simp (disch := first | assumption | omega | (simp only [az]; done)) only [ru, eq_self, if_true, if_false, BEq.rfl, binI, AO.row?, splice, fillL, mmAll, loadV, storeV, zeros, Am.rowAt, Am.part, addOff, Nat.reduceAdd, Nat.reduceMul, Nat.reduceLeDiff, Nat.reduceSub, Nat.reduceLT, Int.reduceEq, Int.reduceLT, Int.reduceLE, Int.reduceGT, Int.reduceGE, Int.reduceAdd, Int.reduceSub, Int.reduceMul, Int.reduceNeg, Int.reduceToNat, reduceCtorEq, reduceIte, h1]
theorem all_upto_succ {α : Type} [Inhabited α] {l : List α} {p : α → Bool} {i : Nat} (hi : i < l.length) {x : α} (hx : l.getD i default = x) (h : (l.take i).all p = true) (hp : p x = true) : (l.take (i + 1)).all p = true := by
  subst hx
  rw [List.take_succ_eq_append_getElem hi, List.all_append, h]
  simpa [List.getD_eq_getElem?_getD, hi] using hp
theorem all_not {α : Type} [Inhabited α] {l : List α} {p : α → Bool} {i : Nat} (hi : i < l.length) {x : α} (hx : l.getD i default = x) (hp : p x = false) : l.all p = false := by
  subst hx
  rw [List.all_eq_false]
  exact ⟨l[i], List.getElem_mem hi, by simpa [List.getD_eq_getElem?_getD, hi] using hp⟩
section
/-! the program's -/
end

section
theorem Ro_ex {E : Env} {f : Nat} {fn : AFn} {vs : List AV} {h : List AO} (P : AV → Prop) (hu : ∀ v, P v → v.under h.length = true) (hs : E.spec f vs h h.length = none) (hf : E.fn f = some fn)
    (hg : G ⟨E, h.length, none, f, Done h.length fn.results fun r h' => P r⟩ fn.body [] (vs ++ List.replicate (fn.ntmps - vs.length) .undef) h []) : ∃ v, Ro E f vs h = some v ∧ P v := by
  obtain ⟨r, h', h1, h2⟩ := R_of (fun r _ => P r) hs hf hg
  exact ⟨r, by simp only [Ro, h1, hu r h2, if_true], h2⟩
end

section
end

section
/-! what a place has -/
end

theorem mapM_view {st : Bool} {h : List AO} {n : Nat} : ∀ {c : List AV}, (∀ x ∈ c, view st h n x = some x) → c.mapM (view st h n) = some c
  | [], _ => rfl
  | a :: c, hc => by
    simp only [List.mapM_cons, hc a (by simp), mapM_view (c := c) (fun x hx => hc x (by simp [hx])), Option.bind_eq_bind, Option.bind_some, Option.pure_def]
theorem flat_view {α : Type} {enc : α → List AV} {st : Bool} {h : List AO} {n : Nat} (hi : ∀ a, ∀ x ∈ enc a, ∃ k i, x = .int k i) (l : List α) : (l.flatMap enc).mapM (view st h n) = some (l.flatMap enc) :=
  mapM_view fun x hx => by
    obtain ⟨a, _, hx⟩ := List.mem_flatMap.1 hx
    obtain ⟨k, i, rfl⟩ := hi a x hx
    exact view_int
theorem flat_take {α : Type} {enc : α → List AV} {l : List α} {k : Nat} (he : ∀ a, (enc a).length = k) : (l.flatMap enc).take (l.length * k) = l.flatMap enc := List.take_of_length_le (by rw [flat_len he]; omega)
theorem flat1 (l : List Int) : (l.flatMap fun n => [I n]).length = l.length := by
  have := flat_len (enc := fun n : Int => [I n]) (esz := 1) (fun _ => rfl) l
  omega
theorem intIv (n : Int) : ∀ x ∈ intL n, ∃ k i, x = .int k i := by simp
/-- one heap came out of another: what was there is as it was -/
structure Fr (h h' : List AO) : Prop where
  l : h.length ≤ h'.length
  k : ∀ j, j < h.length → h'[j]? = h[j]?
theorem Fr.trans {a b c : List AO} (h : Fr a b) (h' : Fr b c) : Fr a c := ⟨Nat.le_trans h.l h'.l, fun j hj => (h'.k j (Nat.lt_of_lt_of_le hj h.l)).trans (h.k j hj)⟩
theorem Fr.app (h J : List AO) : Fr h (h ++ J) := ⟨by simp, fun j hj => List.getElem?_append_left hj⟩
theorem Fr.at {h h' : List AO} (F : Fr h h') {j : Nat} {x : AO} (hx : h[j]? = some x) : h'[j]? = some x := by rw [F.k j (List.getElem?_eq_some_iff.1 hx).1]; exact hx
theorem flat_sc (l : List Int) : (l.flatMap fun n => [I n]).all AV.scalar = true := scal_sl (fun _ => rfl) l
section
variable {α : Type} {l m : List α} {j : Nat} {x : α}
theorem set_same (h : l[j]? = some x) : l.set j x = l := by
  apply List.ext_getElem?
  intro i
  rw [List.getElem?_set]
  split
  · rename_i e; subst e
    rw [if_pos (List.getElem?_eq_some_iff.1 h).1, h]
  · rfl
end

/-! a list of lists that is being made -/
/-! appends in a region of open order -/
theorem GO_mcall0 {X : Cx} {base : Nat} {k : List KF} {ts : List AV} {h : List AO} {mk : List Nat} {r : List AOper} {d : Option Nat} {f : Nat} {args : List Opd} {m : List Nat} :
    GO X base (⟨d, .call 0 f args, none, none, m⟩ :: r) k ts h mk = GX X base ((R X.E (.fn f) (args.map (Opd.ev ts)) (hide base m h) X.lim).map fun y => (y.1, unhide base h m y.2)) d r k ts mk := by
  rw [GO_slot]
  congr 1
  show exMask (R X.E) X.lim base none (Opd.ev ts) h (.call 0 f args) m = _
  rw [exMask_eq]; rfl
theorem unhN {b : Nat} {h g : List AO} : unhide b h [] g = g := id rfl
theorem unhC {b s : Nat} {r : List Nat} {h g : List AO} : unhide b h (s :: r) g = (unhide b h r g).set (b + s) (h.getD (b + s) .tomb) := id rfl
theorem at_ap {α : Type} {l m : List α} {k : Nat} (h : k < l.length) : (l ++ m)[k]? = l[k]? := List.getElem?_append_left h
where
  mapM_fix {f : AV → Option AV} : ∀ {c : List AV}, c.mapM f = some c → ∀ x ∈ c, f x = some x
    | [], _, x, hx => by simp at hx
    | a :: c, h, x, hx => by
      simp only [List.mapM_cons, Option.bind_eq_bind, Option.bind_eq_some_iff, Option.pure_def, Option.some.injEq, List.cons.injEq] at h
      obtain ⟨y, h1, ys, h2, rfl, rfl⟩ := h
      rcases List.mem_cons.1 hx with rfl | hx
      · exact h1
      · exact mapM_fix h2 x hx


theorem finC2 {lim i j s : Nat} {a : Bool} {P : AV → List AO → Prop} {ts : List AV} {h : List AO} : Done lim [.cell a s i, .tmp j] P .ret ⟨ts, h, []⟩ = ∃ v, getRes ts h (.cell a s i) = some v ∧ P (.tup [v, ts.getD j .undef]) h := by
  simp only [Done, finish, takeMarks, List.all_nil, if_true, List.mapM_cons, List.mapM_nil, Option.bind_eq_bind, Option.pure_def]
  cases getRes ts h (.cell a s i) <;> simp [getRes]
section
/-! Share, Load, Need -/
end

/-- a list that lies in the heap, in an object of its own -/
def RdC {α : Type} (enc : α → List AV) (esz : Nat) (h : List AO) (w : AV) (l : List α) : Prop := ∃ o, w = .ms esz o 0 l.length ∧ h[o]? = some (.cells (l.flatMap enc) false)
section
variable {α : Type} {enc : α → List AV} {esz eb : Nat} {l : List α}
theorem RdC.fr {h h' : List AO} {w : AV} (H : RdC enc esz h w l) (F : Fr h h') : RdC enc esz h' w l := by
  obtain ⟨o, e, hc⟩ := H; exact ⟨o, e, F.at hc⟩
theorem RdC.view {h : List AO} {w : AV} (H : RdC enc esz h w l) (he : ∀ a, (enc a).length = esz) (hi : ∀ a, ∀ x ∈ enc a, ∃ k i, x = .int k i) {st : Bool} {k : Nat} : Am.view st h (k + 1) w = some (slV esz enc l) := by
  obtain ⟨o, rfl, hc⟩ := H
  have e := flat_take (l := l) he
  simp only [view_ms, rowOf_ms, Am.rowAt, hc, Option.bind_some, AO.row?, List.drop_zero, e, flat_len he, if_true, flat_view hi]
  rfl
theorem RdC.sc {h : List AO} {w : AV} (H : RdC enc esz h w l) : w.cells = [w] ∧ w.scalar = true ∧ lenV w = some (I l.length) := by
  obtain ⟨o, rfl, hc⟩ := H; exact ⟨rfl, rfl, rfl⟩
end
section
/-! of a crew -/
end

/-! the program's -/
/-- what lies behind a place is as it was -/
structure Fk (b : Nat) (h h' : List AO) : Prop where
  l : h.length ≤ h'.length
  k : ∀ j, b ≤ j → j < h.length → h'[j]? = h[j]?
theorem Fk.trans {n : Nat} {a b c : List AO} (h : Fk n a b) (h' : Fk n b c) : Fk n a c := ⟨Nat.le_trans h.l h'.l, fun j hn hj => (h'.k j hn (Nat.lt_of_lt_of_le hj h.l)).trans (h.k j hn hj)⟩
theorem Fk.of {b : Nat} {h h' : List AO} (F : Fr h h') : Fk b h h' := ⟨F.l, fun j _ hj => F.k j hj⟩
theorem Fk.at {b : Nat} {h h' : List AO} (F : Fk b h h') {j : Nat} (hb : b ≤ j) {x : AO} (hx : h[j]? = some x) : h'[j]? = some x := by rw [F.k j hb (List.getElem?_eq_some_iff.1 hx).1]; exact hx
/-! the cheapest crew -/

theorem fin3 {lim i j k : Nat} {P : AV → List AO → Prop} {ts : List AV} {h : List AO} : Done lim [.tmp i, .tmp j, .tmp k] P .ret ⟨ts, h, []⟩ = P (.tup [ts.getD i .undef, ts.getD j .undef, ts.getD k .undef]) h := by
  simp [Done, finish, takeMarks, getRes]
theorem take_snoc {α : Type} {l : List α} {i : Nat} {d : α} (h : i < l.length) : l.take (i + 1) = l.take i ++ [l.getD i d] := by
  rw [List.take_succ_eq_append_getElem h, List.getD_eq_getElem?_getD, List.getElem?_eq_getElem h]; rfl

section
end

/-! calls that lay what they make behind the caller's heap -/
noncomputable def C2 (E : Env) (f : Nat) (ws : List AV) (h : List AO) : Option (AV × List AO) :=
  if AV.pureV.go ws then (match R E (.fn f) ws [] 0 with
    | some (r, h') => some (r.shift h.length, h ++ h'.map (AO.shift h.length))
    | none => none)
  else (match ws.mapM (view false h 8) with
    | some vs => (match R E (.fn f) vs [] 0 with
      | some (r, h') => (view true h' 8 r).map fun r' => (r', h)
      | none => none)
    | none => none)
theorem exOp_call2 {E : Env} {lim : Nat} {pl : Option Nat} {ρ : Opd → AV} {h : List AO} {f : Nat} {args : List Opd} : exOp (R E) lim pl ρ h (.call 2 f args) = C2 E f (args.map ρ) h := by
  simp only [exOp, C2]
  rfl
theorem C2_of {f : Nat} {ws : List AV} {r : AV} {J h : List AO} (hp : AV.pureV.go ws = true) (hr : R E (.fn f) ws [] 0 = some (r, J)) : C2 E f ws h = some (r.shift h.length, h ++ J.map (AO.shift h.length)) := by
  simp only [C2, hp, hr, if_true]
theorem ints_shift (l : List Int) (n : Nat) : (l.flatMap intL).map (AV.shift n) = l.flatMap intL := by
  induction l with
  | nil => rfl
  | cons a l ih => simp only [List.flatMap_cons, List.map_append, ih]; rfl
/-! a copy of a sea -/
theorem cpyO {α : Type} {enc : α → List AV} {esz eb : Nat} {l : List α} {v : AV} {h : List AO} {lim : Nat} (hv : IsSl esz enc l v) (he : ∀ a, (enc a).length = esz) (hs : ∀ a, (enc a).all AV.scalar = true) (hb : l.length * eb ≤ 140737488355328) (heb : 1 ≤ eb) (hlim : lim ≤ h.length) :
    ∃ o h', appV lim (h ++ [.cells [] false]) esz eb (.ms esz h.length 0 0) v = some (.ms esz o 0 l.length, h') ∧ Fr h h' ∧ h.length ≤ o ∧ h'[o]? = some (.cells (l.flatMap enc) false) := by
  rw [appV_new hv he hs hb heb _ _ _ atE hlim]
  by_cases hz : l.length = 0
  · rw [if_pos hz]
    refine ⟨h.length, _, by rw [hz], Fr.app _ _, Nat.le_refl _, ?_⟩
    rw [List.eq_nil_of_length_eq_zero hz]; exact atE
  · rw [if_neg hz]
    refine ⟨(h ++ [AO.cells [] false]).length, _, rfl, ⟨by simp, fun j hj => ?_⟩, by simp, ?_⟩
    · rw [List.getElem?_append_left (by simp; omega), List.getElem?_set_ne (by omega), List.getElem?_append_left hj]
    · rw [List.getElem?_append_right (by simp)]; simp
end Go.Proofs.Ytaffjmjahenoaaa.A

/-
Houses as values, and the small functions of both sides.
-/
namespace Go.Proofs.Ytaffjmjahenoaaa.A
open Go Go.Am Go.Proofs.Ytaffjmjahenoaaa.T
set_option maxRecDepth 100000
set_option linter.unusedSimpArgs false
set_option linter.unusedVariables false

def Kd.e (x : Kd) : List AV := [I x.s, I x.d]
def Pr.e (x : Pr) : List AV := [I x.k, I x.p]
theorem Kd.el (x : Kd) : x.e.length = 2 := rfl
theorem Pr.el (x : Pr) : x.e.length = 2 := rfl
theorem Kd.sc (x : Kd) : x.e.all AV.scalar = true := rfl
theorem Pr.sc (x : Pr) : x.e.all AV.scalar = true := rfl
theorem Kd.iv (x : Kd) : ∀ y ∈ x.e, ∃ k i, y = .int k i := by simp [Kd.e]
theorem Pr.iv (x : Pr) : ∀ y ∈ x.e, ∃ k i, y = .int k i := by simp [Pr.e]
theorem elem_kd {l : List Kd} {v : AV} (h : IsSl 2 Kd.e l v) : ∀ i : Int, 0 ≤ i → i < l.length → elemAt 2 v (I i) = some (.cptr [I (l.getD i.toNat default).s, I (l.getD i.toNat default).d]) := elem_sl Kd.el h
theorem elem_pr {l : List Pr} {v : AV} (h : IsSl 2 Pr.e l v) : ∀ i : Int, 0 ≤ i → i < l.length → elemAt 2 v (I i) = some (.cptr [I (l.getD i.toNat default).k, I (l.getD i.toNat default).p]) := elem_sl Pr.el h

abbrev hsV (f : Int) (k p b : AV) : AV := .agg [k, I f, p, b]
structure HsIn (h : Hs) (k p b : AV) : Prop where
  k : IsSl 2 Kd.e h.ks k
  p : IsSl 2 Pr.e h.ps p
  b : IsSl 1 intL h.bs b
structure HsOk (h : Hs) (k p b : AV) : Prop extends HsIn h k p b where
  nk : h.ks.length ≤ 41
  np : h.ps.length ≤ 41
  nb : h.bs.length ≤ 41

def kdOk (x : Kd) : Bool := inR x.s 0 9 && inR x.d 0 20
def prOk (n : Nat) (x : Pr) : Bool := inR x.k 0 ((n : Int) - 1) && inR x.p 0 40
def Hs.valid (h : Hs) : Bool := decide (h.ks.length ≤ 3) && h.ks.all kdOk && inR h.fl 0 9 && decide (h.ps.length ≤ 6) && h.ps.all (prOk h.ks.length) && decide (h.bs.length ≤ 4) && h.bs.all (fun b => inR b 0 99)
theorem mem_iff_getD {α : Type} {l : List α} {d : α} {p : α → Prop} : (∀ x ∈ l, p x) ↔ ∀ i, i < l.length → p (l.getD i d) := by
  constructor
  · intro h i hi
    rw [List.getD_eq_getElem?_getD, List.getElem?_eq_getElem hi]; exact h _ (List.getElem_mem hi)
  · intro h x hx
    obtain ⟨i, hi, rfl⟩ := mem_getD (d := d) hx
    exact h i hi
theorem valid_iff {h : Hs} : h.valid = true ↔ HG h := by
  simp only [Hs.valid, Bool.and_eq_true, decide_eq_true_eq, List.all_eq_true, inR_iff, kdOk, prOk]
  rw [mem_iff_getD (l := h.ks) (d := default), mem_iff_getD (l := h.ps) (d := default), mem_iff_getD (l := h.bs) (d := 0)]
  constructor
  · rintro ⟨⟨⟨⟨⟨⟨a, b⟩, c⟩, d⟩, e⟩, f⟩, g⟩
    exact ⟨a, d, f, ⟨fun i hi => by have := b i hi; omega, c⟩, fun i hi => by have := e i hi; omega, fun i hi => g i hi⟩
  · intro H
    exact ⟨⟨⟨⟨⟨⟨H.nk, fun i hi => by have := H.g.k i hi; omega⟩, H.g.f⟩, H.np⟩, fun i hi => by have := H.q i hi; omega⟩, H.nb⟩, fun i hi => H.b i hi⟩

theorem s66 (n lo hi : Int) (st : Bool) : Iso E 17 [I n, I lo, I hi] st = some (Bo (inR n lo hi)) := by
  refine Iso_of (es _ _ _ _) e17 ?_
  simp only [f17]
  simp (disch := first | assumption | omega | (simp only [az]; done)) only [ru, eq_self, if_true, if_false, BEq.rfl, binI, AO.row?, splice, fillL, mmAll, loadV, storeV, zeros, Am.rowAt, Am.part, addOff, Nat.reduceAdd, Nat.reduceMul, Nat.reduceLeDiff, Nat.reduceSub, Nat.reduceLT, Int.reduceEq, Int.reduceLT, Int.reduceLE, Int.reduceGT, Int.reduceGE, Int.reduceAdd, Int.reduceSub, Int.reduceMul, Int.reduceNeg, Int.reduceToNat, reduceCtorEq, reduceIte, s57]
theorem s83 (n lo hi : Int) (st : Bool) : Iso E 62 [I n, I lo, I hi] st = some (Bo (inR n lo hi)) := by
  refine Iso_of (es _ _ _ _) e62 ?_
  simp only [f62, inR]
  simp (disch := first | assumption | omega | (simp only [az]; done)) only [ru, eq_self, if_true, if_false, BEq.rfl, binI, AO.row?, splice, fillL, mmAll, loadV, storeV, zeros, Am.rowAt, Am.part, addOff, Nat.reduceAdd, Nat.reduceMul, Nat.reduceLeDiff, Nat.reduceSub, Nat.reduceLT, Int.reduceEq, Int.reduceLT, Int.reduceLE, Int.reduceGT, Int.reduceGE, Int.reduceAdd, Int.reduceSub, Int.reduceMul, Int.reduceNeg, Int.reduceToNat, reduceCtorEq, reduceIte]
  by_cases h1 : lo ≤ n
  · simp (disch := first | assumption | omega | (simp only [az]; done)) only [ru, eq_self, if_true, if_false, BEq.rfl, binI, AO.row?, splice, fillL, mmAll, loadV, storeV, zeros, Am.rowAt, Am.part, addOff, Nat.reduceAdd, Nat.reduceMul, Nat.reduceLeDiff, Nat.reduceSub, Nat.reduceLT, Int.reduceEq, Int.reduceLT, Int.reduceLE, Int.reduceGT, Int.reduceGE, Int.reduceAdd, Int.reduceSub, Int.reduceMul, Int.reduceNeg, Int.reduceToNat, reduceCtorEq, reduceIte, h1]
  · simp (disch := first | assumption | omega | (simp only [az]; done)) only [ru, eq_self, if_true, if_false, BEq.rfl, binI, AO.row?, splice, fillL, mmAll, loadV, storeV, zeros, Am.rowAt, Am.part, addOff, Nat.reduceAdd, Nat.reduceMul, Nat.reduceLeDiff, Nat.reduceSub, Nat.reduceLT, Int.reduceEq, Int.reduceLT, Int.reduceLE, Int.reduceGT, Int.reduceGE, Int.reduceAdd, Int.reduceSub, Int.reduceMul, Int.reduceNeg, Int.reduceToNat, reduceCtorEq, reduceIte, h1, gUn]
section
variable {h : Hs} {k p b : AV}
end

/-! each of a list -/
theorem s91 (x : Kd) (h : List AO) : Ro E 61 [.agg [I x.s, I x.d]] h = some (Bo (kdOk x)) := by
  refine Ro_of (es _ _ _ _) e61 ?_
  simp only [f61, kdOk]
  cases h1 : inR x.s 0 9
  · simp (disch := first | assumption | omega | (simp only [az]; done)) only [ru, eq_self, if_true, if_false, BEq.rfl, binI, AO.row?, splice, fillL, mmAll, loadV, storeV, zeros, Am.rowAt, Am.part, addOff, Nat.reduceAdd, Nat.reduceMul, Nat.reduceLeDiff, Nat.reduceSub, Nat.reduceLT, Int.reduceEq, Int.reduceLT, Int.reduceLE, Int.reduceGT, Int.reduceGE, Int.reduceAdd, Int.reduceSub, Int.reduceMul, Int.reduceNeg, Int.reduceToNat, reduceCtorEq, reduceIte, s83, atE, lenE, h1, gUn, Bool.false_and]
    rfl
  simp (disch := first | assumption | omega | (simp only [az]; done)) only [ru, eq_self, if_true, if_false, BEq.rfl, binI, AO.row?, splice, fillL, mmAll, loadV, storeV, zeros, Am.rowAt, Am.part, addOff, Nat.reduceAdd, Nat.reduceMul, Nat.reduceLeDiff, Nat.reduceSub, Nat.reduceLT, Int.reduceEq, Int.reduceLT, Int.reduceLE, Int.reduceGT, Int.reduceGE, Int.reduceAdd, Int.reduceSub, Int.reduceMul, Int.reduceNeg, Int.reduceToNat, reduceCtorEq, reduceIte, s83, atE, lenE, h1, gUn, Bool.true_and]
  rfl
theorem s93 (x : Int) (h : List AO) : Ro E 64 [I x] h = some (Bo (inR x 0 99)) := by
  refine Ro_of (es _ _ _ _) e64 ?_
  simp only [f64]
  simp (disch := first | assumption | omega | (simp only [az]; done)) only [ru, eq_self, if_true, if_false, BEq.rfl, binI, AO.row?, splice, fillL, mmAll, loadV, storeV, zeros, Am.rowAt, Am.part, addOff, Nat.reduceAdd, Nat.reduceMul, Nat.reduceLeDiff, Nat.reduceSub, Nat.reduceLT, Int.reduceEq, Int.reduceLT, Int.reduceLE, Int.reduceGT, Int.reduceGE, Int.reduceAdd, Int.reduceSub, Int.reduceMul, Int.reduceNeg, Int.reduceToNat, reduceCtorEq, reduceIte, s83]
  rfl
theorem s92 {L : List Kd} {kv fv pv bv : AV} (K : IsSl 2 Kd.e L kv) (hk : L.length ≤ 41) (x : Pr) {o : Nat} {h : List AO} (ho : h[o]? = some (.cells [kv, fv, pv, bv] false)) : Ro E 63 [.agg [I x.k, I x.p], .ptr o 0] h = some (Bo (prOk L.length x)) := by
  have ol := (List.getElem?_eq_some_iff.1 ho).1
  refine Ro_of (es _ _ _ _) e63 ?_
  simp only [f63, prOk]
  have e : (h ++ [AO.cells [I x.k, I x.p] false])[o]? = some (.cells [kv, fv, pv, bv] false) := by rw [List.getElem?_append_left ol]; exact ho
  cases h1 : inR x.k 0 (L.length - 1)
  · simp (disch := first | assumption | omega | (simp only [az]; done)) only [ru, eq_self, if_true, if_false, BEq.rfl, binI, AO.row?, splice, fillL, mmAll, loadV, storeV, zeros, Am.rowAt, Am.part, addOff, Nat.reduceAdd, Nat.reduceMul, Nat.reduceLeDiff, Nat.reduceSub, Nat.reduceLT, Int.reduceEq, Int.reduceLT, Int.reduceLE, Int.reduceGT, Int.reduceGE, Int.reduceAdd, Int.reduceSub, Int.reduceMul, Int.reduceNeg, Int.reduceToNat, reduceCtorEq, reduceIte, s83, lenV_sl K, view_sl K, scalar_sl K, cells_sl K, pure_sl K, atE, lenE, e, h1, gUn, Bool.false_and]
    rfl
  simp (disch := first | assumption | omega | (simp only [az]; done)) only [ru, eq_self, if_true, if_false, BEq.rfl, binI, AO.row?, splice, fillL, mmAll, loadV, storeV, zeros, Am.rowAt, Am.part, addOff, Nat.reduceAdd, Nat.reduceMul, Nat.reduceLeDiff, Nat.reduceSub, Nat.reduceLT, Int.reduceEq, Int.reduceLT, Int.reduceLE, Int.reduceGT, Int.reduceGE, Int.reduceAdd, Int.reduceSub, Int.reduceMul, Int.reduceNeg, Int.reduceToNat, reduceCtorEq, reduceIte, s83, lenV_sl K, view_sl K, scalar_sl K, cells_sl K, pure_sl K, atE, lenE, e, h1, gUn, Bool.true_and]
  rfl
theorem any_upto_succ {α : Type} {d : α} {l : List α} {q : α → Bool} {i : Nat} (hi : i < l.length) (h : (l.take i).any q = false) (hq : q (l.getD i d) = false) : (l.take (i + 1)).any q = false := by
  rw [take_snoc (d := d) hi, List.any_append, h, List.any_cons, hq]; rfl
theorem any_at {α : Type} {d : α} {l : List α} {q : α → Bool} {i : Nat} (hi : i < l.length) (hq : q (l.getD i d) = true) : l.any q = true := List.any_eq_true.2 ⟨l.getD i d, by
  rw [List.getD_eq_getElem?_getD, List.getElem?_eq_getElem hi]; exact List.getElem_mem hi, hq⟩
theorem any_all {α : Type} {q : α → Bool} : ∀ {l : List α}, (!l.any fun x => !q x) = l.all q
  | [] => rfl
  | a :: l => by rw [List.any_cons, List.all_cons, Bool.not_or, Bool.not_not, any_all]

theorem s106 {q : Kd → Bool} {c : Nat} {cap : List AV} (x : Kd) {o : Nat} {h : List AO} (ho : h[o]? = some (.cells [.fn c [] cap] false)) (hq : ∀ X, Ro E c (.agg [I x.s, I x.d] :: cap) (h ++ X) = some (Bo (q x))) : Ro E 76 [.agg [I x.s, I x.d], .ptr o 0] h = some (Bo (!q x)) := by
  have ol := (List.getElem?_eq_some_iff.1 ho).1
  refine Ro_of (es _ _ _ _) e76 ?_
  simp only [f76]
  have h0 := hq []
  rw [List.append_nil] at h0
  simp (disch := first | assumption | omega | (simp only [az]; done)) only [ru, eq_self, if_true, if_false, BEq.rfl, binI, AO.row?, splice, fillL, mmAll, loadV, storeV, zeros, Am.rowAt, Am.part, addOff, Nat.reduceAdd, Nat.reduceMul, Nat.reduceLeDiff, Nat.reduceSub, Nat.reduceLT, Int.reduceEq, Int.reduceLT, Int.reduceLE, Int.reduceGT, Int.reduceGE, Int.reduceAdd, Int.reduceSub, Int.reduceMul, Int.reduceNeg, Int.reduceToNat, reduceCtorEq, reduceIte, atE, lenE, at_ap ol, ho, exOp_callv1, List.nil_append, List.cons_append, hq, h0]
  rfl
set_option maxHeartbeats 1000000 in
theorem s114 {L : List Kd} {v : AV} (H : IsSl 2 Kd.e L v) (hl : L.length ≤ 41) {q : Kd → Bool} {k : Nat} {cap : List AV} {h : List AO} (hq : ∀ x : Kd, Ro E k (.agg [I x.s, I x.d] :: cap) h = some (Bo (q x))) :
    ∃ j : Int, Ro E 84 [v, .fn k [] cap] h = some (I j) ∧ decide (j ≥ 0) = L.any q := by
  refine (fun x => ?_ : (∃ w, Ro E 84 [v, .fn k [] cap] h = some w ∧ ∃ j : Int, w = I j ∧ decide (j ≥ 0) = L.any q) → _) (Ro_ex (fun r => ∃ j : Int, r = I j ∧ decide (j ≥ 0) = L.any q) (by rintro _ ⟨j, rfl, _⟩; rfl) (es _ _ _ _) e84 ?_)
  · obtain ⟨w, hv, j, rfl, hj⟩ := x; exact ⟨j, hv, hj⟩
  have ep := elem_kd H
  simp only [f84]
  simp (disch := first | assumption | omega | (simp only [az]; done)) only [ru, eq_self, if_true, if_false, BEq.rfl, binI, AO.row?, splice, fillL, mmAll, loadV, storeV, zeros, Am.rowAt, Am.part, addOff, Nat.reduceAdd, Nat.reduceMul, Nat.reduceLeDiff, Nat.reduceSub, Nat.reduceLT, Int.reduceEq, Int.reduceLT, Int.reduceLE, Int.reduceGT, Int.reduceGE, Int.reduceAdd, Int.reduceSub, Int.reduceMul, Int.reduceNeg, Int.reduceToNat, reduceCtorEq, reduceIte, lenV_sl H]
  refine G_loop_ind (fun m ts hh mk => ∃ i : Nat, i ≤ L.length ∧ m = L.length - i ∧ (L.take i).any q = false ∧ ts.length = 19 ∧ ts.getD 0 .undef = v ∧ ts.getD 1 .undef = .fn k [] cap ∧ ts.getD 7 .undef = I L.length ∧ ts.getD 8 .undef = I i ∧ hh = h ∧ mk = []) ?_ _ _ _ _
    ⟨0, Nat.zero_le _, rfl, rfl, rfl, rfl, rfl, rfl, rfl, rfl, rfl⟩
  rintro m ts hh mk ih ⟨i, hi, rfl, hall, hl', q0, q1, q7, q8, rfl, rfl⟩
  rw [lit_all hl']
  simp only [lit0, litS, Nat.reduceAdd, q0, q1, q7, q8]
  simp (disch := first | assumption | omega | (simp only [az]; done)) only [ru, eq_self, if_true, if_false, BEq.rfl, binI, AO.row?, splice, fillL, mmAll, loadV, storeV, zeros, Am.rowAt, Am.part, addOff, Nat.reduceAdd, Nat.reduceMul, Nat.reduceLeDiff, Nat.reduceSub, Nat.reduceLT, Int.reduceEq, Int.reduceLT, Int.reduceLE, Int.reduceGT, Int.reduceGE, Int.reduceAdd, Int.reduceSub, Int.reduceMul, Int.reduceNeg, Int.reduceToNat, reduceCtorEq, reduceIte]
  by_cases hlt : (i : Int) < L.length
  case pos =>
    have hi' : i < L.length := by omega
    have nx := any_upto_succ (d := default) hi' hall
    have ya := any_at (d := default) (q := q) hi'
    obtain ⟨x, hx⟩ : ∃ x, x = L.getD i default := ⟨_, rfl⟩
    have hr := hq x
    rw [← hx] at nx ya
    cases hc : q x
    · rw [hc] at hr
      simp (disch := first | assumption | omega | (simp only [az]; done)) only [ru, eq_self, if_true, if_false, BEq.rfl, binI, AO.row?, splice, fillL, mmAll, loadV, storeV, zeros, Am.rowAt, Am.part, addOff, Nat.reduceAdd, Nat.reduceMul, Nat.reduceLeDiff, Nat.reduceSub, Nat.reduceLT, Int.reduceEq, Int.reduceLT, Int.reduceLE, Int.reduceGT, Int.reduceGE, Int.reduceAdd, Int.reduceSub, Int.reduceMul, Int.reduceNeg, Int.reduceToNat, reduceCtorEq, reduceIte, hlt, ep, Int.toNat_natCast, ← hx, exOp_callv1, List.nil_append, List.cons_append, hr]
      exact ih (L.length - (i + 1)) _ _ _ (by omega) ⟨i + 1, by omega, rfl, nx hc, rfl, rfl, rfl, rfl, rfl, rfl, rfl⟩
    · rw [hc] at hr
      simp (disch := first | assumption | omega | (simp only [az]; done)) only [ru, eq_self, if_true, if_false, BEq.rfl, binI, AO.row?, splice, fillL, mmAll, loadV, storeV, zeros, Am.rowAt, Am.part, addOff, Nat.reduceAdd, Nat.reduceMul, Nat.reduceLeDiff, Nat.reduceSub, Nat.reduceLT, Int.reduceEq, Int.reduceLT, Int.reduceLE, Int.reduceGT, Int.reduceGE, Int.reduceAdd, Int.reduceSub, Int.reduceMul, Int.reduceNeg, Int.reduceToNat, reduceCtorEq, reduceIte, hlt, ep, Int.toNat_natCast, ← hx, exOp_callv1, List.nil_append, List.cons_append, hr]
      exact ⟨i, rfl, by rw [ya hc]; simp⟩
  obtain rfl : i = L.length := by omega
  rw [List.take_length] at hall
  simp (disch := first | assumption | omega | (simp only [az]; done)) only [ru, eq_self, if_true, if_false, BEq.rfl, binI, AO.row?, splice, fillL, mmAll, loadV, storeV, zeros, Am.rowAt, Am.part, addOff, Nat.reduceAdd, Nat.reduceMul, Nat.reduceLeDiff, Nat.reduceSub, Nat.reduceLT, Int.reduceEq, Int.reduceLT, Int.reduceLE, Int.reduceGT, Int.reduceGE, Int.reduceAdd, Int.reduceSub, Int.reduceMul, Int.reduceNeg, Int.reduceToNat, reduceCtorEq, reduceIte, hlt]
  exact ⟨-1, rfl, by rw [hall]; decide⟩
theorem s105 {L : List Kd} {v : AV} (H : IsSl 2 Kd.e L v) (hl : L.length ≤ 41) {q : Kd → Bool} {k : Nat} {cap : List AV} {h : List AO} (hq : ∀ x : Kd, Ro E k (.agg [I x.s, I x.d] :: cap) h = some (Bo (q x))) : Ro E 75 [v, .fn k [] cap] h = some (Bo (L.any q)) := by
  obtain ⟨j, hr, hj⟩ := s114 H hl hq
  refine Ro_of (es _ _ _ _) e75 ?_
  simp only [f75]
  simp (disch := first | assumption | omega | (simp only [az]; done)) only [ru, eq_self, if_true, if_false, BEq.rfl, binI, AO.row?, splice, fillL, mmAll, loadV, storeV, zeros, Am.rowAt, Am.part, addOff, Nat.reduceAdd, Nat.reduceMul, Nat.reduceLeDiff, Nat.reduceSub, Nat.reduceLT, Int.reduceEq, Int.reduceLT, Int.reduceLE, Int.reduceGT, Int.reduceGE, Int.reduceAdd, Int.reduceSub, Int.reduceMul, Int.reduceNeg, Int.reduceToNat, reduceCtorEq, reduceIte, hr]
  rw [hj]; exact ⟨rfl, rfl⟩
theorem s94 {L : List Kd} {v : AV} (H : IsSl 2 Kd.e L v) (hl : L.length ≤ 41) {q : Kd → Bool} {c : Nat} {cap : List AV} {h : List AO} (hq : ∀ (x : Kd) X, Ro E c (.agg [I x.s, I x.d] :: cap) (h ++ X) = some (Bo (q x))) : Ro E 65 [v, .fn c [] cap] h = some (Bo (L.all q)) := by
  have hr := s105 H hl (q := fun x => !q x) (k := 76) (cap := [.ptr h.length 0]) (h := h ++ [.cells [.fn c [] cap] false]) fun x => s106 x atE fun X => by rw [List.append_assoc]; exact hq x _
  have e : (!L.any fun x => !q x) = L.all q := any_all
  refine Ro_of (es _ _ _ _) e65 ?_
  simp only [f65]
  simp (disch := first | assumption | omega | (simp only [az]; done)) only [ru, eq_self, if_true, if_false, BEq.rfl, binI, AO.row?, splice, fillL, mmAll, loadV, storeV, zeros, Am.rowAt, Am.part, addOff, Nat.reduceAdd, Nat.reduceMul, Nat.reduceLeDiff, Nat.reduceSub, Nat.reduceLT, Int.reduceEq, Int.reduceLT, Int.reduceLE, Int.reduceGT, Int.reduceGE, Int.reduceAdd, Int.reduceSub, Int.reduceMul, Int.reduceNeg, Int.reduceToNat, reduceCtorEq, reduceIte, lenV_sl H, view_sl H, scalar_sl H, cells_sl H, pure_sl H, hr, e]
  rfl

theorem s108 {q : Pr → Bool} {c : Nat} {cap : List AV} (x : Pr) {o : Nat} {h : List AO} (ho : h[o]? = some (.cells [.fn c [] cap] false)) (hq : ∀ X, Ro E c (.agg [I x.k, I x.p] :: cap) (h ++ X) = some (Bo (q x))) : Ro E 78 [.agg [I x.k, I x.p], .ptr o 0] h = some (Bo (!q x)) := by
  have ol := (List.getElem?_eq_some_iff.1 ho).1
  refine Ro_of (es _ _ _ _) e78 ?_
  simp only [f78]
  have h0 := hq []
  rw [List.append_nil] at h0
  simp (disch := first | assumption | omega | (simp only [az]; done)) only [ru, eq_self, if_true, if_false, BEq.rfl, binI, AO.row?, splice, fillL, mmAll, loadV, storeV, zeros, Am.rowAt, Am.part, addOff, Nat.reduceAdd, Nat.reduceMul, Nat.reduceLeDiff, Nat.reduceSub, Nat.reduceLT, Int.reduceEq, Int.reduceLT, Int.reduceLE, Int.reduceGT, Int.reduceGE, Int.reduceAdd, Int.reduceSub, Int.reduceMul, Int.reduceNeg, Int.reduceToNat, reduceCtorEq, reduceIte, atE, lenE, at_ap ol, ho, exOp_callv1, List.nil_append, List.cons_append, hq, h0]
  rfl
set_option maxHeartbeats 1000000 in
theorem s115 {L : List Pr} {v : AV} (H : IsSl 2 Pr.e L v) (hl : L.length ≤ 41) {q : Pr → Bool} {k : Nat} {cap : List AV} {h : List AO} (hq : ∀ x : Pr, Ro E k (.agg [I x.k, I x.p] :: cap) h = some (Bo (q x))) :
    ∃ j : Int, Ro E 85 [v, .fn k [] cap] h = some (I j) ∧ decide (j ≥ 0) = L.any q := by
  refine (fun x => ?_ : (∃ w, Ro E 85 [v, .fn k [] cap] h = some w ∧ ∃ j : Int, w = I j ∧ decide (j ≥ 0) = L.any q) → _) (Ro_ex (fun r => ∃ j : Int, r = I j ∧ decide (j ≥ 0) = L.any q) (by rintro _ ⟨j, rfl, _⟩; rfl) (es _ _ _ _) e85 ?_)
  · obtain ⟨w, hv, j, rfl, hj⟩ := x; exact ⟨j, hv, hj⟩
  have ep := elem_pr H
  simp only [f85]
  simp (disch := first | assumption | omega | (simp only [az]; done)) only [ru, eq_self, if_true, if_false, BEq.rfl, binI, AO.row?, splice, fillL, mmAll, loadV, storeV, zeros, Am.rowAt, Am.part, addOff, Nat.reduceAdd, Nat.reduceMul, Nat.reduceLeDiff, Nat.reduceSub, Nat.reduceLT, Int.reduceEq, Int.reduceLT, Int.reduceLE, Int.reduceGT, Int.reduceGE, Int.reduceAdd, Int.reduceSub, Int.reduceMul, Int.reduceNeg, Int.reduceToNat, reduceCtorEq, reduceIte, lenV_sl H]
  refine G_loop_ind (fun m ts hh mk => ∃ i : Nat, i ≤ L.length ∧ m = L.length - i ∧ (L.take i).any q = false ∧ ts.length = 19 ∧ ts.getD 0 .undef = v ∧ ts.getD 1 .undef = .fn k [] cap ∧ ts.getD 7 .undef = I L.length ∧ ts.getD 8 .undef = I i ∧ hh = h ∧ mk = []) ?_ _ _ _ _
    ⟨0, Nat.zero_le _, rfl, rfl, rfl, rfl, rfl, rfl, rfl, rfl, rfl⟩
  rintro m ts hh mk ih ⟨i, hi, rfl, hall, hl', q0, q1, q7, q8, rfl, rfl⟩
  rw [lit_all hl']
  simp only [lit0, litS, Nat.reduceAdd, q0, q1, q7, q8]
  simp (disch := first | assumption | omega | (simp only [az]; done)) only [ru, eq_self, if_true, if_false, BEq.rfl, binI, AO.row?, splice, fillL, mmAll, loadV, storeV, zeros, Am.rowAt, Am.part, addOff, Nat.reduceAdd, Nat.reduceMul, Nat.reduceLeDiff, Nat.reduceSub, Nat.reduceLT, Int.reduceEq, Int.reduceLT, Int.reduceLE, Int.reduceGT, Int.reduceGE, Int.reduceAdd, Int.reduceSub, Int.reduceMul, Int.reduceNeg, Int.reduceToNat, reduceCtorEq, reduceIte]
  by_cases hlt : (i : Int) < L.length
  case pos =>
    have hi' : i < L.length := by omega
    have nx := any_upto_succ (d := default) hi' hall
    have ya := any_at (d := default) (q := q) hi'
    obtain ⟨x, hx⟩ : ∃ x, x = L.getD i default := ⟨_, rfl⟩
    have hr := hq x
    rw [← hx] at nx ya
    cases hc : q x
    · rw [hc] at hr
      simp (disch := first | assumption | omega | (simp only [az]; done)) only [ru, eq_self, if_true, if_false, BEq.rfl, binI, AO.row?, splice, fillL, mmAll, loadV, storeV, zeros, Am.rowAt, Am.part, addOff, Nat.reduceAdd, Nat.reduceMul, Nat.reduceLeDiff, Nat.reduceSub, Nat.reduceLT, Int.reduceEq, Int.reduceLT, Int.reduceLE, Int.reduceGT, Int.reduceGE, Int.reduceAdd, Int.reduceSub, Int.reduceMul, Int.reduceNeg, Int.reduceToNat, reduceCtorEq, reduceIte, hlt, ep, Int.toNat_natCast, ← hx, exOp_callv1, List.nil_append, List.cons_append, hr]
      exact ih (L.length - (i + 1)) _ _ _ (by omega) ⟨i + 1, by omega, rfl, nx hc, rfl, rfl, rfl, rfl, rfl, rfl, rfl⟩
    · rw [hc] at hr
      simp (disch := first | assumption | omega | (simp only [az]; done)) only [ru, eq_self, if_true, if_false, BEq.rfl, binI, AO.row?, splice, fillL, mmAll, loadV, storeV, zeros, Am.rowAt, Am.part, addOff, Nat.reduceAdd, Nat.reduceMul, Nat.reduceLeDiff, Nat.reduceSub, Nat.reduceLT, Int.reduceEq, Int.reduceLT, Int.reduceLE, Int.reduceGT, Int.reduceGE, Int.reduceAdd, Int.reduceSub, Int.reduceMul, Int.reduceNeg, Int.reduceToNat, reduceCtorEq, reduceIte, hlt, ep, Int.toNat_natCast, ← hx, exOp_callv1, List.nil_append, List.cons_append, hr]
      exact ⟨i, rfl, by rw [ya hc]; simp⟩
  obtain rfl : i = L.length := by omega
  rw [List.take_length] at hall
  simp (disch := first | assumption | omega | (simp only [az]; done)) only [ru, eq_self, if_true, if_false, BEq.rfl, binI, AO.row?, splice, fillL, mmAll, loadV, storeV, zeros, Am.rowAt, Am.part, addOff, Nat.reduceAdd, Nat.reduceMul, Nat.reduceLeDiff, Nat.reduceSub, Nat.reduceLT, Int.reduceEq, Int.reduceLT, Int.reduceLE, Int.reduceGT, Int.reduceGE, Int.reduceAdd, Int.reduceSub, Int.reduceMul, Int.reduceNeg, Int.reduceToNat, reduceCtorEq, reduceIte, hlt]
  exact ⟨-1, rfl, by rw [hall]; decide⟩
theorem s107 {L : List Pr} {v : AV} (H : IsSl 2 Pr.e L v) (hl : L.length ≤ 41) {q : Pr → Bool} {k : Nat} {cap : List AV} {h : List AO} (hq : ∀ x : Pr, Ro E k (.agg [I x.k, I x.p] :: cap) h = some (Bo (q x))) : Ro E 77 [v, .fn k [] cap] h = some (Bo (L.any q)) := by
  obtain ⟨j, hr, hj⟩ := s115 H hl hq
  refine Ro_of (es _ _ _ _) e77 ?_
  simp only [f77]
  simp (disch := first | assumption | omega | (simp only [az]; done)) only [ru, eq_self, if_true, if_false, BEq.rfl, binI, AO.row?, splice, fillL, mmAll, loadV, storeV, zeros, Am.rowAt, Am.part, addOff, Nat.reduceAdd, Nat.reduceMul, Nat.reduceLeDiff, Nat.reduceSub, Nat.reduceLT, Int.reduceEq, Int.reduceLT, Int.reduceLE, Int.reduceGT, Int.reduceGE, Int.reduceAdd, Int.reduceSub, Int.reduceMul, Int.reduceNeg, Int.reduceToNat, reduceCtorEq, reduceIte, hr]
  rw [hj]; exact ⟨rfl, rfl⟩
theorem s95 {L : List Pr} {v : AV} (H : IsSl 2 Pr.e L v) (hl : L.length ≤ 41) {q : Pr → Bool} {c : Nat} {cap : List AV} {h : List AO} (hq : ∀ (x : Pr) X, Ro E c (.agg [I x.k, I x.p] :: cap) (h ++ X) = some (Bo (q x))) : Ro E 66 [v, .fn c [] cap] h = some (Bo (L.all q)) := by
  have hr := s107 H hl (q := fun x => !q x) (k := 78) (cap := [.ptr h.length 0]) (h := h ++ [.cells [.fn c [] cap] false]) fun x => s108 x atE fun X => by rw [List.append_assoc]; exact hq x _
  have e : (!L.any fun x => !q x) = L.all q := any_all
  refine Ro_of (es _ _ _ _) e66 ?_
  simp only [f66]
  simp (disch := first | assumption | omega | (simp only [az]; done)) only [ru, eq_self, if_true, if_false, BEq.rfl, binI, AO.row?, splice, fillL, mmAll, loadV, storeV, zeros, Am.rowAt, Am.part, addOff, Nat.reduceAdd, Nat.reduceMul, Nat.reduceLeDiff, Nat.reduceSub, Nat.reduceLT, Int.reduceEq, Int.reduceLT, Int.reduceLE, Int.reduceGT, Int.reduceGE, Int.reduceAdd, Int.reduceSub, Int.reduceMul, Int.reduceNeg, Int.reduceToNat, reduceCtorEq, reduceIte, lenV_sl H, view_sl H, scalar_sl H, cells_sl H, pure_sl H, hr, e]
  rfl

theorem s110 {q : Int → Bool} {c : Nat} {cap : List AV} (x : Int) {o : Nat} {h : List AO} (ho : h[o]? = some (.cells [.fn c [] cap] false)) (hq : ∀ X, Ro E c (I x :: cap) (h ++ X) = some (Bo (q x))) : Ro E 80 [I x, .ptr o 0] h = some (Bo (!q x)) := by
  have ol := (List.getElem?_eq_some_iff.1 ho).1
  refine Ro_of (es _ _ _ _) e80 ?_
  simp only [f80]
  have h0 := hq []
  rw [List.append_nil] at h0
  simp (disch := first | assumption | omega | (simp only [az]; done)) only [ru, eq_self, if_true, if_false, BEq.rfl, binI, AO.row?, splice, fillL, mmAll, loadV, storeV, zeros, Am.rowAt, Am.part, addOff, Nat.reduceAdd, Nat.reduceMul, Nat.reduceLeDiff, Nat.reduceSub, Nat.reduceLT, Int.reduceEq, Int.reduceLT, Int.reduceLE, Int.reduceGT, Int.reduceGE, Int.reduceAdd, Int.reduceSub, Int.reduceMul, Int.reduceNeg, Int.reduceToNat, reduceCtorEq, reduceIte, atE, lenE, at_ap ol, ho, exOp_callv1, List.nil_append, List.cons_append, hq, h0]
  rfl
set_option maxHeartbeats 1000000 in
theorem s116 {L : List Int} {v : AV} (H : IsSl 1 intL L v) (hl : L.length ≤ 41) {q : Int → Bool} {k : Nat} {cap : List AV} {h : List AO} (hq : ∀ x : Int, Ro E k (I x :: cap) h = some (Bo (q x))) :
    ∃ j : Int, Ro E 86 [v, .fn k [] cap] h = some (I j) ∧ decide (j ≥ 0) = L.any q := by
  refine (fun x => ?_ : (∃ w, Ro E 86 [v, .fn k [] cap] h = some w ∧ ∃ j : Int, w = I j ∧ decide (j ≥ 0) = L.any q) → _) (Ro_ex (fun r => ∃ j : Int, r = I j ∧ decide (j ≥ 0) = L.any q) (by rintro _ ⟨j, rfl, _⟩; rfl) (es _ _ _ _) e86 ?_)
  · obtain ⟨w, hv, j, rfl, hj⟩ := x; exact ⟨j, hv, hj⟩
  have ep := elem_in H
  simp only [f86]
  simp (disch := first | assumption | omega | (simp only [az]; done)) only [ru, eq_self, if_true, if_false, BEq.rfl, binI, AO.row?, splice, fillL, mmAll, loadV, storeV, zeros, Am.rowAt, Am.part, addOff, Nat.reduceAdd, Nat.reduceMul, Nat.reduceLeDiff, Nat.reduceSub, Nat.reduceLT, Int.reduceEq, Int.reduceLT, Int.reduceLE, Int.reduceGT, Int.reduceGE, Int.reduceAdd, Int.reduceSub, Int.reduceMul, Int.reduceNeg, Int.reduceToNat, reduceCtorEq, reduceIte, lenV_sl H]
  refine G_loop_ind (fun m ts hh mk => ∃ i : Nat, i ≤ L.length ∧ m = L.length - i ∧ (L.take i).any q = false ∧ ts.length = 19 ∧ ts.getD 0 .undef = v ∧ ts.getD 1 .undef = .fn k [] cap ∧ ts.getD 7 .undef = I L.length ∧ ts.getD 8 .undef = I i ∧ hh = h ∧ mk = []) ?_ _ _ _ _
    ⟨0, Nat.zero_le _, rfl, rfl, rfl, rfl, rfl, rfl, rfl, rfl, rfl⟩
  rintro m ts hh mk ih ⟨i, hi, rfl, hall, hl', q0, q1, q7, q8, rfl, rfl⟩
  rw [lit_all hl']
  simp only [lit0, litS, Nat.reduceAdd, q0, q1, q7, q8]
  simp (disch := first | assumption | omega | (simp only [az]; done)) only [ru, eq_self, if_true, if_false, BEq.rfl, binI, AO.row?, splice, fillL, mmAll, loadV, storeV, zeros, Am.rowAt, Am.part, addOff, Nat.reduceAdd, Nat.reduceMul, Nat.reduceLeDiff, Nat.reduceSub, Nat.reduceLT, Int.reduceEq, Int.reduceLT, Int.reduceLE, Int.reduceGT, Int.reduceGE, Int.reduceAdd, Int.reduceSub, Int.reduceMul, Int.reduceNeg, Int.reduceToNat, reduceCtorEq, reduceIte]
  by_cases hlt : (i : Int) < L.length
  case pos =>
    have hi' : i < L.length := by omega
    have nx := any_upto_succ (d := 0) hi' hall
    have ya := any_at (d := 0) (q := q) hi'
    obtain ⟨x, hx⟩ : ∃ x, x = L.getD i 0 := ⟨_, rfl⟩
    have hr := hq x
    rw [← hx] at nx ya
    cases hc : q x
    · rw [hc] at hr
      simp (disch := first | assumption | omega | (simp only [az]; done)) only [ru, eq_self, if_true, if_false, BEq.rfl, binI, AO.row?, splice, fillL, mmAll, loadV, storeV, zeros, Am.rowAt, Am.part, addOff, Nat.reduceAdd, Nat.reduceMul, Nat.reduceLeDiff, Nat.reduceSub, Nat.reduceLT, Int.reduceEq, Int.reduceLT, Int.reduceLE, Int.reduceGT, Int.reduceGE, Int.reduceAdd, Int.reduceSub, Int.reduceMul, Int.reduceNeg, Int.reduceToNat, reduceCtorEq, reduceIte, hlt, ep, Int.toNat_natCast, ← hx, exOp_callv1, List.nil_append, List.cons_append, hr]
      exact ih (L.length - (i + 1)) _ _ _ (by omega) ⟨i + 1, by omega, rfl, nx hc, rfl, rfl, rfl, rfl, rfl, rfl, rfl⟩
    · rw [hc] at hr
      simp (disch := first | assumption | omega | (simp only [az]; done)) only [ru, eq_self, if_true, if_false, BEq.rfl, binI, AO.row?, splice, fillL, mmAll, loadV, storeV, zeros, Am.rowAt, Am.part, addOff, Nat.reduceAdd, Nat.reduceMul, Nat.reduceLeDiff, Nat.reduceSub, Nat.reduceLT, Int.reduceEq, Int.reduceLT, Int.reduceLE, Int.reduceGT, Int.reduceGE, Int.reduceAdd, Int.reduceSub, Int.reduceMul, Int.reduceNeg, Int.reduceToNat, reduceCtorEq, reduceIte, hlt, ep, Int.toNat_natCast, ← hx, exOp_callv1, List.nil_append, List.cons_append, hr]
      exact ⟨i, rfl, by rw [ya hc]; simp⟩
  obtain rfl : i = L.length := by omega
  rw [List.take_length] at hall
  simp (disch := first | assumption | omega | (simp only [az]; done)) only [ru, eq_self, if_true, if_false, BEq.rfl, binI, AO.row?, splice, fillL, mmAll, loadV, storeV, zeros, Am.rowAt, Am.part, addOff, Nat.reduceAdd, Nat.reduceMul, Nat.reduceLeDiff, Nat.reduceSub, Nat.reduceLT, Int.reduceEq, Int.reduceLT, Int.reduceLE, Int.reduceGT, Int.reduceGE, Int.reduceAdd, Int.reduceSub, Int.reduceMul, Int.reduceNeg, Int.reduceToNat, reduceCtorEq, reduceIte, hlt]
  exact ⟨-1, rfl, by rw [hall]; decide⟩
theorem s109 {L : List Int} {v : AV} (H : IsSl 1 intL L v) (hl : L.length ≤ 41) {q : Int → Bool} {k : Nat} {cap : List AV} {h : List AO} (hq : ∀ x : Int, Ro E k (I x :: cap) h = some (Bo (q x))) : Ro E 79 [v, .fn k [] cap] h = some (Bo (L.any q)) := by
  obtain ⟨j, hr, hj⟩ := s116 H hl hq
  refine Ro_of (es _ _ _ _) e79 ?_
  simp only [f79]
  simp (disch := first | assumption | omega | (simp only [az]; done)) only [ru, eq_self, if_true, if_false, BEq.rfl, binI, AO.row?, splice, fillL, mmAll, loadV, storeV, zeros, Am.rowAt, Am.part, addOff, Nat.reduceAdd, Nat.reduceMul, Nat.reduceLeDiff, Nat.reduceSub, Nat.reduceLT, Int.reduceEq, Int.reduceLT, Int.reduceLE, Int.reduceGT, Int.reduceGE, Int.reduceAdd, Int.reduceSub, Int.reduceMul, Int.reduceNeg, Int.reduceToNat, reduceCtorEq, reduceIte, hr]
  rw [hj]; exact ⟨rfl, rfl⟩
theorem s96 {L : List Int} {v : AV} (H : IsSl 1 intL L v) (hl : L.length ≤ 41) {q : Int → Bool} {c : Nat} {cap : List AV} {h : List AO} (hq : ∀ (x : Int) X, Ro E c (I x :: cap) (h ++ X) = some (Bo (q x))) : Ro E 67 [v, .fn c [] cap] h = some (Bo (L.all q)) := by
  have hr := s109 H hl (q := fun x => !q x) (k := 80) (cap := [.ptr h.length 0]) (h := h ++ [.cells [.fn c [] cap] false]) fun x => s110 x atE fun X => by rw [List.append_assoc]; exact hq x _
  have e : (!L.any fun x => !q x) = L.all q := any_all
  refine Ro_of (es _ _ _ _) e67 ?_
  simp only [f67]
  simp (disch := first | assumption | omega | (simp only [az]; done)) only [ru, eq_self, if_true, if_false, BEq.rfl, binI, AO.row?, splice, fillL, mmAll, loadV, storeV, zeros, Am.rowAt, Am.part, addOff, Nat.reduceAdd, Nat.reduceMul, Nat.reduceLeDiff, Nat.reduceSub, Nat.reduceLT, Int.reduceEq, Int.reduceLT, Int.reduceLE, Int.reduceGT, Int.reduceGE, Int.reduceAdd, Int.reduceSub, Int.reduceMul, Int.reduceNeg, Int.reduceToNat, reduceCtorEq, reduceIte, lenV_sl H, view_sl H, scalar_sl H, cells_sl H, pure_sl H, hr, e]
  rfl

section
variable {h : Hs} {k p b : AV}
set_option maxHeartbeats 1000000 in
theorem s65 (H : HsOk h k p b) (st : Bool) : Iso E 45 [hsV h.fl k p b] st = some (Bo h.valid) := by
  have n1 := H.nk; have n2 := H.np; have n3 := H.nb
  have a1 := s94 H.k H.nk (q := kdOk) (c := 61) (cap := []) (h := [.cells [k, I h.fl, p, b] false]) fun x X => s91 x _
  have a2 := s95 H.p H.np (q := prOk h.ks.length) (c := 63) (cap := [.ptr 0 0]) (h := [.cells [k, I h.fl, p, b] false]) fun x X => s92 H.k H.nk x rfl
  have a3 := s96 H.b H.nb (q := fun b => inR b 0 99) (c := 64) (cap := []) (h := [.cells [k, I h.fl, p, b] false]) fun x X => s93 x _
  refine Iso_of (es _ _ _ _) e45 ?_
  simp only [f45, hsV, Hs.valid]
  by_cases c1 : (h.ks.length : Int) ≤ 3
  case neg =>
    have c1' : ¬ h.ks.length ≤ 3 := by omega
    simp (disch := first | assumption | omega | (simp only [az]; done)) only [ru, eq_self, if_true, if_false, BEq.rfl, binI, AO.row?, splice, fillL, mmAll, loadV, storeV, zeros, Am.rowAt, Am.part, addOff, Nat.reduceAdd, Nat.reduceMul, Nat.reduceLeDiff, Nat.reduceSub, Nat.reduceLT, Int.reduceEq, Int.reduceLT, Int.reduceLE, Int.reduceGT, Int.reduceGE, Int.reduceAdd, Int.reduceSub, Int.reduceMul, Int.reduceNeg, Int.reduceToNat, reduceCtorEq, reduceIte, lenV_sl H.k, lenV_sl H.p, lenV_sl H.b, elem_kd H.k, elem_pr H.p, elem_in H.b, view_sl H.k, view_sl H.p, view_sl H.b, scalar_sl H.k, scalar_sl H.p, scalar_sl H.b, cells_sl H.k, cells_sl H.p, cells_sl H.b, pure_sl H.k, pure_sl H.p, pure_sl H.b, Int.toNat_natCast, c1, c1', decide_false, gUn, Bool.false_and]
  have c1' : h.ks.length ≤ 3 := by omega
  cases c2 : h.ks.all kdOk
  · rw [c2] at a1
    simp (disch := first | assumption | omega | (simp only [az]; done)) only [ru, eq_self, if_true, if_false, BEq.rfl, binI, AO.row?, splice, fillL, mmAll, loadV, storeV, zeros, Am.rowAt, Am.part, addOff, Nat.reduceAdd, Nat.reduceMul, Nat.reduceLeDiff, Nat.reduceSub, Nat.reduceLT, Int.reduceEq, Int.reduceLT, Int.reduceLE, Int.reduceGT, Int.reduceGE, Int.reduceAdd, Int.reduceSub, Int.reduceMul, Int.reduceNeg, Int.reduceToNat, reduceCtorEq, reduceIte, lenV_sl H.k, lenV_sl H.p, lenV_sl H.b, elem_kd H.k, elem_pr H.p, elem_in H.b, view_sl H.k, view_sl H.p, view_sl H.b, scalar_sl H.k, scalar_sl H.p, scalar_sl H.b, cells_sl H.k, cells_sl H.p, cells_sl H.b, pure_sl H.k, pure_sl H.p, pure_sl H.b, Int.toNat_natCast, c1, c1', a1, decide_false, decide_true, gUn, Bool.false_and, Bool.and_false]
  rw [c2] at a1
  cases c3 : inR h.fl 0 9
  · simp (disch := first | assumption | omega | (simp only [az]; done)) only [ru, eq_self, if_true, if_false, BEq.rfl, binI, AO.row?, splice, fillL, mmAll, loadV, storeV, zeros, Am.rowAt, Am.part, addOff, Nat.reduceAdd, Nat.reduceMul, Nat.reduceLeDiff, Nat.reduceSub, Nat.reduceLT, Int.reduceEq, Int.reduceLT, Int.reduceLE, Int.reduceGT, Int.reduceGE, Int.reduceAdd, Int.reduceSub, Int.reduceMul, Int.reduceNeg, Int.reduceToNat, reduceCtorEq, reduceIte, lenV_sl H.k, lenV_sl H.p, lenV_sl H.b, elem_kd H.k, elem_pr H.p, elem_in H.b, view_sl H.k, view_sl H.p, view_sl H.b, scalar_sl H.k, scalar_sl H.p, scalar_sl H.b, cells_sl H.k, cells_sl H.p, cells_sl H.b, pure_sl H.k, pure_sl H.p, pure_sl H.b, Int.toNat_natCast, c1, c1', a1, s83, c3, decide_false, decide_true, gUn, Bool.false_and, Bool.and_false]
  by_cases c4 : (h.ps.length : Int) ≤ 6
  case neg =>
    have c4' : ¬ h.ps.length ≤ 6 := by omega
    simp (disch := first | assumption | omega | (simp only [az]; done)) only [ru, eq_self, if_true, if_false, BEq.rfl, binI, AO.row?, splice, fillL, mmAll, loadV, storeV, zeros, Am.rowAt, Am.part, addOff, Nat.reduceAdd, Nat.reduceMul, Nat.reduceLeDiff, Nat.reduceSub, Nat.reduceLT, Int.reduceEq, Int.reduceLT, Int.reduceLE, Int.reduceGT, Int.reduceGE, Int.reduceAdd, Int.reduceSub, Int.reduceMul, Int.reduceNeg, Int.reduceToNat, reduceCtorEq, reduceIte, lenV_sl H.k, lenV_sl H.p, lenV_sl H.b, elem_kd H.k, elem_pr H.p, elem_in H.b, view_sl H.k, view_sl H.p, view_sl H.b, scalar_sl H.k, scalar_sl H.p, scalar_sl H.b, cells_sl H.k, cells_sl H.p, cells_sl H.b, pure_sl H.k, pure_sl H.p, pure_sl H.b, Int.toNat_natCast, c1, c1', a1, s83, c3, c4, c4', decide_false, decide_true, gUn, Bool.false_and, Bool.and_false]
  have c4' : h.ps.length ≤ 6 := by omega
  cases c5 : h.ps.all (prOk h.ks.length)
  · rw [c5] at a2
    simp (disch := first | assumption | omega | (simp only [az]; done)) only [ru, eq_self, if_true, if_false, BEq.rfl, binI, AO.row?, splice, fillL, mmAll, loadV, storeV, zeros, Am.rowAt, Am.part, addOff, Nat.reduceAdd, Nat.reduceMul, Nat.reduceLeDiff, Nat.reduceSub, Nat.reduceLT, Int.reduceEq, Int.reduceLT, Int.reduceLE, Int.reduceGT, Int.reduceGE, Int.reduceAdd, Int.reduceSub, Int.reduceMul, Int.reduceNeg, Int.reduceToNat, reduceCtorEq, reduceIte, lenV_sl H.k, lenV_sl H.p, lenV_sl H.b, elem_kd H.k, elem_pr H.p, elem_in H.b, view_sl H.k, view_sl H.p, view_sl H.b, scalar_sl H.k, scalar_sl H.p, scalar_sl H.b, cells_sl H.k, cells_sl H.p, cells_sl H.b, pure_sl H.k, pure_sl H.p, pure_sl H.b, Int.toNat_natCast, c1, c1', a1, s83, c3, c4, c4', a2, decide_false, decide_true, gUn, Bool.false_and, Bool.and_false]
  rw [c5] at a2
  by_cases c6 : (h.bs.length : Int) ≤ 4
  case neg =>
    have c6' : ¬ h.bs.length ≤ 4 := by omega
    simp (disch := first | assumption | omega | (simp only [az]; done)) only [ru, eq_self, if_true, if_false, BEq.rfl, binI, AO.row?, splice, fillL, mmAll, loadV, storeV, zeros, Am.rowAt, Am.part, addOff, Nat.reduceAdd, Nat.reduceMul, Nat.reduceLeDiff, Nat.reduceSub, Nat.reduceLT, Int.reduceEq, Int.reduceLT, Int.reduceLE, Int.reduceGT, Int.reduceGE, Int.reduceAdd, Int.reduceSub, Int.reduceMul, Int.reduceNeg, Int.reduceToNat, reduceCtorEq, reduceIte, lenV_sl H.k, lenV_sl H.p, lenV_sl H.b, elem_kd H.k, elem_pr H.p, elem_in H.b, view_sl H.k, view_sl H.p, view_sl H.b, scalar_sl H.k, scalar_sl H.p, scalar_sl H.b, cells_sl H.k, cells_sl H.p, cells_sl H.b, pure_sl H.k, pure_sl H.p, pure_sl H.b, Int.toNat_natCast, c1, c1', a1, s83, c3, c4, c4', a2, c6, c6', decide_false, decide_true, gUn, Bool.false_and, Bool.and_false]
  have c6' : h.bs.length ≤ 4 := by omega
  simp (disch := first | assumption | omega | (simp only [az]; done)) only [ru, eq_self, if_true, if_false, BEq.rfl, binI, AO.row?, splice, fillL, mmAll, loadV, storeV, zeros, Am.rowAt, Am.part, addOff, Nat.reduceAdd, Nat.reduceMul, Nat.reduceLeDiff, Nat.reduceSub, Nat.reduceLT, Int.reduceEq, Int.reduceLT, Int.reduceLE, Int.reduceGT, Int.reduceGE, Int.reduceAdd, Int.reduceSub, Int.reduceMul, Int.reduceNeg, Int.reduceToNat, reduceCtorEq, reduceIte, lenV_sl H.k, lenV_sl H.p, lenV_sl H.b, elem_kd H.k, elem_pr H.p, elem_in H.b, view_sl H.k, view_sl H.p, view_sl H.b, scalar_sl H.k, scalar_sl H.p, scalar_sl H.b, cells_sl H.k, cells_sl H.p, cells_sl H.b, pure_sl H.k, pure_sl H.p, pure_sl H.b, Int.toNat_natCast, c1, c1', a1, s83, c3, c4, c4', a2, c6, c6', a3, decide_false, decide_true, gUn, Bool.true_and, Bool.and_self]
/-- the error of a house -/
def vE (v : Bool) : Int := if v then 0 else 80
theorem s19 (H : HsOk h k p b) (st : Bool) : Iso E 34 [hsV h.fl k p b] st = some (I (vE h.valid)) := by
  have a := fun st => s65 H st
  simp only [hsV] at a
  refine Iso_of (es _ _ _ _) e34 ?_
  simp only [f34, hsV, vE]
  cases c : h.valid <;> simp (disch := first | assumption | omega | (simp only [az]; done)) only [ru, eq_self, if_true, if_false, BEq.rfl, binI, AO.row?, splice, fillL, mmAll, loadV, storeV, zeros, Am.rowAt, Am.part, addOff, Nat.reduceAdd, Nat.reduceMul, Nat.reduceLeDiff, Nat.reduceSub, Nat.reduceLT, Int.reduceEq, Int.reduceLT, Int.reduceLE, Int.reduceGT, Int.reduceGE, Int.reduceAdd, Int.reduceSub, Int.reduceMul, Int.reduceNeg, Int.reduceToNat, reduceCtorEq, reduceIte, lenV_sl H.k, lenV_sl H.p, lenV_sl H.b, elem_kd H.k, elem_pr H.p, elem_in H.b, view_sl H.k, view_sl H.p, view_sl H.b, scalar_sl H.k, scalar_sl H.p, scalar_sl H.b, cells_sl H.k, cells_sl H.p, cells_sl H.b, pure_sl H.k, pure_sl H.p, pure_sl H.b, Int.toNat_natCast, a, c, Bool.not_true, Bool.not_false]
end
end Go.Proofs.Ytaffjmjahenoaaa.A

/-
The specification's small functions: what is valid, what is in a barrel, what a packing is.
-/
namespace Go.Proofs.Ytaffjmjahenoaaa.A
open Go Go.Am Go.Proofs.Ytaffjmjahenoaaa.T
set_option maxRecDepth 100000
set_option linter.unusedSimpArgs false
set_option linter.unusedVariables false

section
variable {h : Hs} {k p b : AV}
set_option maxHeartbeats 4000000 in
theorem s20 (H : HsOk h k p b) (st : Bool) : Iso E 7 [hsV h.fl k p b] st = some (I (vE h.valid)) := by
  have n1 := H.nk; have n2 := H.np; have n3 := H.nb
  refine Iso_of (es _ _ _ _) e7 ?_
  simp only [f7, hsV]
  have bad : h.valid = false → vE h.valid = 80 := fun e => by rw [e]; rfl
  by_cases c1 : (h.ks.length : Int) > 3
  · have c1' : h.valid = false := by simp only [Hs.valid]; rw [decide_eq_false (show ¬ h.ks.length ≤ 3 by omega)]; simp
    simp (disch := first | assumption | omega | (simp only [az]; done)) only [ru, eq_self, if_true, if_false, BEq.rfl, binI, AO.row?, splice, fillL, mmAll, loadV, storeV, zeros, Am.rowAt, Am.part, addOff, Nat.reduceAdd, Nat.reduceMul, Nat.reduceLeDiff, Nat.reduceSub, Nat.reduceLT, Int.reduceEq, Int.reduceLT, Int.reduceLE, Int.reduceGT, Int.reduceGE, Int.reduceAdd, Int.reduceSub, Int.reduceMul, Int.reduceNeg, Int.reduceToNat, reduceCtorEq, reduceIte, lenV_sl H.k, lenV_sl H.p, lenV_sl H.b, elem_kd H.k, elem_pr H.p, elem_in H.b, view_sl H.k, view_sl H.p, view_sl H.b, scalar_sl H.k, scalar_sl H.p, scalar_sl H.b, cells_sl H.k, cells_sl H.p, cells_sl H.b, pure_sl H.k, pure_sl H.p, pure_sl H.b, Int.toNat_natCast, c1, bad c1', decide_true, gUn]
  have d1 : h.ks.length ≤ 3 := by omega
  cases c2 : inR h.fl 0 9
  · have c2' : h.valid = false := by simp only [Hs.valid, c2]; simp
    simp (disch := first | assumption | omega | (simp only [az]; done)) only [ru, eq_self, if_true, if_false, BEq.rfl, binI, AO.row?, splice, fillL, mmAll, loadV, storeV, zeros, Am.rowAt, Am.part, addOff, Nat.reduceAdd, Nat.reduceMul, Nat.reduceLeDiff, Nat.reduceSub, Nat.reduceLT, Int.reduceEq, Int.reduceLT, Int.reduceLE, Int.reduceGT, Int.reduceGE, Int.reduceAdd, Int.reduceSub, Int.reduceMul, Int.reduceNeg, Int.reduceToNat, reduceCtorEq, reduceIte, lenV_sl H.k, lenV_sl H.p, lenV_sl H.b, elem_kd H.k, elem_pr H.p, elem_in H.b, view_sl H.k, view_sl H.p, view_sl H.b, scalar_sl H.k, scalar_sl H.p, scalar_sl H.b, cells_sl H.k, cells_sl H.p, cells_sl H.b, pure_sl H.k, pure_sl H.p, pure_sl H.b, Int.toNat_natCast, c1, s66, c2, bad c2', decide_true, decide_false, Bool.not_false, gUn]
  by_cases c3 : (h.ps.length : Int) > 6
  · have c3' : h.valid = false := by simp only [Hs.valid]; rw [decide_eq_false (show ¬ h.ps.length ≤ 6 by omega)]; simp
    simp (disch := first | assumption | omega | (simp only [az]; done)) only [ru, eq_self, if_true, if_false, BEq.rfl, binI, AO.row?, splice, fillL, mmAll, loadV, storeV, zeros, Am.rowAt, Am.part, addOff, Nat.reduceAdd, Nat.reduceMul, Nat.reduceLeDiff, Nat.reduceSub, Nat.reduceLT, Int.reduceEq, Int.reduceLT, Int.reduceLE, Int.reduceGT, Int.reduceGE, Int.reduceAdd, Int.reduceSub, Int.reduceMul, Int.reduceNeg, Int.reduceToNat, reduceCtorEq, reduceIte, lenV_sl H.k, lenV_sl H.p, lenV_sl H.b, elem_kd H.k, elem_pr H.p, elem_in H.b, view_sl H.k, view_sl H.p, view_sl H.b, scalar_sl H.k, scalar_sl H.p, scalar_sl H.b, cells_sl H.k, cells_sl H.p, cells_sl H.b, pure_sl H.k, pure_sl H.p, pure_sl H.b, Int.toNat_natCast, c1, s66, c2, c3, bad c3', decide_true, decide_false, Bool.not_false, Bool.not_true, gUn]
  have d3 : h.ps.length ≤ 6 := by omega
  by_cases c4 : (h.bs.length : Int) > 4
  · have c4' : h.valid = false := by simp only [Hs.valid]; rw [decide_eq_false (show ¬ h.bs.length ≤ 4 by omega)]; simp
    simp (disch := first | assumption | omega | (simp only [az]; done)) only [ru, eq_self, if_true, if_false, BEq.rfl, binI, AO.row?, splice, fillL, mmAll, loadV, storeV, zeros, Am.rowAt, Am.part, addOff, Nat.reduceAdd, Nat.reduceMul, Nat.reduceLeDiff, Nat.reduceSub, Nat.reduceLT, Int.reduceEq, Int.reduceLT, Int.reduceLE, Int.reduceGT, Int.reduceGE, Int.reduceAdd, Int.reduceSub, Int.reduceMul, Int.reduceNeg, Int.reduceToNat, reduceCtorEq, reduceIte, lenV_sl H.k, lenV_sl H.p, lenV_sl H.b, elem_kd H.k, elem_pr H.p, elem_in H.b, view_sl H.k, view_sl H.p, view_sl H.b, scalar_sl H.k, scalar_sl H.p, scalar_sl H.b, cells_sl H.k, cells_sl H.p, cells_sl H.b, pure_sl H.k, pure_sl H.p, pure_sl H.b, Int.toNat_natCast, c1, s66, c2, c3, c4, bad c4', decide_true, decide_false, Bool.not_false, Bool.not_true, gUn]
  have d4 : h.bs.length ≤ 4 := by omega
  simp (disch := first | assumption | omega | (simp only [az]; done)) only [ru, eq_self, if_true, if_false, BEq.rfl, binI, AO.row?, splice, fillL, mmAll, loadV, storeV, zeros, Am.rowAt, Am.part, addOff, Nat.reduceAdd, Nat.reduceMul, Nat.reduceLeDiff, Nat.reduceSub, Nat.reduceLT, Int.reduceEq, Int.reduceLT, Int.reduceLE, Int.reduceGT, Int.reduceGE, Int.reduceAdd, Int.reduceSub, Int.reduceMul, Int.reduceNeg, Int.reduceToNat, reduceCtorEq, reduceIte, lenV_sl H.k, lenV_sl H.p, lenV_sl H.b, elem_kd H.k, elem_pr H.p, elem_in H.b, view_sl H.k, view_sl H.p, view_sl H.b, scalar_sl H.k, scalar_sl H.p, scalar_sl H.b, cells_sl H.k, cells_sl H.p, cells_sl H.b, pure_sl H.k, pure_sl H.p, pure_sl H.b, Int.toNat_natCast, c1, s66, c2, c3, c4, decide_true, decide_false, Bool.not_false, Bool.not_true, gUn]
  have ek : h.valid = (h.ks.all kdOk && h.ps.all (prOk h.ks.length) && h.bs.all (fun b => inR b 0 99)) := by
    simp only [Hs.valid, c2, d1, d3, d4, decide_true, Bool.true_and, Bool.and_true]
  refine G_loop_ind (fun m ts hh mk => ∃ i : Nat, i ≤ h.ks.length ∧ m = h.ks.length - i ∧ (h.ks.take i).all kdOk = true ∧ ts.length = 96 ∧ ts.getD 1 .undef = .ptr 0 0 ∧ ts.getD 3 .undef = I i ∧ hh = [.cells [k, I h.fl, p, b] false] ∧ mk = []) ?_ _ _ _ _ ⟨0, Nat.zero_le _, rfl, rfl, rfl, rfl, rfl, rfl, rfl⟩
  rintro m ts hh mk ih ⟨i, hi', rfl, hall, hl', q1, q3, rfl, rfl⟩
  rw [lit_all hl']
  simp only [lit0, litS, Nat.reduceAdd, q1, q3]
  simp (disch := first | assumption | omega | (simp only [az]; done)) only [ru, eq_self, if_true, if_false, BEq.rfl, binI, AO.row?, splice, fillL, mmAll, loadV, storeV, zeros, Am.rowAt, Am.part, addOff, Nat.reduceAdd, Nat.reduceMul, Nat.reduceLeDiff, Nat.reduceSub, Nat.reduceLT, Int.reduceEq, Int.reduceLT, Int.reduceLE, Int.reduceGT, Int.reduceGE, Int.reduceAdd, Int.reduceSub, Int.reduceMul, Int.reduceNeg, Int.reduceToNat, reduceCtorEq, reduceIte, lenV_sl H.k, lenV_sl H.p, lenV_sl H.b, elem_kd H.k, elem_pr H.p, elem_in H.b, view_sl H.k, view_sl H.p, view_sl H.b, scalar_sl H.k, scalar_sl H.p, scalar_sl H.b, cells_sl H.k, cells_sl H.p, cells_sl H.b, pure_sl H.k, pure_sl H.p, pure_sl H.b, Int.toNat_natCast]
  by_cases hlt : (i : Int) < h.ks.length
  case pos =>
    have hi2 : i < h.ks.length := by omega
    have no := fun hp => all_not (p := kdOk) hi2 rfl hp
    have nx := fun hp => all_upto_succ (p := kdOk) hi2 rfl hall hp
    obtain ⟨x, hx⟩ : ∃ x, x = h.ks.getD i default := ⟨_, rfl⟩
    rw [← hx] at no nx
    cases a1 : inR x.s 0 9
    · have ev : h.valid = false := by rw [ek, no (by simp only [kdOk, a1, Bool.false_and])]; rfl
      simp (disch := first | assumption | omega | (simp only [az]; done)) only [ru, eq_self, if_true, if_false, BEq.rfl, binI, AO.row?, splice, fillL, mmAll, loadV, storeV, zeros, Am.rowAt, Am.part, addOff, Nat.reduceAdd, Nat.reduceMul, Nat.reduceLeDiff, Nat.reduceSub, Nat.reduceLT, Int.reduceEq, Int.reduceLT, Int.reduceLE, Int.reduceGT, Int.reduceGE, Int.reduceAdd, Int.reduceSub, Int.reduceMul, Int.reduceNeg, Int.reduceToNat, reduceCtorEq, reduceIte, lenV_sl H.k, lenV_sl H.p, lenV_sl H.b, elem_kd H.k, elem_pr H.p, elem_in H.b, view_sl H.k, view_sl H.p, view_sl H.b, scalar_sl H.k, scalar_sl H.p, scalar_sl H.b, cells_sl H.k, cells_sl H.p, cells_sl H.b, pure_sl H.k, pure_sl H.p, pure_sl H.b, Int.toNat_natCast, hlt, ← hx, s66, a1, bad ev, gUn, Bool.not_false]
      done
    cases a2 : inR x.d 0 20
    · have ev : h.valid = false := by rw [ek, no (by simp only [kdOk, a1, a2, Bool.true_and])]; rfl
      simp (disch := first | assumption | omega | (simp only [az]; done)) only [ru, eq_self, if_true, if_false, BEq.rfl, binI, AO.row?, splice, fillL, mmAll, loadV, storeV, zeros, Am.rowAt, Am.part, addOff, Nat.reduceAdd, Nat.reduceMul, Nat.reduceLeDiff, Nat.reduceSub, Nat.reduceLT, Int.reduceEq, Int.reduceLT, Int.reduceLE, Int.reduceGT, Int.reduceGE, Int.reduceAdd, Int.reduceSub, Int.reduceMul, Int.reduceNeg, Int.reduceToNat, reduceCtorEq, reduceIte, lenV_sl H.k, lenV_sl H.p, lenV_sl H.b, elem_kd H.k, elem_pr H.p, elem_in H.b, view_sl H.k, view_sl H.p, view_sl H.b, scalar_sl H.k, scalar_sl H.p, scalar_sl H.b, cells_sl H.k, cells_sl H.p, cells_sl H.b, pure_sl H.k, pure_sl H.p, pure_sl H.b, Int.toNat_natCast, hlt, ← hx, s66, a1, a2, bad ev, gUn, Bool.not_false, Bool.not_true]
      done
    simp (disch := first | assumption | omega | (simp only [az]; done)) only [ru, eq_self, if_true, if_false, BEq.rfl, binI, AO.row?, splice, fillL, mmAll, loadV, storeV, zeros, Am.rowAt, Am.part, addOff, Nat.reduceAdd, Nat.reduceMul, Nat.reduceLeDiff, Nat.reduceSub, Nat.reduceLT, Int.reduceEq, Int.reduceLT, Int.reduceLE, Int.reduceGT, Int.reduceGE, Int.reduceAdd, Int.reduceSub, Int.reduceMul, Int.reduceNeg, Int.reduceToNat, reduceCtorEq, reduceIte, lenV_sl H.k, lenV_sl H.p, lenV_sl H.b, elem_kd H.k, elem_pr H.p, elem_in H.b, view_sl H.k, view_sl H.p, view_sl H.b, scalar_sl H.k, scalar_sl H.p, scalar_sl H.b, cells_sl H.k, cells_sl H.p, cells_sl H.b, pure_sl H.k, pure_sl H.p, pure_sl H.b, Int.toNat_natCast, hlt, ← hx, s66, a1, a2, gUn, Bool.not_false, Bool.not_true]
    exact ih (h.ks.length - (i + 1)) _ _ _ (by omega) ⟨i + 1, by omega, rfl, nx (by simp only [kdOk, a1, a2, Bool.true_and]), rfl, rfl, rfl, rfl, rfl⟩
  obtain rfl : i = h.ks.length := by omega
  rw [List.take_length] at hall
  simp (disch := first | assumption | omega | (simp only [az]; done)) only [ru, eq_self, if_true, if_false, BEq.rfl, binI, AO.row?, splice, fillL, mmAll, loadV, storeV, zeros, Am.rowAt, Am.part, addOff, Nat.reduceAdd, Nat.reduceMul, Nat.reduceLeDiff, Nat.reduceSub, Nat.reduceLT, Int.reduceEq, Int.reduceLT, Int.reduceLE, Int.reduceGT, Int.reduceGE, Int.reduceAdd, Int.reduceSub, Int.reduceMul, Int.reduceNeg, Int.reduceToNat, reduceCtorEq, reduceIte, hlt]
  clear ih hl' q1 q3
  have ek2 : h.valid = (h.ps.all (prOk h.ks.length) && h.bs.all (fun b => inR b 0 99)) := by rw [ek, hall, Bool.true_and]
  refine G_loop_ind (fun m ts hh mk => ∃ i : Nat, i ≤ h.ps.length ∧ m = h.ps.length - i ∧ (h.ps.take i).all (prOk h.ks.length) = true ∧ ts.length = 96 ∧ ts.getD 1 .undef = .ptr 0 0 ∧ ts.getD 4 .undef = I i ∧ hh = [.cells [k, I h.fl, p, b] false] ∧ mk = []) ?_ _ _ _ _ ⟨0, Nat.zero_le _, rfl, rfl, rfl, rfl, rfl, rfl, rfl⟩
  rintro m ts hh mk ih ⟨i, hi', rfl, hall2, hl', q1, q4, rfl, rfl⟩
  rw [lit_all hl']
  simp only [lit0, litS, Nat.reduceAdd, q1, q4]
  simp (disch := first | assumption | omega | (simp only [az]; done)) only [ru, eq_self, if_true, if_false, BEq.rfl, binI, AO.row?, splice, fillL, mmAll, loadV, storeV, zeros, Am.rowAt, Am.part, addOff, Nat.reduceAdd, Nat.reduceMul, Nat.reduceLeDiff, Nat.reduceSub, Nat.reduceLT, Int.reduceEq, Int.reduceLT, Int.reduceLE, Int.reduceGT, Int.reduceGE, Int.reduceAdd, Int.reduceSub, Int.reduceMul, Int.reduceNeg, Int.reduceToNat, reduceCtorEq, reduceIte, lenV_sl H.k, lenV_sl H.p, lenV_sl H.b, elem_kd H.k, elem_pr H.p, elem_in H.b, view_sl H.k, view_sl H.p, view_sl H.b, scalar_sl H.k, scalar_sl H.p, scalar_sl H.b, cells_sl H.k, cells_sl H.p, cells_sl H.b, pure_sl H.k, pure_sl H.p, pure_sl H.b, Int.toNat_natCast]
  by_cases hlt2 : (i : Int) < h.ps.length
  case pos =>
    have hi2 : i < h.ps.length := by omega
    have no := fun hp => all_not (p := prOk h.ks.length) hi2 rfl hp
    have nx := fun hp => all_upto_succ (p := prOk h.ks.length) hi2 rfl hall2 hp
    obtain ⟨x, hx⟩ : ∃ x, x = h.ps.getD i default := ⟨_, rfl⟩
    rw [← hx] at no nx
    cases a1 : inR x.k 0 (h.ks.length - 1)
    · have ev : h.valid = false := by rw [ek2, no (by simp only [prOk, a1, Bool.false_and])]; rfl
      simp (disch := first | assumption | omega | (simp only [az]; done)) only [ru, eq_self, if_true, if_false, BEq.rfl, binI, AO.row?, splice, fillL, mmAll, loadV, storeV, zeros, Am.rowAt, Am.part, addOff, Nat.reduceAdd, Nat.reduceMul, Nat.reduceLeDiff, Nat.reduceSub, Nat.reduceLT, Int.reduceEq, Int.reduceLT, Int.reduceLE, Int.reduceGT, Int.reduceGE, Int.reduceAdd, Int.reduceSub, Int.reduceMul, Int.reduceNeg, Int.reduceToNat, reduceCtorEq, reduceIte, lenV_sl H.k, lenV_sl H.p, lenV_sl H.b, elem_kd H.k, elem_pr H.p, elem_in H.b, view_sl H.k, view_sl H.p, view_sl H.b, scalar_sl H.k, scalar_sl H.p, scalar_sl H.b, cells_sl H.k, cells_sl H.p, cells_sl H.b, pure_sl H.k, pure_sl H.p, pure_sl H.b, Int.toNat_natCast, hlt2, ← hx, s66, a1, bad ev, gUn, Bool.not_false]
      done
    cases a2 : inR x.p 0 40
    · have ev : h.valid = false := by rw [ek2, no (by simp only [prOk, a1, a2, Bool.true_and])]; rfl
      simp (disch := first | assumption | omega | (simp only [az]; done)) only [ru, eq_self, if_true, if_false, BEq.rfl, binI, AO.row?, splice, fillL, mmAll, loadV, storeV, zeros, Am.rowAt, Am.part, addOff, Nat.reduceAdd, Nat.reduceMul, Nat.reduceLeDiff, Nat.reduceSub, Nat.reduceLT, Int.reduceEq, Int.reduceLT, Int.reduceLE, Int.reduceGT, Int.reduceGE, Int.reduceAdd, Int.reduceSub, Int.reduceMul, Int.reduceNeg, Int.reduceToNat, reduceCtorEq, reduceIte, lenV_sl H.k, lenV_sl H.p, lenV_sl H.b, elem_kd H.k, elem_pr H.p, elem_in H.b, view_sl H.k, view_sl H.p, view_sl H.b, scalar_sl H.k, scalar_sl H.p, scalar_sl H.b, cells_sl H.k, cells_sl H.p, cells_sl H.b, pure_sl H.k, pure_sl H.p, pure_sl H.b, Int.toNat_natCast, hlt2, ← hx, s66, a1, a2, bad ev, gUn, Bool.not_false, Bool.not_true]
      done
    simp (disch := first | assumption | omega | (simp only [az]; done)) only [ru, eq_self, if_true, if_false, BEq.rfl, binI, AO.row?, splice, fillL, mmAll, loadV, storeV, zeros, Am.rowAt, Am.part, addOff, Nat.reduceAdd, Nat.reduceMul, Nat.reduceLeDiff, Nat.reduceSub, Nat.reduceLT, Int.reduceEq, Int.reduceLT, Int.reduceLE, Int.reduceGT, Int.reduceGE, Int.reduceAdd, Int.reduceSub, Int.reduceMul, Int.reduceNeg, Int.reduceToNat, reduceCtorEq, reduceIte, lenV_sl H.k, lenV_sl H.p, lenV_sl H.b, elem_kd H.k, elem_pr H.p, elem_in H.b, view_sl H.k, view_sl H.p, view_sl H.b, scalar_sl H.k, scalar_sl H.p, scalar_sl H.b, cells_sl H.k, cells_sl H.p, cells_sl H.b, pure_sl H.k, pure_sl H.p, pure_sl H.b, Int.toNat_natCast, hlt2, ← hx, s66, a1, a2, gUn, Bool.not_false, Bool.not_true]
    exact ih (h.ps.length - (i + 1)) _ _ _ (by omega) ⟨i + 1, by omega, rfl, nx (by simp only [prOk, a1, a2, Bool.true_and]), rfl, rfl, rfl, rfl, rfl⟩
  obtain rfl : i = h.ps.length := by omega
  rw [List.take_length] at hall2
  simp (disch := first | assumption | omega | (simp only [az]; done)) only [ru, eq_self, if_true, if_false, BEq.rfl, binI, AO.row?, splice, fillL, mmAll, loadV, storeV, zeros, Am.rowAt, Am.part, addOff, Nat.reduceAdd, Nat.reduceMul, Nat.reduceLeDiff, Nat.reduceSub, Nat.reduceLT, Int.reduceEq, Int.reduceLT, Int.reduceLE, Int.reduceGT, Int.reduceGE, Int.reduceAdd, Int.reduceSub, Int.reduceMul, Int.reduceNeg, Int.reduceToNat, reduceCtorEq, reduceIte, hlt2]
  clear ih hl' q1 q4
  have ek3 : h.valid = h.bs.all (fun b => inR b 0 99) := by rw [ek2, hall2, Bool.true_and]
  refine G_loop_ind (fun m ts hh mk => ∃ i : Nat, i ≤ h.bs.length ∧ m = h.bs.length - i ∧ (h.bs.take i).all (fun b => inR b 0 99) = true ∧ ts.length = 96 ∧ ts.getD 1 .undef = .ptr 0 0 ∧ ts.getD 5 .undef = I i ∧ hh = [.cells [k, I h.fl, p, b] false] ∧ mk = []) ?_ _ _ _ _ ⟨0, Nat.zero_le _, rfl, rfl, rfl, rfl, rfl, rfl, rfl⟩
  rintro m ts hh mk ih ⟨i, hi', rfl, hall3, hl', q1, q5, rfl, rfl⟩
  rw [lit_all hl']
  simp only [lit0, litS, Nat.reduceAdd, q1, q5]
  simp (disch := first | assumption | omega | (simp only [az]; done)) only [ru, eq_self, if_true, if_false, BEq.rfl, binI, AO.row?, splice, fillL, mmAll, loadV, storeV, zeros, Am.rowAt, Am.part, addOff, Nat.reduceAdd, Nat.reduceMul, Nat.reduceLeDiff, Nat.reduceSub, Nat.reduceLT, Int.reduceEq, Int.reduceLT, Int.reduceLE, Int.reduceGT, Int.reduceGE, Int.reduceAdd, Int.reduceSub, Int.reduceMul, Int.reduceNeg, Int.reduceToNat, reduceCtorEq, reduceIte, lenV_sl H.k, lenV_sl H.p, lenV_sl H.b, elem_kd H.k, elem_pr H.p, elem_in H.b, view_sl H.k, view_sl H.p, view_sl H.b, scalar_sl H.k, scalar_sl H.p, scalar_sl H.b, cells_sl H.k, cells_sl H.p, cells_sl H.b, pure_sl H.k, pure_sl H.p, pure_sl H.b, Int.toNat_natCast]
  by_cases hlt3 : (i : Int) < h.bs.length
  case pos =>
    have hi2 : i < h.bs.length := by omega
    have no := fun hp => all_not (p := fun b => inR b 0 99) hi2 rfl hp
    have nx := fun hp => all_upto_succ (p := fun b => inR b 0 99) hi2 rfl hall3 hp
    obtain ⟨x, hx⟩ : ∃ x, x = h.bs.getD i 0 := ⟨_, rfl⟩
    have hd : h.bs.getD i default = x := hx.symm
    rw [hd] at no nx
    cases a1 : inR x 0 99
    · have ev : h.valid = false := by rw [ek3, no a1]
      simp (disch := first | assumption | omega | (simp only [az]; done)) only [ru, eq_self, if_true, if_false, BEq.rfl, binI, AO.row?, splice, fillL, mmAll, loadV, storeV, zeros, Am.rowAt, Am.part, addOff, Nat.reduceAdd, Nat.reduceMul, Nat.reduceLeDiff, Nat.reduceSub, Nat.reduceLT, Int.reduceEq, Int.reduceLT, Int.reduceLE, Int.reduceGT, Int.reduceGE, Int.reduceAdd, Int.reduceSub, Int.reduceMul, Int.reduceNeg, Int.reduceToNat, reduceCtorEq, reduceIte, lenV_sl H.k, lenV_sl H.p, lenV_sl H.b, elem_kd H.k, elem_pr H.p, elem_in H.b, view_sl H.k, view_sl H.p, view_sl H.b, scalar_sl H.k, scalar_sl H.p, scalar_sl H.b, cells_sl H.k, cells_sl H.p, cells_sl H.b, pure_sl H.k, pure_sl H.p, pure_sl H.b, Int.toNat_natCast, hlt3, ← hx, s66, a1, bad ev, gUn, Bool.not_false]
      done
    simp (disch := first | assumption | omega | (simp only [az]; done)) only [ru, eq_self, if_true, if_false, BEq.rfl, binI, AO.row?, splice, fillL, mmAll, loadV, storeV, zeros, Am.rowAt, Am.part, addOff, Nat.reduceAdd, Nat.reduceMul, Nat.reduceLeDiff, Nat.reduceSub, Nat.reduceLT, Int.reduceEq, Int.reduceLT, Int.reduceLE, Int.reduceGT, Int.reduceGE, Int.reduceAdd, Int.reduceSub, Int.reduceMul, Int.reduceNeg, Int.reduceToNat, reduceCtorEq, reduceIte, lenV_sl H.k, lenV_sl H.p, lenV_sl H.b, elem_kd H.k, elem_pr H.p, elem_in H.b, view_sl H.k, view_sl H.p, view_sl H.b, scalar_sl H.k, scalar_sl H.p, scalar_sl H.b, cells_sl H.k, cells_sl H.p, cells_sl H.b, pure_sl H.k, pure_sl H.p, pure_sl H.b, Int.toNat_natCast, hlt3, ← hx, s66, a1, gUn, Bool.not_false, Bool.not_true]
    exact ih (h.bs.length - (i + 1)) _ _ _ (by omega) ⟨i + 1, by omega, rfl, nx a1, rfl, rfl, rfl, rfl, rfl⟩
  obtain rfl : i = h.bs.length := by omega
  rw [List.take_length] at hall3
  have ev : vE h.valid = 0 := by rw [ek3, hall3]; rfl
  simp (disch := first | assumption | omega | (simp only [az]; done)) only [ru, eq_self, if_true, if_false, BEq.rfl, binI, AO.row?, splice, fillL, mmAll, loadV, storeV, zeros, Am.rowAt, Am.part, addOff, Nat.reduceAdd, Nat.reduceMul, Nat.reduceLeDiff, Nat.reduceSub, Nat.reduceLT, Int.reduceEq, Int.reduceLT, Int.reduceLE, Int.reduceGT, Int.reduceGE, Int.reduceAdd, Int.reduceSub, Int.reduceMul, Int.reduceNeg, Int.reduceToNat, reduceCtorEq, reduceIte, hlt3, ev]
/-! numbers of parts -/
def Hs.pts (h : Hs) (l : List Int) : List Pr := l.map fun i => h.ps.getD i.toNat default
theorem pts_snoc {l : List Int} {c : Int} : h.pts (l ++ [c]) = h.pts l ++ [h.ps.getD c.toNat default] := by simp [Hs.pts]
theorem pts_len {l : List Int} : (h.pts l).length = l.length := by simp [Hs.pts]
theorem pts_pg (G : HG h) (l : List Int) : PG (h.pts l) := by
  intro q hq
  obtain ⟨i, hi, rfl⟩ := List.mem_map.1 hq
  by_cases hl : i.toNat < h.ps.length
  · exact (G.q _ hl).2
  · rw [List.getD_eq_getElem?_getD, List.getElem?_eq_none (by omega)]
    show (0 : Int) ≤ 0 ∧ (0 : Int) ≤ 40
    omega
theorem lbP_snoc {l : List Pr} {q : Pr} : lbP (l ++ [q]) = lbP l + q.p := by simp [lbP, sm_app, sm]
theorem stP_snoc {ks : List Kd} {l : List Pr} {q : Pr} : stP ks (l ++ [q]) = mx (stP ks l) (kdP ks q).s := by simp [stP, mxs_snoc]
theorem dyP_snoc {ks : List Kd} {l : List Pr} {q : Pr} : dyP ks (l ++ [q]) = mx (dyP ks l) (kdP ks q).d := by simp [dyP, mxs_snoc]
/-- all are numbers of parts -/
def InP (h : Hs) (l : List Int) : Prop := ∀ i, i < l.length → 0 ≤ l.getD i 0 ∧ l.getD i 0 < h.ps.length
theorem inP_k (G : HG h) {l : List Int} (L : InP h l) {i : Nat} (hi : i < l.length) : 0 ≤ (h.ps.getD (l.getD i 0).toNat default).k ∧ (h.ps.getD (l.getD i 0).toNat default).k < h.ks.length := by
  have := L i hi
  exact (G.q _ (by omega)).1
end
end Go.Proofs.Ytaffjmjahenoaaa.A

/-
The specification's packings: what is in a barrel of a list, what fits, all lists.
-/
namespace Go.Proofs.Ytaffjmjahenoaaa.A
open Go Go.Am Go.Proofs.Ytaffjmjahenoaaa.T
set_option maxRecDepth 100000
set_option linter.unusedSimpArgs false
set_option linter.unusedVariables false

section
variable {h : Hs} {k p b : AV}
/-! what a list comes to -/
end
end Go.Proofs.Ytaffjmjahenoaaa.A

/-
The specification's lists of all packings.
-/
namespace Go.Proofs.Ytaffjmjahenoaaa.A
open Go Go.Am Go.Proofs.Ytaffjmjahenoaaa.T
set_option maxRecDepth 100000
set_option linter.unusedSimpArgs false
set_option linter.unusedVariables false

/-- numbers from a least one on -/
def csL (lo : Int) (n : Nat) : List Int := (List.range n).map fun (j : Nat) => lo + (j : Int)
theorem csL_zero {n : Nat} : csL 0 n = upto n := by simp [csL, upto]
theorem csL_succ {lo : Int} {n : Nat} : csL lo (n + 1) = csL lo n ++ [lo + (n : Int)] := by simp [csL, List.range_succ]
/-- the lists with the first k numbers at a place -/
def enP (ok : List Int → Bool) (cs : List Int) (d : Nat) (F : List Int) (lo : Int) (k : Nat) : List (List Int) := (csL lo k).flatMap fun c => ens ok cs d (F ++ [c])
theorem enP_succ {ok : List Int → Bool} {cs : List Int} {d : Nat} {F : List Int} {lo : Int} {k : Nat} : enP ok cs d F lo (k + 1) = enP ok cs d F lo k ++ ens ok cs d (F ++ [lo + (k : Int)]) := by
  simp [enP, csL_succ, List.flatMap_append]
theorem pow5_le {n d : Nat} (hn : n ≤ 5) (hd : d ≤ 6) : n ^ d ≤ 15625 := by
  have h1 := Nat.pow_le_pow_left hn d
  have h2 := Nat.pow_le_pow_right (n := 5) (by omega) hd
  have : 5 ^ 6 = 15625 := by decide
  omega
section
variable {h : Hs} {k p b : AV}
/-- the error of one who asks -/
def askE (v q : Bool) (l : List (List Int)) : Int := if v then (if q then (if l = [] then 3 else 0) else 1) else 80
end
end Go.Proofs.Ytaffjmjahenoaaa.A

/-
The specification's answers.
-/
namespace Go.Proofs.Ytaffjmjahenoaaa.A
open Go Go.Am Go.Proofs.Ytaffjmjahenoaaa.T
set_option maxRecDepth 100000
set_option linter.unusedSimpArgs false
set_option linter.unusedVariables false

/-- the first of the least -/
def bsf (f : List Int → Int) (L : List (List Int)) : Option (List Int) := bst (fun _ => true) f L
theorem bsf_snoc {f : List Int → Int} {L : List (List Int)} {c : List Int} : bsf f (L ++ [c]) = some (match bsf f L with | none => c | some x => if f c < f x then c else x) := by
  unfold bsf
  rw [bst_snoc]
  simp only [bstS, if_true]
  cases bst (fun _ => true) f L with
  | none => rfl
  | some x => simp only; split <;> rfl
theorem bsf_some {f : List Int → Int} {L : List (List Int)} : L ≠ [] → ∃ x, bsf f L = some x ∧ x ∈ L ∧ ∀ c ∈ L, f x ≤ f c := by
  refine snocRec (fun L => L ≠ [] → ∃ x, bsf f L = some x ∧ x ∈ L ∧ ∀ c ∈ L, f x ≤ f c) L (fun h => absurd rfl h) ?_
  intro L c ih _
  rw [bsf_snoc]
  by_cases h0 : L = []
  · subst h0
    exact ⟨c, rfl, by simp, fun y hy => by simp at hy; subst hy; exact Int.le_refl _⟩
  · obtain ⟨x, e, hx, hm⟩ := ih h0
    rw [e]
    simp only
    by_cases hlt : f c < f x
    · rw [if_pos hlt]
      refine ⟨c, rfl, by simp, fun y hy => ?_⟩
      rcases List.mem_append.1 hy with hy | hy
      · have := hm y hy; omega
      · simp at hy; subst hy; exact Int.le_refl _
    · rw [if_neg hlt]
      refine ⟨x, rfl, by simp [hx], fun y hy => ?_⟩
      rcases List.mem_append.1 hy with hy | hy
      · exact hm y hy
      · simp at hy; subst hy; omega
/-- what the least is; none: there is none -/
def lsf (f : List Int → Int) (L : List (List Int)) : Int := match bsf f L with | none => 0 | some x => f x
theorem lsf_spec {f : List Int → Int} {L : List (List Int)} (h : L ≠ []) : (∃ x ∈ L, f x = lsf f L) ∧ ∀ c ∈ L, lsf f L ≤ f c := by
  obtain ⟨x, e, hx, hm⟩ := bsf_some (f := f) h
  unfold lsf; rw [e]
  exact ⟨⟨x, hx, rfl⟩, hm⟩
theorem ex_list {α : Type} {l : List α} (h : l ≠ []) : ∃ x, x ∈ l := by
  cases l with
  | nil => exact absurd rfl h
  | cons a l => exact ⟨a, by simp⟩
section
variable {h : Hs} {k p b : AV}
/-- a number of a house, or its error -/
def ansN (e : Int) (n : Int) : AV := .tup [I (if e = 0 then n else 0), I e]
end
end Go.Proofs.Ytaffjmjahenoaaa.A

/-
The specification's answers that are lists; copies; what the laws ask of houses.
-/
namespace Go.Proofs.Ytaffjmjahenoaaa.A
open Go Go.Am Go.Proofs.Ytaffjmjahenoaaa.T
set_option maxRecDepth 100000
set_option linter.unusedSimpArgs false
set_option linter.unusedVariables false

section
variable {h : Hs} {k p b : AV}

end
end Go.Proofs.Ytaffjmjahenoaaa.A

