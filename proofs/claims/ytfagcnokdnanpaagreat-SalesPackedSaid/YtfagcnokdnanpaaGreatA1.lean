/-
Functions of both sides of stage 7, one after another (A1).
-/
import Derived.Test.YtfagcnokdnanpaaGreatTab
/-
Numbers, lists, the first of the best: what the stages share.
-/
namespace Go.Proofs.YtfagcnokdnanpaaGreat.S
set_option linter.unusedVariables false
set_option linter.unusedSimpArgs false
def mx (x y : Int) : Int := if y > x then y else x
theorem le_mx1 {x y : Int} : x ≤ mx x y := by unfold mx; split <;> omega
theorem le_mx2 {x y : Int} : y ≤ mx x y := by unfold mx; split <;> omega
theorem mx_le {x y z : Int} (h1 : x ≤ z) (h2 : y ≤ z) : mx x y ≤ z := by unfold mx; split <;> omega
def inR (n lo hi : Int) : Bool := decide (lo ≤ n) && decide (n ≤ hi)
theorem inR_iff {n lo hi : Int} : inR n lo hi = true ↔ lo ≤ n ∧ n ≤ hi := by simp [inR]
def sm : List Int → Int
  | [] => 0
  | a :: l => a + sm l
theorem sm_app : ∀ {a b : List Int}, sm (a ++ b) = sm a + sm b
  | [], b => by simp [sm]
  | x :: a, b => by simp [sm, sm_app (a := a)]; omega
theorem mem_getD {α : Type} {d : α} {l : List α} {x : α} (h : x ∈ l) : ∃ i, i < l.length ∧ l.getD i d = x := by
  obtain ⟨i, hi, e⟩ := List.mem_iff_getElem.1 h
  exact ⟨i, hi, by rw [List.getD_eq_getElem?_getD, List.getElem?_eq_getElem hi]; exact e⟩
def ear : List Int → List Int → Bool
  | a :: l, b :: m => if a ≠ b then decide (a < b) else ear l m
  | _, _ => false
theorem ear_app : ∀ {F l m : List Int}, ear (F ++ l) (F ++ m) = ear l m
  | [], _, _ => rfl
  | a :: F, l, m => by simp [ear, ear_app (F := F)]
theorem ear_asym : ∀ {l m : List Int}, ear l m = true → ear m l = false
  | [], m, h => by simp [ear] at h
  | a :: l, [], h => by simp [ear] at h
  | a :: l, b :: m, h => by
    simp only [ear] at h ⊢
    by_cases e : a = b
    · subst e; simp only [ne_eq, not_true_eq_false, if_false] at h ⊢; exact ear_asym h
    · rw [if_pos e] at h; rw [if_pos (Ne.symm e)]; simp at h ⊢; omega
def bstS (f : List Int → Bool) (cost : List Int → Int) (b : Option (List Int)) (c : List Int) : Option (List Int) :=
  if f c then (match b with | none => some c | some x => if cost c < cost x then some c else b) else b
def bst (f : List Int → Bool) (cost : List Int → Int) (l : List (List Int)) : Option (List Int) := l.foldl (bstS f cost) none
theorem snocRec {α : Type} (P : List α → Prop) (l : List α) (nil : P []) (snoc : ∀ l c, P l → P (l ++ [c])) : P l := by
  rw [← List.reverse_reverse l]
  induction l.reverse with
  | nil => exact nil
  | cons c l ih => rw [List.reverse_cons]; exact snoc _ _ ih
end Go.Proofs.YtfagcnokdnanpaaGreat.S
/-
Houses of barrels: what is in a barrel, lists made number by number, packings.
-/
namespace Go.Proofs.YtfagcnokdnanpaaGreat.S
set_option linter.unusedVariables false
set_option linter.unusedSimpArgs false
structure Kd where
  s : Int
  d : Int
  deriving Inhabited, DecidableEq
structure Pr where
  k : Int
  p : Int
  deriving Inhabited, DecidableEq
structure Hs where
  ks : List Kd
  fl : Int
  ps : List Pr
  bs : List Int
def mxs (l : List Int) : Int := l.foldl mx 0
theorem mxs_snoc {l : List Int} {c : Int} : mxs (l ++ [c]) = mx (mxs l) c := by simp [mxs, List.foldl_append]
theorem mxs_ge {l : List Int} : 0 ≤ mxs l ∧ ∀ c ∈ l, c ≤ mxs l := by
  refine snocRec (fun l => 0 ≤ mxs l ∧ ∀ c ∈ l, c ≤ mxs l) l (by simp [mxs]) ?_
  intro l c ih
  rw [mxs_snoc]
  refine ⟨Int.le_trans ih.1 le_mx1, fun x hx => ?_⟩
  rcases List.mem_append.1 hx with hx | hx
  · exact Int.le_trans (ih.2 x hx) le_mx1
  · rw [List.mem_singleton] at hx; subst hx; exact le_mx2
theorem mxs_le {l : List Int} {x : Int} (h0 : 0 ≤ x) (h : ∀ c ∈ l, c ≤ x) : mxs l ≤ x := by
  revert h
  refine snocRec (fun l => (∀ c ∈ l, c ≤ x) → mxs l ≤ x) l (fun _ => h0) ?_
  intro l c ih h
  rw [mxs_snoc]
  exact mx_le (ih fun y hy => h y (by simp [hy])) (h c (by simp))
theorem mxs_sub {l m : List Int} (h : ∀ c ∈ l, c ∈ m) : mxs l ≤ mxs m := mxs_le mxs_ge.1 fun c hc => mxs_ge.2 c (h c hc)
theorem sm_sub {l m : List Int} (h : l.Sublist m) (h0 : ∀ x ∈ m, 0 ≤ x) : sm l ≤ sm m := by
  induction h with
  | slnil => exact Int.le_refl _
  | cons a h ih => simp only [sm]; have := h0 a (by simp); have := ih fun x hx => h0 x (by simp [hx]); omega
  | cons_cons a h ih => simp only [sm]; have := ih fun x hx => h0 x (by simp [hx]); omega
def lbP (l : List Pr) : Int := sm (l.map Pr.p)
def kdP (ks : List Kd) (q : Pr) : Kd := ks.getD q.k.toNat default
def stP (ks : List Kd) (l : List Pr) : Int := mxs (l.map fun q => (kdP ks q).s)
def dyP (ks : List Kd) (l : List Pr) : Int := mxs (l.map fun q => (kdP ks q).d)
def slP (ks : List Kd) (fl : Int) (l : List Pr) : Int := if l.length = 0 then 0 else fl + (lbP l * stP ks l + 9) / 10
def ndP (ks : List Kd) (fl : Int) (l : List Pr) : Int := lbP l + slP ks fl l
structure KG (ks : List Kd) (fl : Int) : Prop where
  k : ∀ i, i < ks.length → 0 ≤ (ks.getD i default).s ∧ (ks.getD i default).s ≤ 9 ∧ 0 ≤ (ks.getD i default).d ∧ (ks.getD i default).d ≤ 20
  f : 0 ≤ fl ∧ fl ≤ 9
theorem KG.kd {ks : List Kd} {fl : Int} (K : KG ks fl) (q : Pr) : 0 ≤ (kdP ks q).s ∧ (kdP ks q).s ≤ 9 ∧ 0 ≤ (kdP ks q).d ∧ (kdP ks q).d ≤ 20 := by
  unfold kdP
  by_cases h : q.k.toNat < ks.length
  · exact K.k _ h
  · rw [List.getD_eq_getElem?_getD, List.getElem?_eq_none (by omega)]
    show (0 : Int) ≤ 0 ∧ (0 : Int) ≤ 9 ∧ (0 : Int) ≤ 0 ∧ (0 : Int) ≤ 20
    omega
theorem st_bd {ks : List Kd} {fl : Int} (K : KG ks fl) (l : List Pr) : 0 ≤ stP ks l ∧ stP ks l ≤ 9 :=
  ⟨mxs_ge.1, mxs_le (by omega) fun c hc => by obtain ⟨q, _, rfl⟩ := List.mem_map.1 hc; exact (K.kd q).2.1⟩
def PG (l : List Pr) : Prop := ∀ q ∈ l, 0 ≤ q.p ∧ q.p ≤ 40
theorem lb_bd : ∀ {l : List Pr}, PG l → 0 ≤ lbP l ∧ lbP l ≤ 40 * l.length
  | [], _ => by simp [lbP, sm]
  | a :: l, h => by
    have h1 := h a (by simp)
    have h2 := lb_bd (l := l) fun q hq => h q (by simp [hq])
    simp only [lbP, List.map_cons, sm, List.length_cons] at h2 ⊢
    omega
theorem PG.sub {l m : List Pr} (h : PG m) (hs : ∀ q ∈ l, q ∈ m) : PG l := fun q hq => h q (hs q hq)
theorem sl_bd {ks : List Kd} {fl : Int} (K : KG ks fl) {l : List Pr} (h : PG l) : 0 ≤ slP ks fl l ∧ slP ks fl l ≤ 9 + 37 * l.length := by
  have h1 := st_bd K l
  have h2 := lb_bd h
  have h3 := K.f
  unfold slP
  split
  · omega
  · have h4 : lbP l * stP ks l ≤ (40 * l.length) * 9 := Int.mul_le_mul h2.2 h1.2 h1.1 (by omega)
    have h5 : 0 ≤ lbP l * stP ks l := Int.mul_nonneg h2.1 h1.1
    omega
theorem lb_sub {l m : List Pr} (h : l.Sublist m) (hm : PG m) : lbP l ≤ lbP m := sm_sub (h.map _) fun x hx => by
  obtain ⟨q, hq, rfl⟩ := List.mem_map.1 hx; exact (hm q hq).1
theorem st_sub {ks : List Kd} {l m : List Pr} (h : l.Sublist m) : stP ks l ≤ stP ks m := mxs_sub fun c hc => (h.map _).subset hc
theorem sl_sub {ks : List Kd} {fl : Int} (K : KG ks fl) {l m : List Pr} (h : l.Sublist m) (hm : PG m) : slP ks fl l ≤ slP ks fl m := by
  have h1 := st_bd K l
  have h2 := lb_bd (hm.sub h.subset)
  have h3 := lb_sub h hm
  have h4 := st_sub (ks := ks) h
  have h0 := (sl_bd K hm).1
  have hl := h.length_le
  unfold slP at h0 ⊢
  split
  · exact h0
  · rw [if_neg (by omega)]
    have : lbP l * stP ks l ≤ lbP m * stP ks m := Int.mul_le_mul h3 h4 h1.1 (by omega)
    omega
theorem nd_sub {ks : List Kd} {fl : Int} (K : KG ks fl) {l m : List Pr} (h : l.Sublist m) (hm : PG m) : ndP ks fl l ≤ ndP ks fl m := by
  have := lb_sub h hm; have := sl_sub K h hm; unfold ndP; omega
def inB (x : List Int) (b : Int) : List Int := ((List.range x.length).filter fun i => decide (x.getD i 0 = b)).map fun (i : Nat) => (i : Int)
theorem inB_nil {b : Int} : inB [] b = [] := rfl
theorem inB_snoc {x : List Int} {c b : Int} : inB (x ++ [c]) b = inB x b ++ (if c = b then [(x.length : Int)] else []) := by
  have h1 : ∀ i, i < x.length → (x ++ [c]).getD i 0 = x.getD i 0 := fun i hi => by
    rw [List.getD_eq_getElem?_getD, List.getElem?_append_left hi, List.getD_eq_getElem?_getD]
  have h2 : (x ++ [c]).getD x.length 0 = c := by simp [List.getD_eq_getElem?_getD]
  unfold inB
  rw [List.length_append, List.length_singleton, List.range_succ, List.filter_append, List.map_append]
  congr 1
  · rw [List.filter_congr (q := fun i => decide (x.getD i 0 = b)) fun i hi => by rw [h1 i (List.mem_range.1 hi)]]
  · simp only [List.filter_cons, h2, List.filter_nil]
    by_cases e : c = b <;> simp [e]
theorem inB_mem {x : List Int} {b i : Int} : i ∈ inB x b ↔ 0 ≤ i ∧ i < x.length ∧ x.getD i.toNat 0 = b := by
  simp only [inB, List.mem_map, List.mem_filter, List.mem_range, decide_eq_true_eq]
  constructor
  · rintro ⟨a, ⟨h1, h2⟩, rfl⟩; exact ⟨by omega, by omega, by simpa using h2⟩
  · rintro ⟨h0, h1, h2⟩; exact ⟨i.toNat, ⟨by omega, h2⟩, by omega⟩
theorem inB_len {x : List Int} {b : Int} : (inB x b).length ≤ x.length := by
  rw [inB, List.length_map]
  exact Nat.le_trans (List.length_filter_le _ _) (by simp)
def prs (ps : List Pr) (x : List Int) (b : Int) : List Pr := ((ps.zip x).filter fun q => decide (q.2 = b)).map (·.1)
theorem prs_snoc {ps : List Pr} {x : List Int} {c b : Int} (h : x.length < ps.length) : prs ps (x ++ [c]) b = prs ps x b ++ (if c = b then [ps.getD x.length default] else []) := by
  have e : ps.zip (x ++ [c]) = ps.zip x ++ [(ps.getD x.length default, c)] := by
    have e1 : ps = ps.take x.length ++ ps.getD x.length default :: ps.drop (x.length + 1) := by
      rw [List.getD_eq_getElem?_getD, List.getElem?_eq_getElem h, Option.getD_some, ← List.drop_eq_getElem_cons h, List.take_append_drop]
    have e2 : (ps.take x.length).length = x.length := by rw [List.length_take]; omega
    generalize ps.getD x.length default = q at e1 ⊢
    generalize ps.drop (x.length + 1) = r at e1
    rw [e1]
    generalize ps.take x.length = a at e2
    rw [List.zip_append e2]
    have : a.zip x = (a ++ q :: r).zip x := by
      rw [show (a ++ q :: r).zip x = (a ++ q :: r).zip (x ++ []) by rw [List.append_nil], List.zip_append e2]; simp
    rw [← this]; simp
  unfold prs
  rw [e, List.filter_append, List.map_append]
  congr 1
  by_cases e : c = b <;> simp [e]
theorem prs_in {ps : List Pr} {b : Int} : ∀ {x : List Int}, x.length ≤ ps.length → (inB x b).map (fun i => ps.getD i.toNat default) = prs ps x b := by
  intro x
  refine snocRec (fun x => x.length ≤ ps.length → (inB x b).map (fun i => ps.getD i.toNat default) = prs ps x b) x (fun _ => by simp [inB_nil, prs]) ?_
  intro x c ih hl
  rw [List.length_append, List.length_singleton] at hl
  rw [inB_snoc, prs_snoc (by omega), List.map_append, ih (by omega)]
  congr 1
  by_cases e : c = b <;> simp [e]
theorem prs_mem {ps : List Pr} {x : List Int} {b : Int} : ∀ q ∈ prs ps x b, q ∈ ps := by
  intro q hq
  simp only [prs, List.mem_map, List.mem_filter] at hq
  obtain ⟨y, ⟨h1, _⟩, rfl⟩ := hq
  exact (List.of_mem_zip h1).1
theorem prs_len {ps : List Pr} {x : List Int} {b : Int} : (prs ps x b).length ≤ ps.length := by
  unfold prs
  rw [List.length_map]
  exact Nat.le_trans (List.length_filter_le _ _) (by rw [List.length_zip]; omega)
def ens (ok : List Int → Bool) (cs : List Int) : Nat → List Int → List (List Int)
  | 0, l => if ok l then [l] else []
  | n + 1, l => if ok l then cs.flatMap fun c => ens ok cs n (l ++ [c]) else []
def upto (n : Nat) : List Int := (List.range n).map fun (i : Nat) => (i : Int)
def Hs.ft (h : Hs) (x : List Int) : Bool := (List.range h.bs.length).all fun b => decide (ndP h.ks h.fl (prs h.ps x b) ≤ h.bs.getD b 0)
theorem Hs.ft_iff {h : Hs} {x : List Int} : h.ft x = true ↔ ∀ b : Nat, b < h.bs.length → ndP h.ks h.fl (prs h.ps x b) ≤ h.bs.getD b 0 := by
  simp [Hs.ft]
structure HG (h : Hs) : Prop where
  nk : h.ks.length ≤ 3
  np : h.ps.length ≤ 6
  nb : h.bs.length ≤ 4
  g : KG h.ks h.fl
  q : ∀ i, i < h.ps.length → (0 ≤ (h.ps.getD i default).k ∧ (h.ps.getD i default).k < h.ks.length) ∧ 0 ≤ (h.ps.getD i default).p ∧ (h.ps.getD i default).p ≤ 40
  b : ∀ i, i < h.bs.length → 0 ≤ h.bs.getD i 0 ∧ h.bs.getD i 0 ≤ 99
theorem HG.pg {h : Hs} (H : HG h) : PG h.ps := fun q hq => by
  obtain ⟨i, hi, rfl⟩ := mem_getD (d := default) hq
  exact (H.q i hi).2
theorem HG.pp {h : Hs} (H : HG h) (x : List Int) (b : Int) : PG (prs h.ps x b) := H.pg.sub prs_mem
theorem zip_tk : ∀ (ps : List Pr) (x : List Int) (k : Nat), ps.zip (x.take k) = (ps.zip x).take k
  | [], x, k => by simp
  | p :: ps, [], k => by simp
  | p :: ps, a :: x, 0 => by simp
  | p :: ps, a :: x, k + 1 => by simp [zip_tk ps x k]
theorem zip_take {ps : List Pr} {x : List Int} {k : Nat} : (ps.zip (x.take k)).Sublist (ps.zip x) := by
  rw [zip_tk]; exact List.take_sublist _ _
theorem prs_take {ps : List Pr} {x : List Int} {k : Nat} {b : Int} : (prs ps (x.take k) b).Sublist (prs ps x b) := (zip_take.filter _).map _
theorem HG.ft_take {h : Hs} (H : HG h) {x : List Int} {k : Nat} (hx : h.ft x = true) : h.ft (x.take k) = true :=
  Hs.ft_iff.2 fun b hb => Int.le_trans (nd_sub H.g prs_take (H.pp x b)) (Hs.ft_iff.1 hx b hb)
def Hs.isP (h : Hs) (x : List Int) : Bool := decide (x.length = h.ps.length) && x.all (fun c => inR c 0 (h.bs.length - 1)) && h.ft x
def Hs.all (h : Hs) : Int := lbP h.ps
end Go.Proofs.YtfagcnokdnanpaaGreat.S
/-
Lists in heaps, copies, appends: what the functions of lifts needed and those of mesh need, too.
-/
namespace Go.Proofs.YtfagcnokdnanpaaGreat.S
open Go Go.Am Go.Proofs.YtfagcnokdnanpaaGreat.T
set_option maxRecDepth 100000
set_option linter.unusedSimpArgs false
set_option linter.unusedVariables false
abbrev intL (n : Int) : List AV := [I n]
theorem intE (n : Int) : (intL n).length = 1 := rfl
theorem intSc (n : Int) : (intL n).all AV.scalar = true := rfl
def slV {α : Type} (esz : Nat) (enc : α → List AV) (l : List α) : AV := .cs esz l.length (l.flatMap enc)
theorem slV_is {α : Type} {esz : Nat} {enc : α → List AV} {l : List α} : IsSl esz enc l (slV esz enc l) := .inl rfl
theorem elem_in {l : List Int} {v : AV} (h : IsSl 1 intL l v) : ∀ i : Int, 0 ≤ i → i < l.length → elemAt 1 v (I i) = some (.cptr [I (l.getD i.toNat 0)]) := elem_sl intE h
def resL (l : List Int) : AV := if l = [] then .nils else slV 1 intL l
theorem resL_is (l : List Int) : IsSl 1 intL l (resL l) := by
  unfold resL; split
  · exact .inr ⟨rfl, by assumption⟩
  · exact slV_is
theorem gUn {X : Cx} {base : Nat} {k : List KF} {ts : List AV} {h : List AO} {mk : List Nat} {r : List AOper} {d : Option Nat} {w : Bool} {op : AOp} {sl : Option Nat} {m : List Nat} {x : Option (Nat × Bool)} : GG X base .undef w ⟨d, op, x, sl, m⟩ r k ts h mk = GO X base r k (putT ts d .undef) h mk := id rfl
theorem s57 (n lo hi : Int) (st : Bool) : Iso E 23 [I n, I lo, I hi] st = some (Bo (inR n lo hi)) := by
  refine Iso_of (es _ _ _ _) e23 ?_
  simp only [f23, inR]
  simp (disch := first | assumption | omega | (simp only [az]; done)) only [ru, eq_self, if_true, if_false, BEq.rfl, binI, AO.row?, splice, fillL, mmAll, loadV, storeV, zeros, Am.rowAt, Am.part, addOff, Nat.reduceAdd, Nat.reduceMul, Nat.reduceLeDiff, Nat.reduceSub, Nat.reduceLT, Int.reduceEq, Int.reduceLT, Int.reduceLE, Int.reduceGT, Int.reduceGE, Int.reduceAdd, Int.reduceSub, Int.reduceMul, Int.reduceNeg, Int.reduceToNat, reduceCtorEq, reduceIte]
  by_cases h1 : lo ≤ n
  · simp (disch := first | assumption | omega | (simp only [az]; done)) only [ru, eq_self, if_true, if_false, BEq.rfl, binI, AO.row?, splice, fillL, mmAll, loadV, storeV, zeros, Am.rowAt, Am.part, addOff, Nat.reduceAdd, Nat.reduceMul, Nat.reduceLeDiff, Nat.reduceSub, Nat.reduceLT, Int.reduceEq, Int.reduceLT, Int.reduceLE, Int.reduceGT, Int.reduceGE, Int.reduceAdd, Int.reduceSub, Int.reduceMul, Int.reduceNeg, Int.reduceToNat, reduceCtorEq, reduceIte, h1]
  · simp (disch := first | assumption | omega | (simp only [az]; done)) only [ru, eq_self, if_true, if_false, BEq.rfl, binI, AO.row?, splice, fillL, mmAll, loadV, storeV, zeros, Am.rowAt, Am.part, addOff, Nat.reduceAdd, Nat.reduceMul, Nat.reduceLeDiff, Nat.reduceSub, Nat.reduceLT, Int.reduceEq, Int.reduceLT, Int.reduceLE, Int.reduceGT, Int.reduceGE, Int.reduceAdd, Int.reduceSub, Int.reduceMul, Int.reduceNeg, Int.reduceToNat, reduceCtorEq, reduceIte, h1]
theorem all_upto_succ {α : Type} [Inhabited α] {l : List α} {p : α → Bool} {i : Nat} (hi : i < l.length) {x : α} (hx : l.getD i default = x) (h : (l.take i).all p = true) (hp : p x = true) : (l.take (i + 1)).all p = true := by
  subst hx
  rw [List.take_succ_eq_append_getElem hi, List.all_append, h]
  simpa [List.getD_eq_getElem?_getD, hi] using hp
theorem all_not {α : Type} [Inhabited α] {l : List α} {p : α → Bool} {i : Nat} (hi : i < l.length) {x : α} (hx : l.getD i default = x) (hp : p x = false) : l.all p = false := by
  subst hx
  rw [List.all_eq_false]
  exact ⟨l[i], List.getElem_mem hi, by simpa [List.getD_eq_getElem?_getD, hi] using hp⟩
theorem range_all_succ {p : Nat → Bool} {i : Nat} (h : (List.range i).all p = true) (hp : p i = true) : (List.range (i + 1)).all p = true := by
  rw [List.range_succ, List.all_append, h]; simpa using hp
theorem range_not {p : Nat → Bool} {i N : Nat} (hi : i < N) (hp : p i = false) : (List.range N).all p = false := by
  rw [List.all_eq_false]; exact ⟨i, List.mem_range.2 hi, by simp [hp]⟩
section
end
section
theorem Ro_ex {E : Env} {f : Nat} {fn : AFn} {vs : List AV} {h : List AO} (P : AV → Prop) (hu : ∀ v, P v → v.under h.length = true) (hs : E.spec f vs h h.length = none) (hf : E.fn f = some fn)
    (hg : G ⟨E, h.length, none, f, Done h.length fn.results fun r h' => P r⟩ fn.body [] (vs ++ List.replicate (fn.ntmps - vs.length) .undef) h []) : ∃ v, Ro E f vs h = some v ∧ P v := by
  obtain ⟨r, h', h1, h2⟩ := R_of (fun r _ => P r) hs hf hg
  exact ⟨r, by simp only [Ro, h1, hu r h2, if_true], h2⟩
end
section
end
theorem getD_memI {l : List Int} {i : Nat} (h : i < l.length) : l.getD i 0 ∈ l := by
  rw [List.getD_eq_getElem?_getD, List.getElem?_eq_getElem h]; exact List.getElem_mem h
section
end
theorem mapM_view {st : Bool} {h : List AO} {n : Nat} : ∀ {c : List AV}, (∀ x ∈ c, view st h n x = some x) → c.mapM (view st h n) = some c
  | [], _ => rfl
  | a :: c, hc => by
    simp only [List.mapM_cons, hc a (by simp), mapM_view (c := c) (fun x hx => hc x (by simp [hx])), Option.bind_eq_bind, Option.bind_some, Option.pure_def]
theorem flat_view {α : Type} {enc : α → List AV} {st : Bool} {h : List AO} {n : Nat} (hi : ∀ a, ∀ x ∈ enc a, ∃ k i, x = .int k i) (l : List α) : (l.flatMap enc).mapM (view st h n) = some (l.flatMap enc) :=
  mapM_view fun x hx => by
    obtain ⟨a, _, hx⟩ := List.mem_flatMap.1 hx
    obtain ⟨k, i, rfl⟩ := hi a x hx
    exact view_int
theorem flat_take {α : Type} {enc : α → List AV} {l : List α} {k : Nat} (he : ∀ a, (enc a).length = k) : (l.flatMap enc).take (l.length * k) = l.flatMap enc := List.take_of_length_le (by rw [flat_len he]; omega)
theorem flat1 (l : List Int) : (l.flatMap fun n => [I n]).length = l.length := by
  have := flat_len (enc := fun n : Int => [I n]) (esz := 1) (fun _ => rfl) l
  omega
theorem intIv (n : Int) : ∀ x ∈ intL n, ∃ k i, x = .int k i := by simp
def RdS (h : List AO) (v : AV) (l : List Int) : Prop := (l = [] ∧ v = .nils) ∨ (l ≠ [] ∧ ∃ o sh, v = .ms 1 o 0 l.length ∧ h[o]? = some (.cells (l.flatMap fun n => [I n]) sh))
structure Fr (h h' : List AO) : Prop where
  l : h.length ≤ h'.length
  k : ∀ j, j < h.length → h'[j]? = h[j]?
theorem Fr.trans {a b c : List AO} (h : Fr a b) (h' : Fr b c) : Fr a c := ⟨Nat.le_trans h.l h'.l, fun j hj => (h'.k j (Nat.lt_of_lt_of_le hj h.l)).trans (h.k j hj)⟩
theorem Fr.app (h J : List AO) : Fr h (h ++ J) := ⟨by simp, fun j hj => List.getElem?_append_left hj⟩
theorem Fr.at {h h' : List AO} (F : Fr h h') {j : Nat} {x : AO} (hx : h[j]? = some x) : h'[j]? = some x := by rw [F.k j (List.getElem?_eq_some_iff.1 hx).1]; exact hx
theorem RdS.fr {h h' : List AO} {v : AV} {l : List Int} (H : RdS h v l) (F : Fr h h') : RdS h' v l := by
  rcases H with h1 | ⟨hne, o, sh, rfl, hc⟩
  · exact .inl h1
  · exact .inr ⟨hne, o, sh, rfl, F.at hc⟩
theorem RdS.len {h : List AO} {v : AV} {l : List Int} (H : RdS h v l) : lenV v = some (I l.length) ∧ v.cells = [v] ∧ v.scalar = true := by
  rcases H with ⟨rfl, rfl⟩ | ⟨hne, o, sh, rfl, hc⟩ <;> exact ⟨rfl, rfl, rfl⟩
theorem RdS.row {h : List AO} {v : AV} {l : List Int} (H : RdS h v l) : lenOf v = some l.length ∧ Am.rowOf h v = some (l.flatMap fun n => [I n]) := by
  rcases H with ⟨rfl, rfl⟩ | ⟨hne, o, sh, rfl, hc⟩
  · exact ⟨rfl, rfl⟩
  · refine ⟨rfl, ?_⟩
    have e : (l.flatMap fun n => [I n]).take (l.length * 1) = l.flatMap fun n => [I n] := List.take_of_length_le (by rw [flat1]; omega)
    rw [Nat.mul_one] at e
    simp only [rowOf_ms, Am.rowAt, hc, Option.bind_some, AO.row?, List.drop_zero, Nat.mul_one, e, flat1, if_true]
theorem RdS.view {h : List AO} {v : AV} {l : List Int} (H : RdS h v l) {st : Bool} {k : Nat} : Am.view st h (k + 1) v = some (resL l) := by
  have hr := H.row.2
  rcases H with ⟨rfl, rfl⟩ | ⟨hne, o, sh, rfl, hc⟩
  · rfl
  · rw [view_ms, hr]
    simp only [flat_view (enc := fun n : Int => [I n]) (fun a x hx => ⟨_, _, by simpa using hx⟩), Option.map_some, resL, hne, if_false, slV]
section
variable {α : Type} {l m : List α} {j : Nat} {x : α}
theorem setT : (l ++ m).set (l.length + j) x = l ++ m.set j x := by rw [List.set_append_right _ _ (by omega), Nat.add_sub_cancel_left]
theorem setT0 : (l ++ m).set l.length x = l ++ m.set 0 x := setT (j := 0)
theorem getT : (l ++ m).getD (l.length + j) x = m.getD j x := by simp [List.getD_eq_getElem?_getD, List.getElem?_append_right]
theorem atT : (l ++ m)[l.length + j]? = m[j]? := by rw [List.getElem?_append_right (by omega), Nat.add_sub_cancel_left]
theorem atT0 : (l ++ m)[l.length]? = m[0]? := atT (j := 0)
end
def OutLL (b : Nat) (h : List AO) (v : AV) (L : List (List Int)) : Prop := (L = [] ∧ v = .nils) ∨ (L ≠ [] ∧ ∃ o vs, b ≤ o ∧ v = .ms 1 o 0 L.length ∧ h[o]? = some (.cells vs false) ∧ vs.length = L.length ∧ ∀ i, i < L.length → RdS h (vs.getD i .undef) (L.getD i []))
theorem OutLL.fr {b : Nat} {h h' : List AO} {v : AV} {L : List (List Int)} (H : OutLL b h v L) (F : Fr h h') : OutLL b h' v L := by
  rcases H with h1 | ⟨hne, o, vs, ho, rfl, hc, hl, hr⟩
  · exact .inl h1
  · exact .inr ⟨hne, o, vs, ho, rfl, F.at hc, hl, fun i hi => (hr i hi).fr F⟩
theorem OutLL.len {b : Nat} {h : List AO} {v : AV} {L : List (List Int)} (H : OutLL b h v L) : lenV v = some (I L.length) := by
  rcases H with ⟨rfl, rfl⟩ | ⟨hne, o, vs, ho, rfl, hc, hl, hr⟩ <;> rfl
noncomputable def appG (keep : Bool) (lim p esz eb : Nat) (h : List AO) (s x : AV) : Option (AV × List AO) := exOp (fun _ _ _ _ => none) lim (some p) (fun o => match o with | .t 0 => s | _ => x) h (.append keep esz eb (.t 0) (.t 1))
theorem appG_zero {keep : Bool} {lim p esz eb sl : Nat} {h : List AO} {s x : AV} (hs : lenOf s = some sl) (hx : lenOf x = some 0) (hr : Am.rowOf h x = some []) : appG keep lim p esz eb h s x = some (s, h) := by
  simp only [appG, exOp, hs, hx, hr, List.length_nil, Nat.zero_mul, if_true]
theorem appG_nil {keep : Bool} {lim p esz eb n : Nat} {h : List AO} {x : AV} {xs : List AV} (hn : n ≠ 0) (hx : lenOf x = some n) (hr : Am.rowOf h x = some xs) (hl : xs.length = n * esz) (hs : xs.all AV.scalar = true) (hb : n * eb ≤ 140737488355328) (heb : 1 ≤ eb) :
    appG keep lim p esz eb h .nils x = some (.ms esz p 0 n, h.set p (.cells xs false)) := by
  simp only [appG, exOp, lenOf_nils, hx, hr, hl, hn, hs, hb, heb, Nat.zero_add, if_true, if_false, and_self, newAt, Option.getD_some]
theorem appG_ms {keep : Bool} {lim p esz eb n o len : Nat} {h : List AO} {x : AV} {c xs : List AV} (hn : n ≠ 0) (ho : h[o]? = some (.cells c false)) (hc : len * esz = c.length) (hx : lenOf x = some n) (hr : Am.rowOf h x = some xs) (hl : xs.length = n * esz) (hs : xs.all AV.scalar = true)
    (hb : (len + n) * eb ≤ 140737488355328) (heb : 1 ≤ eb) (hlim : lim ≤ o) :
    appG keep lim p esz eb h (.ms esz o 0 len) x = some (.ms esz p 0 (len + n), (h.set o (if keep then .ro c else .tomb)).set p (.cells (c ++ xs) (keep && len != 0))) := by
  simp only [appG, exOp, lenOf_ms, hx, hr, hl, hn, hs, hb, heb, ho, hc, hlim, if_true, if_false, and_self, true_and, true_or, newObj', Option.getD_some, List.take_length, Bool.or_false]
theorem GO_mcall0 {X : Cx} {base : Nat} {k : List KF} {ts : List AV} {h : List AO} {mk : List Nat} {r : List AOper} {d : Option Nat} {f : Nat} {args : List Opd} {m : List Nat} :
    GO X base (⟨d, .call 0 f args, none, none, m⟩ :: r) k ts h mk = GX X base ((R X.E (.fn f) (args.map (Opd.ev ts)) (hide base m h) X.lim).map fun y => (y.1, unhide base h m y.2)) d r k ts mk := by
  rw [GO_slot]
  congr 1
  show exMask (R X.E) X.lim base none (Opd.ev ts) h (.call 0 f args) m = _
  rw [exMask_eq]; rfl
theorem GO_mapp {X : Cx} {base : Nat} {k : List KF} {ts : List AV} {h : List AO} {mk : List Nat} {r : List AOper} {d : Option Nat} {kp : Bool} {e eb s : Nat} {a x : Opd} {m : List Nat} :
    GO X base (⟨d, .append kp e eb a x, none, some s, m⟩ :: r) k ts h mk = GX X base ((appG kp X.lim (base + s) e eb (hide base m h) (a.ev ts) (x.ev ts)).map fun y => (y.1, unhide base h m y.2)) d r k ts mk := by
  rw [GO_slot]
  congr 1
  show exMask (R X.E) X.lim base (some (base + s)) (Opd.ev ts) h (.append kp e eb a x) m = _
  rw [exMask_eq]; rfl
theorem unhN {b : Nat} {h g : List AO} : unhide b h [] g = g := id rfl
theorem unhC {b s : Nat} {r : List Nat} {h g : List AO} : unhide b h (s :: r) g = (unhide b h r g).set (b + s) (h.getD (b + s) .tomb) := id rfl
theorem at_ap {α : Type} {l m : List α} {k : Nat} (h : k < l.length) : (l ++ m)[k]? = l[k]? := List.getElem?_append_left h
theorem mapM_pt {α β : Type} {f : AV → Option β} {g : α → β} {d : AV} {e : α} : ∀ {vs : List AV} {L : List α}, vs.length = L.length → (∀ i, i < L.length → f (vs.getD i d) = some (g (L.getD i e))) → vs.mapM f = some (L.map g)
  | [], [], _, _ => rfl
  | v :: vs, a :: L, hl, h => by
    have h0 := h 0 (by simp)
    have ih := mapM_pt (f := f) (g := g) (d := d) (e := e) (vs := vs) (L := L) (by simpa using hl) (fun i hi => h (i + 1) (by simpa using hi))
    simp only [get0] at h0
    simp only [List.mapM_cons, h0, ih, Option.bind_eq_bind, Option.bind_some, Option.pure_def, List.map_cons]
  | [], _ :: _, hl, _ => by simp at hl
  | _ :: _, [], hl, _ => by simp at hl
def resE (l : List Int) : List AV := [resL l]
theorem resE_map : ∀ L : List (List Int), L.map resL = L.flatMap resE
  | [] => rfl
  | a :: l => by simp only [List.map_cons, List.flatMap_cons, resE_map l]; rfl
def resLL (L : List (List Int)) : AV := if L = [] then .nils else slV 1 resE L
theorem OutLL.view {b k : Nat} {h : List AO} {v : AV} {L : List (List Int)} (H : OutLL b h v L) (st : Bool) : Am.view st h (k + 2) v = some (resLL L) := by
  rcases H with ⟨rfl, rfl⟩ | ⟨hne, o, vs, _, rfl, hc, hl, hrd⟩
  · rfl
  have e1 : vs.mapM (Am.view st h (k + 1)) = some (L.map resL) := mapM_pt (d := .undef) (e := []) hl fun i hi => (hrd i hi).view
  rw [resE_map] at e1
  rw [resLL, if_neg hne]
  simp only [view_ms, rowOf_ms, Am.rowAt, hc, Option.bind_some, AO.row?, List.drop_zero, Nat.mul_one, ← hl, List.take_length, if_true]
  rw [e1, hl]
  rfl
def OutE {α : Type} (enc : α → List AV) (esz b : Nat) (h : List AO) (v : AV) (l : List α) : Prop := (l = [] ∧ v = .nils) ∨ (l ≠ [] ∧ ∃ o, b ≤ o ∧ v = .ms esz o 0 l.length ∧ h[o]? = some (.cells (l.flatMap enc) false))
theorem outE_app {α : Type} {enc : α → List AV} {esz eb : Nat} (he : ∀ a, (enc a).length = esz) (hs : ∀ a, (enc a).all AV.scalar = true) (h1 : 1 ≤ esz) (heb : 1 ≤ eb) (hb : eb ≤ 1000) {pre J : List AO} {v : AV} {l : List α} {lim : Nat} (H : OutE enc esz pre.length (pre ++ J) v l) (hlim : lim ≤ pre.length) (hl : l.length ≤ 1000000) (x : α) :
    ∃ v' J', appV lim (pre ++ J) esz eb v (.cs esz 1 (enc x)) = some (v', pre ++ J') ∧ OutE enc esz pre.length (pre ++ J') v' (l ++ [x]) := by
  have hx : (enc x).length = 1 * esz := by rw [he]; omega
  rcases H with ⟨rfl, rfl⟩ | ⟨hne, o, ho, rfl, hc⟩
  · refine ⟨_, J ++ [AO.cells (enc x) false], ?_, .inr ⟨by simp, (pre ++ J).length, by simp, rfl, ?_⟩⟩
    · rw [appV_nil (n := 1) (xs := enc x) rfl rfl hx (hs x) (by omega) heb, if_neg (by omega)]
      simp
    · simp only [← List.append_assoc, List.nil_append, List.flatMap_cons, List.flatMap_nil, List.append_nil]
      exact atE
  · have ho' : o < (pre ++ J).length := (List.getElem?_eq_some_iff.1 hc).1
    refine ⟨_, J.set (o - pre.length) .tomb ++ [AO.cells ((l ++ [x]).flatMap enc) false], ?_, .inr ⟨by simp, (pre ++ J).length, by simp, rfl, ?_⟩⟩
    · have hbb : (l.length + 1) * eb ≤ 140737488355328 := by
        have := Nat.mul_le_mul (show l.length + 1 ≤ 1000001 by omega) hb
        omega
      rw [appV_ms (n := 1) (xs := enc x) (c := l.flatMap enc) (sh := false) hc (by rw [flat_len he]) rfl rfl hx (hs x) hbb heb (by omega), if_neg (by omega)]
      rw [List.set_append_right _ _ ho]
      simp
    · have e : (pre ++ J).length = (pre ++ J.set (o - pre.length) .tomb).length := by simp
      rw [e, ← List.append_assoc]
      exact atE
theorem outE_view {α : Type} {enc : α → List AV} {esz b : Nat} {h : List AO} {v : AV} {l : List α} (he : ∀ a, (enc a).length = esz) (H : OutE enc esz b h v l) (hne : l ≠ []) {st : Bool} {k : Nat} (hvw : ∀ a, (enc a).mapM (view st h k) = some (enc a)) : view st h (k + 1) v = some (slV esz enc l) := by
  rcases H with ⟨e, _⟩ | ⟨_, o, ho, rfl, hc⟩
  · exact absurd e hne
  · have e := flat_take (l := l) he
    have e2 : (l.flatMap enc).mapM (view st h k) = some (l.flatMap enc) := by
      apply mapM_view
      intro x hx
      obtain ⟨a, _, hx⟩ := List.mem_flatMap.1 hx
      exact mapM_fix (hvw a) x hx
    simp only [view_ms, rowOf_ms, Am.rowAt, hc, Option.bind_some, AO.row?, List.drop_zero, e, flat_len he, if_true, e2]
    rfl
where
  mapM_fix {f : AV → Option AV} : ∀ {c : List AV}, c.mapM f = some c → ∀ x ∈ c, f x = some x
    | [], _, x, hx => by simp at hx
    | a :: c, h, x, hx => by
      simp only [List.mapM_cons, Option.bind_eq_bind, Option.bind_eq_some_iff, Option.pure_def, Option.some.injEq, List.cons.injEq] at h
      obtain ⟨y, h1, ys, h2, rfl, rfl⟩ := h
      rcases List.mem_cons.1 hx with rfl | hx
      · exact h1
      · exact mapM_fix h2 x hx
theorem finC2 {lim i j s : Nat} {a : Bool} {P : AV → List AO → Prop} {ts : List AV} {h : List AO} : Done lim [.cell a s i, .tmp j] P .ret ⟨ts, h, []⟩ = ∃ v, getRes ts h (.cell a s i) = some v ∧ P (.tup [v, ts.getD j .undef]) h := by
  simp only [Done, finish, takeMarks, List.all_nil, if_true, List.mapM_cons, List.mapM_nil, Option.bind_eq_bind, Option.pure_def]
  cases getRes ts h (.cell a s i) <;> simp [getRes]
section
end
def RdC {α : Type} (enc : α → List AV) (esz : Nat) (h : List AO) (w : AV) (l : List α) : Prop := ∃ o, w = .ms esz o 0 l.length ∧ h[o]? = some (.cells (l.flatMap enc) false)
section
variable {α : Type} {enc : α → List AV} {esz eb : Nat} {l : List α}
theorem RdC.fr {h h' : List AO} {w : AV} (H : RdC enc esz h w l) (F : Fr h h') : RdC enc esz h' w l := by
  obtain ⟨o, e, hc⟩ := H; exact ⟨o, e, F.at hc⟩
theorem RdC.view {h : List AO} {w : AV} (H : RdC enc esz h w l) (he : ∀ a, (enc a).length = esz) (hi : ∀ a, ∀ x ∈ enc a, ∃ k i, x = .int k i) {st : Bool} {k : Nat} : Am.view st h (k + 1) w = some (slV esz enc l) := by
  obtain ⟨o, rfl, hc⟩ := H
  have e := flat_take (l := l) he
  simp only [view_ms, rowOf_ms, Am.rowAt, hc, Option.bind_some, AO.row?, List.drop_zero, e, flat_len he, if_true, flat_view hi]
  rfl
theorem RdC.sc {h : List AO} {w : AV} (H : RdC enc esz h w l) : w.cells = [w] ∧ w.scalar = true ∧ lenV w = some (I l.length) := by
  obtain ⟨o, rfl, hc⟩ := H; exact ⟨rfl, rfl, rfl⟩
end
section
end
theorem OutE.viewL {b : Nat} {h : List AO} {v : AV} {l : List Int} (H : OutE intL 1 b h v l) {st : Bool} {k : Nat} : Am.view st h (k + 1) v = some (resL l) := by
  by_cases hne : l = []
  · subst hne
    rcases H with ⟨_, rfl⟩ | ⟨h, _⟩
    · rfl
    · exact absurd rfl h
  · rw [resL, if_neg hne]
    exact outE_view intE H hne fun a => by
      show [I a].mapM _ = _
      rw [List.mapM_cons, view_int]; rfl
structure Fk (b : Nat) (h h' : List AO) : Prop where
  l : h.length ≤ h'.length
  k : ∀ j, b ≤ j → j < h.length → h'[j]? = h[j]?
theorem Fk.trans {n : Nat} {a b c : List AO} (h : Fk n a b) (h' : Fk n b c) : Fk n a c := ⟨Nat.le_trans h.l h'.l, fun j hn hj => (h'.k j hn (Nat.lt_of_lt_of_le hj h.l)).trans (h.k j hn hj)⟩
theorem Fk.of {b : Nat} {h h' : List AO} (F : Fr h h') : Fk b h h' := ⟨F.l, fun j _ hj => F.k j hj⟩
theorem Fk.at {b : Nat} {h h' : List AO} (F : Fk b h h') {j : Nat} (hb : b ≤ j) {x : AO} (hx : h[j]? = some x) : h'[j]? = some x := by rw [F.k j hb (List.getElem?_eq_some_iff.1 hx).1]; exact hx
theorem take_snoc {α : Type} {l : List α} {i : Nat} {d : α} (h : i < l.length) : l.take (i + 1) = l.take i ++ [l.getD i d] := by
  rw [List.take_succ_eq_append_getElem h, List.getD_eq_getElem?_getD, List.getElem?_eq_getElem h]; rfl
section
end
noncomputable def C2 (E : Env) (f : Nat) (ws : List AV) (h : List AO) : Option (AV × List AO) :=
  if AV.pureV.go ws then (match R E (.fn f) ws [] 0 with
    | some (r, h') => some (r.shift h.length, h ++ h'.map (AO.shift h.length))
    | none => none)
  else (match ws.mapM (view false h 8) with
    | some vs => (match R E (.fn f) vs [] 0 with
      | some (r, h') => (view true h' 8 r).map fun r' => (r', h)
      | none => none)
    | none => none)
theorem exOp_call2 {E : Env} {lim : Nat} {pl : Option Nat} {ρ : Opd → AV} {h : List AO} {f : Nat} {args : List Opd} : exOp (R E) lim pl ρ h (.call 2 f args) = C2 E f (args.map ρ) h := by
  simp only [exOp, C2]
  rfl
theorem C2_of {f : Nat} {ws : List AV} {r : AV} {J h : List AO} (hp : AV.pureV.go ws = true) (hr : R E (.fn f) ws [] 0 = some (r, J)) : C2 E f ws h = some (r.shift h.length, h ++ J.map (AO.shift h.length)) := by
  simp only [C2, hp, hr, if_true]
theorem cpyQ {α : Type} {enc : α → List AV} {esz eb : Nat} {l : List α} {v : AV} {h J : List AO} {lim : Nat} (hv : IsSl esz enc l v) (he : ∀ a, (enc a).length = esz) (hs : ∀ a, (enc a).all AV.scalar = true) (hb : l.length * eb ≤ 140737488355328) (heb : 1 ≤ eb) (hlim : lim ≤ h.length) :
    ∃ q x0 x1, q < 2 ∧ appG true lim (h.length + 1) esz eb (h ++ .cells [] false :: .tomb :: J) (.ms esz h.length 0 0) v = some (.ms esz (h.length + q) 0 l.length, h ++ x0 :: x1 :: J) ∧ [x0, x1][q]? = some (.cells (l.flatMap enc) false) := by
  by_cases hz : l.length = 0
  · have e : l = [] := List.eq_nil_of_length_eq_zero hz
    subst e
    refine ⟨0, .cells [] false, .tomb, by omega, ?_, rfl⟩
    have hr : Am.rowOf (h ++ .cells [] false :: .tomb :: J) v = some [] := rowOf_sl hv _
    rw [appG_zero (sl := 0) rfl (lenOf_sl hv) hr]; rfl
  · refine ⟨1, .ro [], .cells (l.flatMap enc) false, by omega, ?_, rfl⟩
    rw [appG_ms (c := []) hz atA0 (by simp) (lenOf_sl hv) (rowOf_sl hv _) (flat_len he l) (scal_sl hs l) (by simpa using hb) heb hlim, setT0, setT]
    simp
theorem cpyO {α : Type} {enc : α → List AV} {esz eb : Nat} {l : List α} {v : AV} {h : List AO} {lim : Nat} (hv : IsSl esz enc l v) (he : ∀ a, (enc a).length = esz) (hs : ∀ a, (enc a).all AV.scalar = true) (hb : l.length * eb ≤ 140737488355328) (heb : 1 ≤ eb) (hlim : lim ≤ h.length) :
    ∃ o h', appV lim (h ++ [.cells [] false]) esz eb (.ms esz h.length 0 0) v = some (.ms esz o 0 l.length, h') ∧ Fr h h' ∧ h.length ≤ o ∧ h'[o]? = some (.cells (l.flatMap enc) false) := by
  rw [appV_new hv he hs hb heb _ _ _ atE hlim]
  by_cases hz : l.length = 0
  · rw [if_pos hz]
    refine ⟨h.length, _, by rw [hz], Fr.app _ _, Nat.le_refl _, ?_⟩
    rw [List.eq_nil_of_length_eq_zero hz]; exact atE
  · rw [if_neg hz]
    refine ⟨(h ++ [AO.cells [] false]).length, _, rfl, ⟨by simp, fun j hj => ?_⟩, by simp, ?_⟩
    · rw [List.getElem?_append_left (by simp; omega), List.getElem?_set_ne (by omega), List.getElem?_append_left hj]
    · rw [List.getElem?_append_right (by simp)]; simp
end Go.Proofs.YtfagcnokdnanpaaGreat.S
/-
Houses as values, and the small functions of both sides.
-/
namespace Go.Proofs.YtfagcnokdnanpaaGreat.S
open Go Go.Am Go.Proofs.YtfagcnokdnanpaaGreat.T
set_option maxRecDepth 100000
set_option linter.unusedSimpArgs false
set_option linter.unusedVariables false
def Kd.e (x : Kd) : List AV := [I x.s, I x.d]
def Pr.e (x : Pr) : List AV := [I x.k, I x.p]
theorem Kd.el (x : Kd) : x.e.length = 2 := rfl
theorem Pr.el (x : Pr) : x.e.length = 2 := rfl
theorem Kd.sc (x : Kd) : x.e.all AV.scalar = true := rfl
theorem Pr.sc (x : Pr) : x.e.all AV.scalar = true := rfl
theorem Kd.iv (x : Kd) : ∀ y ∈ x.e, ∃ k i, y = .int k i := by simp [Kd.e]
theorem Pr.iv (x : Pr) : ∀ y ∈ x.e, ∃ k i, y = .int k i := by simp [Pr.e]
theorem elem_kd {l : List Kd} {v : AV} (h : IsSl 2 Kd.e l v) : ∀ i : Int, 0 ≤ i → i < l.length → elemAt 2 v (I i) = some (.cptr [I (l.getD i.toNat default).s, I (l.getD i.toNat default).d]) := elem_sl Kd.el h
theorem elem_pr {l : List Pr} {v : AV} (h : IsSl 2 Pr.e l v) : ∀ i : Int, 0 ≤ i → i < l.length → elemAt 2 v (I i) = some (.cptr [I (l.getD i.toNat default).k, I (l.getD i.toNat default).p]) := elem_sl Pr.el h
abbrev hsV (f : Int) (k p b : AV) : AV := .agg [k, I f, p, b]
structure HsIn (h : Hs) (k p b : AV) : Prop where
  k : IsSl 2 Kd.e h.ks k
  p : IsSl 2 Pr.e h.ps p
  b : IsSl 1 intL h.bs b
structure HsOk (h : Hs) (k p b : AV) : Prop extends HsIn h k p b where
  nk : h.ks.length ≤ 41
  np : h.ps.length ≤ 41
  nb : h.bs.length ≤ 41
def kdOk (x : Kd) : Bool := inR x.s 0 9 && inR x.d 0 20
def prOk (n : Nat) (x : Pr) : Bool := inR x.k 0 ((n : Int) - 1) && inR x.p 0 40
def Hs.valid (h : Hs) : Bool := decide (h.ks.length ≤ 3) && h.ks.all kdOk && inR h.fl 0 9 && decide (h.ps.length ≤ 6) && h.ps.all (prOk h.ks.length) && decide (h.bs.length ≤ 4) && h.bs.all (fun b => inR b 0 99)
theorem mem_iff_getD {α : Type} {l : List α} {d : α} {p : α → Prop} : (∀ x ∈ l, p x) ↔ ∀ i, i < l.length → p (l.getD i d) := by
  constructor
  · intro h i hi
    rw [List.getD_eq_getElem?_getD, List.getElem?_eq_getElem hi]; exact h _ (List.getElem_mem hi)
  · intro h x hx
    obtain ⟨i, hi, rfl⟩ := mem_getD (d := d) hx
    exact h i hi
theorem valid_iff {h : Hs} : h.valid = true ↔ HG h := by
  simp only [Hs.valid, Bool.and_eq_true, decide_eq_true_eq, List.all_eq_true, inR_iff, kdOk, prOk]
  rw [mem_iff_getD (l := h.ks) (d := default), mem_iff_getD (l := h.ps) (d := default), mem_iff_getD (l := h.bs) (d := 0)]
  constructor
  · rintro ⟨⟨⟨⟨⟨⟨a, b⟩, c⟩, d⟩, e⟩, f⟩, g⟩
    exact ⟨a, d, f, ⟨fun i hi => by have := b i hi; omega, c⟩, fun i hi => by have := e i hi; omega, fun i hi => g i hi⟩
  · intro H
    exact ⟨⟨⟨⟨⟨⟨H.nk, fun i hi => by have := H.g.k i hi; omega⟩, H.g.f⟩, H.np⟩, fun i hi => by have := H.q i hi; omega⟩, H.nb⟩, fun i hi => H.b i hi⟩
theorem s66 (n lo hi : Int) (st : Bool) : Iso E 115 [I n, I lo, I hi] st = some (Bo (inR n lo hi)) := by
  refine Iso_of (es _ _ _ _) e115 ?_
  simp only [f115]
  simp (disch := first | assumption | omega | (simp only [az]; done)) only [ru, eq_self, if_true, if_false, BEq.rfl, binI, AO.row?, splice, fillL, mmAll, loadV, storeV, zeros, Am.rowAt, Am.part, addOff, Nat.reduceAdd, Nat.reduceMul, Nat.reduceLeDiff, Nat.reduceSub, Nat.reduceLT, Int.reduceEq, Int.reduceLT, Int.reduceLE, Int.reduceGT, Int.reduceGE, Int.reduceAdd, Int.reduceSub, Int.reduceMul, Int.reduceNeg, Int.reduceToNat, reduceCtorEq, reduceIte, s57]
theorem s83 (n lo hi : Int) (st : Bool) : Iso E 142 [I n, I lo, I hi] st = some (Bo (inR n lo hi)) := by
  refine Iso_of (es _ _ _ _) e142 ?_
  simp only [f142, inR]
  simp (disch := first | assumption | omega | (simp only [az]; done)) only [ru, eq_self, if_true, if_false, BEq.rfl, binI, AO.row?, splice, fillL, mmAll, loadV, storeV, zeros, Am.rowAt, Am.part, addOff, Nat.reduceAdd, Nat.reduceMul, Nat.reduceLeDiff, Nat.reduceSub, Nat.reduceLT, Int.reduceEq, Int.reduceLT, Int.reduceLE, Int.reduceGT, Int.reduceGE, Int.reduceAdd, Int.reduceSub, Int.reduceMul, Int.reduceNeg, Int.reduceToNat, reduceCtorEq, reduceIte]
  by_cases h1 : lo ≤ n
  · simp (disch := first | assumption | omega | (simp only [az]; done)) only [ru, eq_self, if_true, if_false, BEq.rfl, binI, AO.row?, splice, fillL, mmAll, loadV, storeV, zeros, Am.rowAt, Am.part, addOff, Nat.reduceAdd, Nat.reduceMul, Nat.reduceLeDiff, Nat.reduceSub, Nat.reduceLT, Int.reduceEq, Int.reduceLT, Int.reduceLE, Int.reduceGT, Int.reduceGE, Int.reduceAdd, Int.reduceSub, Int.reduceMul, Int.reduceNeg, Int.reduceToNat, reduceCtorEq, reduceIte, h1]
  · simp (disch := first | assumption | omega | (simp only [az]; done)) only [ru, eq_self, if_true, if_false, BEq.rfl, binI, AO.row?, splice, fillL, mmAll, loadV, storeV, zeros, Am.rowAt, Am.part, addOff, Nat.reduceAdd, Nat.reduceMul, Nat.reduceLeDiff, Nat.reduceSub, Nat.reduceLT, Int.reduceEq, Int.reduceLT, Int.reduceLE, Int.reduceGT, Int.reduceGE, Int.reduceAdd, Int.reduceSub, Int.reduceMul, Int.reduceNeg, Int.reduceToNat, reduceCtorEq, reduceIte, h1, gUn]
section
variable {h : Hs} {k p b : AV}
theorem s58 (H : HsOk h k p b) (n : Int) (st : Bool) : Iso E 108 [hsV h.fl k p b, I n] st = some (Bo (inR n 0 (h.bs.length - 1))) := by
  have := H.nb
  refine Iso_of (es _ _ _ _) e108 ?_
  simp only [f108, hsV]
  simp (disch := first | assumption | omega | (simp only [az]; done)) only [ru, eq_self, if_true, if_false, BEq.rfl, binI, AO.row?, splice, fillL, mmAll, loadV, storeV, zeros, Am.rowAt, Am.part, addOff, Nat.reduceAdd, Nat.reduceMul, Nat.reduceLeDiff, Nat.reduceSub, Nat.reduceLT, Int.reduceEq, Int.reduceLT, Int.reduceLE, Int.reduceGT, Int.reduceGE, Int.reduceAdd, Int.reduceSub, Int.reduceMul, Int.reduceNeg, Int.reduceToNat, reduceCtorEq, reduceIte, s66, lenV_sl H.k, lenV_sl H.p, lenV_sl H.b, elem_kd H.k, elem_pr H.p, elem_in H.b, view_sl H.k, view_sl H.p, view_sl H.b, scalar_sl H.k, scalar_sl H.p, scalar_sl H.b, cells_sl H.k, cells_sl H.p, cells_sl H.b, pure_sl H.k, pure_sl H.p, pure_sl H.b, Int.toNat_natCast]
theorem s73 (H : HsOk h k p b) (n : Int) (st : Bool) : Iso E 135 [hsV h.fl k p b, I n] st = some (Bo (inR n 0 (h.bs.length - 1))) := by
  have := H.nb
  refine Iso_of (es _ _ _ _) e135 ?_
  simp only [f135, hsV]
  simp (disch := first | assumption | omega | (simp only [az]; done)) only [ru, eq_self, if_true, if_false, BEq.rfl, binI, AO.row?, splice, fillL, mmAll, loadV, storeV, zeros, Am.rowAt, Am.part, addOff, Nat.reduceAdd, Nat.reduceMul, Nat.reduceLeDiff, Nat.reduceSub, Nat.reduceLT, Int.reduceEq, Int.reduceLT, Int.reduceLE, Int.reduceGT, Int.reduceGE, Int.reduceAdd, Int.reduceSub, Int.reduceMul, Int.reduceNeg, Int.reduceToNat, reduceCtorEq, reduceIte, s83, lenV_sl H.k, lenV_sl H.p, lenV_sl H.b, elem_kd H.k, elem_pr H.p, elem_in H.b, view_sl H.k, view_sl H.p, view_sl H.b, scalar_sl H.k, scalar_sl H.p, scalar_sl H.b, cells_sl H.k, cells_sl H.p, cells_sl H.b, pure_sl H.k, pure_sl H.p, pure_sl H.b, Int.toNat_natCast]
end
theorem s91 (x : Kd) (h : List AO) : Ro E 144 [.agg [I x.s, I x.d]] h = some (Bo (kdOk x)) := by
  refine Ro_of (es _ _ _ _) e144 ?_
  simp only [f144, kdOk]
  cases h1 : inR x.s 0 9
  · simp (disch := first | assumption | omega | (simp only [az]; done)) only [ru, eq_self, if_true, if_false, BEq.rfl, binI, AO.row?, splice, fillL, mmAll, loadV, storeV, zeros, Am.rowAt, Am.part, addOff, Nat.reduceAdd, Nat.reduceMul, Nat.reduceLeDiff, Nat.reduceSub, Nat.reduceLT, Int.reduceEq, Int.reduceLT, Int.reduceLE, Int.reduceGT, Int.reduceGE, Int.reduceAdd, Int.reduceSub, Int.reduceMul, Int.reduceNeg, Int.reduceToNat, reduceCtorEq, reduceIte, s83, atE, lenE, h1, gUn, Bool.false_and]
    rfl
  simp (disch := first | assumption | omega | (simp only [az]; done)) only [ru, eq_self, if_true, if_false, BEq.rfl, binI, AO.row?, splice, fillL, mmAll, loadV, storeV, zeros, Am.rowAt, Am.part, addOff, Nat.reduceAdd, Nat.reduceMul, Nat.reduceLeDiff, Nat.reduceSub, Nat.reduceLT, Int.reduceEq, Int.reduceLT, Int.reduceLE, Int.reduceGT, Int.reduceGE, Int.reduceAdd, Int.reduceSub, Int.reduceMul, Int.reduceNeg, Int.reduceToNat, reduceCtorEq, reduceIte, s83, atE, lenE, h1, gUn, Bool.true_and]
  rfl
theorem s93 (x : Int) (h : List AO) : Ro E 146 [I x] h = some (Bo (inR x 0 99)) := by
  refine Ro_of (es _ _ _ _) e146 ?_
  simp only [f146]
  simp (disch := first | assumption | omega | (simp only [az]; done)) only [ru, eq_self, if_true, if_false, BEq.rfl, binI, AO.row?, splice, fillL, mmAll, loadV, storeV, zeros, Am.rowAt, Am.part, addOff, Nat.reduceAdd, Nat.reduceMul, Nat.reduceLeDiff, Nat.reduceSub, Nat.reduceLT, Int.reduceEq, Int.reduceLT, Int.reduceLE, Int.reduceGT, Int.reduceGE, Int.reduceAdd, Int.reduceSub, Int.reduceMul, Int.reduceNeg, Int.reduceToNat, reduceCtorEq, reduceIte, s83]
  rfl
theorem s92 {L : List Kd} {kv fv pv bv : AV} (K : IsSl 2 Kd.e L kv) (hk : L.length ≤ 41) (x : Pr) {o : Nat} {h : List AO} (ho : h[o]? = some (.cells [kv, fv, pv, bv] false)) : Ro E 145 [.agg [I x.k, I x.p], .ptr o 0] h = some (Bo (prOk L.length x)) := by
  have ol := (List.getElem?_eq_some_iff.1 ho).1
  refine Ro_of (es _ _ _ _) e145 ?_
  simp only [f145, prOk]
  have e : (h ++ [AO.cells [I x.k, I x.p] false])[o]? = some (.cells [kv, fv, pv, bv] false) := by rw [List.getElem?_append_left ol]; exact ho
  cases h1 : inR x.k 0 (L.length - 1)
  · simp (disch := first | assumption | omega | (simp only [az]; done)) only [ru, eq_self, if_true, if_false, BEq.rfl, binI, AO.row?, splice, fillL, mmAll, loadV, storeV, zeros, Am.rowAt, Am.part, addOff, Nat.reduceAdd, Nat.reduceMul, Nat.reduceLeDiff, Nat.reduceSub, Nat.reduceLT, Int.reduceEq, Int.reduceLT, Int.reduceLE, Int.reduceGT, Int.reduceGE, Int.reduceAdd, Int.reduceSub, Int.reduceMul, Int.reduceNeg, Int.reduceToNat, reduceCtorEq, reduceIte, s83, lenV_sl K, view_sl K, scalar_sl K, cells_sl K, pure_sl K, atE, lenE, e, h1, gUn, Bool.false_and]
    rfl
  simp (disch := first | assumption | omega | (simp only [az]; done)) only [ru, eq_self, if_true, if_false, BEq.rfl, binI, AO.row?, splice, fillL, mmAll, loadV, storeV, zeros, Am.rowAt, Am.part, addOff, Nat.reduceAdd, Nat.reduceMul, Nat.reduceLeDiff, Nat.reduceSub, Nat.reduceLT, Int.reduceEq, Int.reduceLT, Int.reduceLE, Int.reduceGT, Int.reduceGE, Int.reduceAdd, Int.reduceSub, Int.reduceMul, Int.reduceNeg, Int.reduceToNat, reduceCtorEq, reduceIte, s83, lenV_sl K, view_sl K, scalar_sl K, cells_sl K, pure_sl K, atE, lenE, e, h1, gUn, Bool.true_and]
  rfl
theorem any_upto_succ {α : Type} {d : α} {l : List α} {q : α → Bool} {i : Nat} (hi : i < l.length) (h : (l.take i).any q = false) (hq : q (l.getD i d) = false) : (l.take (i + 1)).any q = false := by
  rw [take_snoc (d := d) hi, List.any_append, h, List.any_cons, hq]; rfl
theorem any_at {α : Type} {d : α} {l : List α} {q : α → Bool} {i : Nat} (hi : i < l.length) (hq : q (l.getD i d) = true) : l.any q = true := List.any_eq_true.2 ⟨l.getD i d, by
  rw [List.getD_eq_getElem?_getD, List.getElem?_eq_getElem hi]; exact List.getElem_mem hi, hq⟩
theorem any_all {α : Type} {q : α → Bool} : ∀ {l : List α}, (!l.any fun x => !q x) = l.all q
  | [] => rfl
  | a :: l => by rw [List.any_cons, List.all_cons, Bool.not_or, Bool.not_not, any_all]
theorem s106 {q : Kd → Bool} {c : Nat} {cap : List AV} (x : Kd) {o : Nat} {h : List AO} (ho : h[o]? = some (.cells [.fn c [] cap] false)) (hq : ∀ X, Ro E c (.agg [I x.s, I x.d] :: cap) (h ++ X) = some (Bo (q x))) : Ro E 153 [.agg [I x.s, I x.d], .ptr o 0] h = some (Bo (!q x)) := by
  have ol := (List.getElem?_eq_some_iff.1 ho).1
  refine Ro_of (es _ _ _ _) e153 ?_
  simp only [f153]
  have h0 := hq []
  rw [List.append_nil] at h0
  simp (disch := first | assumption | omega | (simp only [az]; done)) only [ru, eq_self, if_true, if_false, BEq.rfl, binI, AO.row?, splice, fillL, mmAll, loadV, storeV, zeros, Am.rowAt, Am.part, addOff, Nat.reduceAdd, Nat.reduceMul, Nat.reduceLeDiff, Nat.reduceSub, Nat.reduceLT, Int.reduceEq, Int.reduceLT, Int.reduceLE, Int.reduceGT, Int.reduceGE, Int.reduceAdd, Int.reduceSub, Int.reduceMul, Int.reduceNeg, Int.reduceToNat, reduceCtorEq, reduceIte, atE, lenE, at_ap ol, ho, exOp_callv1, List.nil_append, List.cons_append, hq, h0]
  rfl
set_option maxHeartbeats 1000000 in
theorem s114 {L : List Kd} {v : AV} (H : IsSl 2 Kd.e L v) (hl : L.length ≤ 41) {q : Kd → Bool} {k : Nat} {cap : List AV} {h : List AO} (hq : ∀ x : Kd, Ro E k (.agg [I x.s, I x.d] :: cap) h = some (Bo (q x))) :
    ∃ j : Int, Ro E 157 [v, .fn k [] cap] h = some (I j) ∧ decide (j ≥ 0) = L.any q := by
  refine (fun x => ?_ : (∃ w, Ro E 157 [v, .fn k [] cap] h = some w ∧ ∃ j : Int, w = I j ∧ decide (j ≥ 0) = L.any q) → _) (Ro_ex (fun r => ∃ j : Int, r = I j ∧ decide (j ≥ 0) = L.any q) (by rintro _ ⟨j, rfl, _⟩; rfl) (es _ _ _ _) e157 ?_)
  · obtain ⟨w, hv, j, rfl, hj⟩ := x; exact ⟨j, hv, hj⟩
  have ep := elem_kd H
  simp only [f157]
  simp (disch := first | assumption | omega | (simp only [az]; done)) only [ru, eq_self, if_true, if_false, BEq.rfl, binI, AO.row?, splice, fillL, mmAll, loadV, storeV, zeros, Am.rowAt, Am.part, addOff, Nat.reduceAdd, Nat.reduceMul, Nat.reduceLeDiff, Nat.reduceSub, Nat.reduceLT, Int.reduceEq, Int.reduceLT, Int.reduceLE, Int.reduceGT, Int.reduceGE, Int.reduceAdd, Int.reduceSub, Int.reduceMul, Int.reduceNeg, Int.reduceToNat, reduceCtorEq, reduceIte, lenV_sl H]
  refine G_loop_ind (fun m ts hh mk => ∃ i : Nat, i ≤ L.length ∧ m = L.length - i ∧ (L.take i).any q = false ∧ ts.length = 19 ∧ ts.getD 0 .undef = v ∧ ts.getD 1 .undef = .fn k [] cap ∧ ts.getD 7 .undef = I L.length ∧ ts.getD 8 .undef = I i ∧ hh = h ∧ mk = []) ?_ _ _ _ _
    ⟨0, Nat.zero_le _, rfl, rfl, rfl, rfl, rfl, rfl, rfl, rfl, rfl⟩
  rintro m ts hh mk ih ⟨i, hi, rfl, hall, hl', q0, q1, q7, q8, rfl, rfl⟩
  rw [lit_all hl']
  simp only [lit0, litS, Nat.reduceAdd, q0, q1, q7, q8]
  simp (disch := first | assumption | omega | (simp only [az]; done)) only [ru, eq_self, if_true, if_false, BEq.rfl, binI, AO.row?, splice, fillL, mmAll, loadV, storeV, zeros, Am.rowAt, Am.part, addOff, Nat.reduceAdd, Nat.reduceMul, Nat.reduceLeDiff, Nat.reduceSub, Nat.reduceLT, Int.reduceEq, Int.reduceLT, Int.reduceLE, Int.reduceGT, Int.reduceGE, Int.reduceAdd, Int.reduceSub, Int.reduceMul, Int.reduceNeg, Int.reduceToNat, reduceCtorEq, reduceIte]
  by_cases hlt : (i : Int) < L.length
  case pos =>
    have hi' : i < L.length := by omega
    have nx := any_upto_succ (d := default) hi' hall
    have ya := any_at (d := default) (q := q) hi'
    obtain ⟨x, hx⟩ : ∃ x, x = L.getD i default := ⟨_, rfl⟩
    have hr := hq x
    rw [← hx] at nx ya
    cases hc : q x
    · rw [hc] at hr
      simp (disch := first | assumption | omega | (simp only [az]; done)) only [ru, eq_self, if_true, if_false, BEq.rfl, binI, AO.row?, splice, fillL, mmAll, loadV, storeV, zeros, Am.rowAt, Am.part, addOff, Nat.reduceAdd, Nat.reduceMul, Nat.reduceLeDiff, Nat.reduceSub, Nat.reduceLT, Int.reduceEq, Int.reduceLT, Int.reduceLE, Int.reduceGT, Int.reduceGE, Int.reduceAdd, Int.reduceSub, Int.reduceMul, Int.reduceNeg, Int.reduceToNat, reduceCtorEq, reduceIte, hlt, ep, Int.toNat_natCast, ← hx, exOp_callv1, List.nil_append, List.cons_append, hr]
      exact ih (L.length - (i + 1)) _ _ _ (by omega) ⟨i + 1, by omega, rfl, nx hc, rfl, rfl, rfl, rfl, rfl, rfl, rfl⟩
    · rw [hc] at hr
      simp (disch := first | assumption | omega | (simp only [az]; done)) only [ru, eq_self, if_true, if_false, BEq.rfl, binI, AO.row?, splice, fillL, mmAll, loadV, storeV, zeros, Am.rowAt, Am.part, addOff, Nat.reduceAdd, Nat.reduceMul, Nat.reduceLeDiff, Nat.reduceSub, Nat.reduceLT, Int.reduceEq, Int.reduceLT, Int.reduceLE, Int.reduceGT, Int.reduceGE, Int.reduceAdd, Int.reduceSub, Int.reduceMul, Int.reduceNeg, Int.reduceToNat, reduceCtorEq, reduceIte, hlt, ep, Int.toNat_natCast, ← hx, exOp_callv1, List.nil_append, List.cons_append, hr]
      exact ⟨i, rfl, by rw [ya hc]; simp⟩
  obtain rfl : i = L.length := by omega
  rw [List.take_length] at hall
  simp (disch := first | assumption | omega | (simp only [az]; done)) only [ru, eq_self, if_true, if_false, BEq.rfl, binI, AO.row?, splice, fillL, mmAll, loadV, storeV, zeros, Am.rowAt, Am.part, addOff, Nat.reduceAdd, Nat.reduceMul, Nat.reduceLeDiff, Nat.reduceSub, Nat.reduceLT, Int.reduceEq, Int.reduceLT, Int.reduceLE, Int.reduceGT, Int.reduceGE, Int.reduceAdd, Int.reduceSub, Int.reduceMul, Int.reduceNeg, Int.reduceToNat, reduceCtorEq, reduceIte, hlt]
  exact ⟨-1, rfl, by rw [hall]; decide⟩
theorem s105 {L : List Kd} {v : AV} (H : IsSl 2 Kd.e L v) (hl : L.length ≤ 41) {q : Kd → Bool} {k : Nat} {cap : List AV} {h : List AO} (hq : ∀ x : Kd, Ro E k (.agg [I x.s, I x.d] :: cap) h = some (Bo (q x))) : Ro E 152 [v, .fn k [] cap] h = some (Bo (L.any q)) := by
  obtain ⟨j, hr, hj⟩ := s114 H hl hq
  refine Ro_of (es _ _ _ _) e152 ?_
  simp only [f152]
  simp (disch := first | assumption | omega | (simp only [az]; done)) only [ru, eq_self, if_true, if_false, BEq.rfl, binI, AO.row?, splice, fillL, mmAll, loadV, storeV, zeros, Am.rowAt, Am.part, addOff, Nat.reduceAdd, Nat.reduceMul, Nat.reduceLeDiff, Nat.reduceSub, Nat.reduceLT, Int.reduceEq, Int.reduceLT, Int.reduceLE, Int.reduceGT, Int.reduceGE, Int.reduceAdd, Int.reduceSub, Int.reduceMul, Int.reduceNeg, Int.reduceToNat, reduceCtorEq, reduceIte, hr]
  rw [hj]; exact ⟨rfl, rfl⟩
theorem s94 {L : List Kd} {v : AV} (H : IsSl 2 Kd.e L v) (hl : L.length ≤ 41) {q : Kd → Bool} {c : Nat} {cap : List AV} {h : List AO} (hq : ∀ (x : Kd) X, Ro E c (.agg [I x.s, I x.d] :: cap) (h ++ X) = some (Bo (q x))) : Ro E 147 [v, .fn c [] cap] h = some (Bo (L.all q)) := by
  have hr := s105 H hl (q := fun x => !q x) (k := 153) (cap := [.ptr h.length 0]) (h := h ++ [.cells [.fn c [] cap] false]) fun x => s106 x atE fun X => by rw [List.append_assoc]; exact hq x _
  have e : (!L.any fun x => !q x) = L.all q := any_all
  refine Ro_of (es _ _ _ _) e147 ?_
  simp only [f147]
  simp (disch := first | assumption | omega | (simp only [az]; done)) only [ru, eq_self, if_true, if_false, BEq.rfl, binI, AO.row?, splice, fillL, mmAll, loadV, storeV, zeros, Am.rowAt, Am.part, addOff, Nat.reduceAdd, Nat.reduceMul, Nat.reduceLeDiff, Nat.reduceSub, Nat.reduceLT, Int.reduceEq, Int.reduceLT, Int.reduceLE, Int.reduceGT, Int.reduceGE, Int.reduceAdd, Int.reduceSub, Int.reduceMul, Int.reduceNeg, Int.reduceToNat, reduceCtorEq, reduceIte, lenV_sl H, view_sl H, scalar_sl H, cells_sl H, pure_sl H, hr, e]
  rfl
theorem s108 {q : Pr → Bool} {c : Nat} {cap : List AV} (x : Pr) {o : Nat} {h : List AO} (ho : h[o]? = some (.cells [.fn c [] cap] false)) (hq : ∀ X, Ro E c (.agg [I x.k, I x.p] :: cap) (h ++ X) = some (Bo (q x))) : Ro E 155 [.agg [I x.k, I x.p], .ptr o 0] h = some (Bo (!q x)) := by
  have ol := (List.getElem?_eq_some_iff.1 ho).1
  refine Ro_of (es _ _ _ _) e155 ?_
  simp only [f155]
  have h0 := hq []
  rw [List.append_nil] at h0
  simp (disch := first | assumption | omega | (simp only [az]; done)) only [ru, eq_self, if_true, if_false, BEq.rfl, binI, AO.row?, splice, fillL, mmAll, loadV, storeV, zeros, Am.rowAt, Am.part, addOff, Nat.reduceAdd, Nat.reduceMul, Nat.reduceLeDiff, Nat.reduceSub, Nat.reduceLT, Int.reduceEq, Int.reduceLT, Int.reduceLE, Int.reduceGT, Int.reduceGE, Int.reduceAdd, Int.reduceSub, Int.reduceMul, Int.reduceNeg, Int.reduceToNat, reduceCtorEq, reduceIte, atE, lenE, at_ap ol, ho, exOp_callv1, List.nil_append, List.cons_append, hq, h0]
  rfl
set_option maxHeartbeats 1000000 in
theorem s115 {L : List Pr} {v : AV} (H : IsSl 2 Pr.e L v) (hl : L.length ≤ 41) {q : Pr → Bool} {k : Nat} {cap : List AV} {h : List AO} (hq : ∀ x : Pr, Ro E k (.agg [I x.k, I x.p] :: cap) h = some (Bo (q x))) :
    ∃ j : Int, Ro E 158 [v, .fn k [] cap] h = some (I j) ∧ decide (j ≥ 0) = L.any q := by
  refine (fun x => ?_ : (∃ w, Ro E 158 [v, .fn k [] cap] h = some w ∧ ∃ j : Int, w = I j ∧ decide (j ≥ 0) = L.any q) → _) (Ro_ex (fun r => ∃ j : Int, r = I j ∧ decide (j ≥ 0) = L.any q) (by rintro _ ⟨j, rfl, _⟩; rfl) (es _ _ _ _) e158 ?_)
  · obtain ⟨w, hv, j, rfl, hj⟩ := x; exact ⟨j, hv, hj⟩
  have ep := elem_pr H
  simp only [f158]
  simp (disch := first | assumption | omega | (simp only [az]; done)) only [ru, eq_self, if_true, if_false, BEq.rfl, binI, AO.row?, splice, fillL, mmAll, loadV, storeV, zeros, Am.rowAt, Am.part, addOff, Nat.reduceAdd, Nat.reduceMul, Nat.reduceLeDiff, Nat.reduceSub, Nat.reduceLT, Int.reduceEq, Int.reduceLT, Int.reduceLE, Int.reduceGT, Int.reduceGE, Int.reduceAdd, Int.reduceSub, Int.reduceMul, Int.reduceNeg, Int.reduceToNat, reduceCtorEq, reduceIte, lenV_sl H]
  refine G_loop_ind (fun m ts hh mk => ∃ i : Nat, i ≤ L.length ∧ m = L.length - i ∧ (L.take i).any q = false ∧ ts.length = 19 ∧ ts.getD 0 .undef = v ∧ ts.getD 1 .undef = .fn k [] cap ∧ ts.getD 7 .undef = I L.length ∧ ts.getD 8 .undef = I i ∧ hh = h ∧ mk = []) ?_ _ _ _ _
    ⟨0, Nat.zero_le _, rfl, rfl, rfl, rfl, rfl, rfl, rfl, rfl, rfl⟩
  rintro m ts hh mk ih ⟨i, hi, rfl, hall, hl', q0, q1, q7, q8, rfl, rfl⟩
  rw [lit_all hl']
  simp only [lit0, litS, Nat.reduceAdd, q0, q1, q7, q8]
  simp (disch := first | assumption | omega | (simp only [az]; done)) only [ru, eq_self, if_true, if_false, BEq.rfl, binI, AO.row?, splice, fillL, mmAll, loadV, storeV, zeros, Am.rowAt, Am.part, addOff, Nat.reduceAdd, Nat.reduceMul, Nat.reduceLeDiff, Nat.reduceSub, Nat.reduceLT, Int.reduceEq, Int.reduceLT, Int.reduceLE, Int.reduceGT, Int.reduceGE, Int.reduceAdd, Int.reduceSub, Int.reduceMul, Int.reduceNeg, Int.reduceToNat, reduceCtorEq, reduceIte]
  by_cases hlt : (i : Int) < L.length
  case pos =>
    have hi' : i < L.length := by omega
    have nx := any_upto_succ (d := default) hi' hall
    have ya := any_at (d := default) (q := q) hi'
    obtain ⟨x, hx⟩ : ∃ x, x = L.getD i default := ⟨_, rfl⟩
    have hr := hq x
    rw [← hx] at nx ya
    cases hc : q x
    · rw [hc] at hr
      simp (disch := first | assumption | omega | (simp only [az]; done)) only [ru, eq_self, if_true, if_false, BEq.rfl, binI, AO.row?, splice, fillL, mmAll, loadV, storeV, zeros, Am.rowAt, Am.part, addOff, Nat.reduceAdd, Nat.reduceMul, Nat.reduceLeDiff, Nat.reduceSub, Nat.reduceLT, Int.reduceEq, Int.reduceLT, Int.reduceLE, Int.reduceGT, Int.reduceGE, Int.reduceAdd, Int.reduceSub, Int.reduceMul, Int.reduceNeg, Int.reduceToNat, reduceCtorEq, reduceIte, hlt, ep, Int.toNat_natCast, ← hx, exOp_callv1, List.nil_append, List.cons_append, hr]
      exact ih (L.length - (i + 1)) _ _ _ (by omega) ⟨i + 1, by omega, rfl, nx hc, rfl, rfl, rfl, rfl, rfl, rfl, rfl⟩
    · rw [hc] at hr
      simp (disch := first | assumption | omega | (simp only [az]; done)) only [ru, eq_self, if_true, if_false, BEq.rfl, binI, AO.row?, splice, fillL, mmAll, loadV, storeV, zeros, Am.rowAt, Am.part, addOff, Nat.reduceAdd, Nat.reduceMul, Nat.reduceLeDiff, Nat.reduceSub, Nat.reduceLT, Int.reduceEq, Int.reduceLT, Int.reduceLE, Int.reduceGT, Int.reduceGE, Int.reduceAdd, Int.reduceSub, Int.reduceMul, Int.reduceNeg, Int.reduceToNat, reduceCtorEq, reduceIte, hlt, ep, Int.toNat_natCast, ← hx, exOp_callv1, List.nil_append, List.cons_append, hr]
      exact ⟨i, rfl, by rw [ya hc]; simp⟩
  obtain rfl : i = L.length := by omega
  rw [List.take_length] at hall
  simp (disch := first | assumption | omega | (simp only [az]; done)) only [ru, eq_self, if_true, if_false, BEq.rfl, binI, AO.row?, splice, fillL, mmAll, loadV, storeV, zeros, Am.rowAt, Am.part, addOff, Nat.reduceAdd, Nat.reduceMul, Nat.reduceLeDiff, Nat.reduceSub, Nat.reduceLT, Int.reduceEq, Int.reduceLT, Int.reduceLE, Int.reduceGT, Int.reduceGE, Int.reduceAdd, Int.reduceSub, Int.reduceMul, Int.reduceNeg, Int.reduceToNat, reduceCtorEq, reduceIte, hlt]
  exact ⟨-1, rfl, by rw [hall]; decide⟩
theorem s107 {L : List Pr} {v : AV} (H : IsSl 2 Pr.e L v) (hl : L.length ≤ 41) {q : Pr → Bool} {k : Nat} {cap : List AV} {h : List AO} (hq : ∀ x : Pr, Ro E k (.agg [I x.k, I x.p] :: cap) h = some (Bo (q x))) : Ro E 154 [v, .fn k [] cap] h = some (Bo (L.any q)) := by
  obtain ⟨j, hr, hj⟩ := s115 H hl hq
  refine Ro_of (es _ _ _ _) e154 ?_
  simp only [f154]
  simp (disch := first | assumption | omega | (simp only [az]; done)) only [ru, eq_self, if_true, if_false, BEq.rfl, binI, AO.row?, splice, fillL, mmAll, loadV, storeV, zeros, Am.rowAt, Am.part, addOff, Nat.reduceAdd, Nat.reduceMul, Nat.reduceLeDiff, Nat.reduceSub, Nat.reduceLT, Int.reduceEq, Int.reduceLT, Int.reduceLE, Int.reduceGT, Int.reduceGE, Int.reduceAdd, Int.reduceSub, Int.reduceMul, Int.reduceNeg, Int.reduceToNat, reduceCtorEq, reduceIte, hr]
  rw [hj]; exact ⟨rfl, rfl⟩
theorem s95 {L : List Pr} {v : AV} (H : IsSl 2 Pr.e L v) (hl : L.length ≤ 41) {q : Pr → Bool} {c : Nat} {cap : List AV} {h : List AO} (hq : ∀ (x : Pr) X, Ro E c (.agg [I x.k, I x.p] :: cap) (h ++ X) = some (Bo (q x))) : Ro E 148 [v, .fn c [] cap] h = some (Bo (L.all q)) := by
  have hr := s107 H hl (q := fun x => !q x) (k := 155) (cap := [.ptr h.length 0]) (h := h ++ [.cells [.fn c [] cap] false]) fun x => s108 x atE fun X => by rw [List.append_assoc]; exact hq x _
  have e : (!L.any fun x => !q x) = L.all q := any_all
  refine Ro_of (es _ _ _ _) e148 ?_
  simp only [f148]
  simp (disch := first | assumption | omega | (simp only [az]; done)) only [ru, eq_self, if_true, if_false, BEq.rfl, binI, AO.row?, splice, fillL, mmAll, loadV, storeV, zeros, Am.rowAt, Am.part, addOff, Nat.reduceAdd, Nat.reduceMul, Nat.reduceLeDiff, Nat.reduceSub, Nat.reduceLT, Int.reduceEq, Int.reduceLT, Int.reduceLE, Int.reduceGT, Int.reduceGE, Int.reduceAdd, Int.reduceSub, Int.reduceMul, Int.reduceNeg, Int.reduceToNat, reduceCtorEq, reduceIte, lenV_sl H, view_sl H, scalar_sl H, cells_sl H, pure_sl H, hr, e]
  rfl
theorem s110 {q : Int → Bool} {c : Nat} {cap : List AV} (x : Int) {o : Nat} {h : List AO} (ho : h[o]? = some (.cells [.fn c [] cap] false)) (hq : ∀ X, Ro E c (I x :: cap) (h ++ X) = some (Bo (q x))) : Ro E 156 [I x, .ptr o 0] h = some (Bo (!q x)) := by
  have ol := (List.getElem?_eq_some_iff.1 ho).1
  refine Ro_of (es _ _ _ _) e156 ?_
  simp only [f156]
  have h0 := hq []
  rw [List.append_nil] at h0
  simp (disch := first | assumption | omega | (simp only [az]; done)) only [ru, eq_self, if_true, if_false, BEq.rfl, binI, AO.row?, splice, fillL, mmAll, loadV, storeV, zeros, Am.rowAt, Am.part, addOff, Nat.reduceAdd, Nat.reduceMul, Nat.reduceLeDiff, Nat.reduceSub, Nat.reduceLT, Int.reduceEq, Int.reduceLT, Int.reduceLE, Int.reduceGT, Int.reduceGE, Int.reduceAdd, Int.reduceSub, Int.reduceMul, Int.reduceNeg, Int.reduceToNat, reduceCtorEq, reduceIte, atE, lenE, at_ap ol, ho, exOp_callv1, List.nil_append, List.cons_append, hq, h0]
  rfl
set_option maxHeartbeats 1000000 in
theorem s116 {L : List Int} {v : AV} (H : IsSl 1 intL L v) (hl : L.length ≤ 41) {q : Int → Bool} {k : Nat} {cap : List AV} {h : List AO} (hq : ∀ x : Int, Ro E k (I x :: cap) h = some (Bo (q x))) :
    ∃ j : Int, Ro E 105 [v, .fn k [] cap] h = some (I j) ∧ decide (j ≥ 0) = L.any q := by
  refine (fun x => ?_ : (∃ w, Ro E 105 [v, .fn k [] cap] h = some w ∧ ∃ j : Int, w = I j ∧ decide (j ≥ 0) = L.any q) → _) (Ro_ex (fun r => ∃ j : Int, r = I j ∧ decide (j ≥ 0) = L.any q) (by rintro _ ⟨j, rfl, _⟩; rfl) (es _ _ _ _) e105 ?_)
  · obtain ⟨w, hv, j, rfl, hj⟩ := x; exact ⟨j, hv, hj⟩
  have ep := elem_in H
  simp only [f105]
  simp (disch := first | assumption | omega | (simp only [az]; done)) only [ru, eq_self, if_true, if_false, BEq.rfl, binI, AO.row?, splice, fillL, mmAll, loadV, storeV, zeros, Am.rowAt, Am.part, addOff, Nat.reduceAdd, Nat.reduceMul, Nat.reduceLeDiff, Nat.reduceSub, Nat.reduceLT, Int.reduceEq, Int.reduceLT, Int.reduceLE, Int.reduceGT, Int.reduceGE, Int.reduceAdd, Int.reduceSub, Int.reduceMul, Int.reduceNeg, Int.reduceToNat, reduceCtorEq, reduceIte, lenV_sl H]
  refine G_loop_ind (fun m ts hh mk => ∃ i : Nat, i ≤ L.length ∧ m = L.length - i ∧ (L.take i).any q = false ∧ ts.length = 19 ∧ ts.getD 0 .undef = v ∧ ts.getD 1 .undef = .fn k [] cap ∧ ts.getD 7 .undef = I L.length ∧ ts.getD 8 .undef = I i ∧ hh = h ∧ mk = []) ?_ _ _ _ _
    ⟨0, Nat.zero_le _, rfl, rfl, rfl, rfl, rfl, rfl, rfl, rfl, rfl⟩
  rintro m ts hh mk ih ⟨i, hi, rfl, hall, hl', q0, q1, q7, q8, rfl, rfl⟩
  rw [lit_all hl']
  simp only [lit0, litS, Nat.reduceAdd, q0, q1, q7, q8]
  simp (disch := first | assumption | omega | (simp only [az]; done)) only [ru, eq_self, if_true, if_false, BEq.rfl, binI, AO.row?, splice, fillL, mmAll, loadV, storeV, zeros, Am.rowAt, Am.part, addOff, Nat.reduceAdd, Nat.reduceMul, Nat.reduceLeDiff, Nat.reduceSub, Nat.reduceLT, Int.reduceEq, Int.reduceLT, Int.reduceLE, Int.reduceGT, Int.reduceGE, Int.reduceAdd, Int.reduceSub, Int.reduceMul, Int.reduceNeg, Int.reduceToNat, reduceCtorEq, reduceIte]
  by_cases hlt : (i : Int) < L.length
  case pos =>
    have hi' : i < L.length := by omega
    have nx := any_upto_succ (d := 0) hi' hall
    have ya := any_at (d := 0) (q := q) hi'
    obtain ⟨x, hx⟩ : ∃ x, x = L.getD i 0 := ⟨_, rfl⟩
    have hr := hq x
    rw [← hx] at nx ya
    cases hc : q x
    · rw [hc] at hr
      simp (disch := first | assumption | omega | (simp only [az]; done)) only [ru, eq_self, if_true, if_false, BEq.rfl, binI, AO.row?, splice, fillL, mmAll, loadV, storeV, zeros, Am.rowAt, Am.part, addOff, Nat.reduceAdd, Nat.reduceMul, Nat.reduceLeDiff, Nat.reduceSub, Nat.reduceLT, Int.reduceEq, Int.reduceLT, Int.reduceLE, Int.reduceGT, Int.reduceGE, Int.reduceAdd, Int.reduceSub, Int.reduceMul, Int.reduceNeg, Int.reduceToNat, reduceCtorEq, reduceIte, hlt, ep, Int.toNat_natCast, ← hx, exOp_callv1, List.nil_append, List.cons_append, hr]
      exact ih (L.length - (i + 1)) _ _ _ (by omega) ⟨i + 1, by omega, rfl, nx hc, rfl, rfl, rfl, rfl, rfl, rfl, rfl⟩
    · rw [hc] at hr
      simp (disch := first | assumption | omega | (simp only [az]; done)) only [ru, eq_self, if_true, if_false, BEq.rfl, binI, AO.row?, splice, fillL, mmAll, loadV, storeV, zeros, Am.rowAt, Am.part, addOff, Nat.reduceAdd, Nat.reduceMul, Nat.reduceLeDiff, Nat.reduceSub, Nat.reduceLT, Int.reduceEq, Int.reduceLT, Int.reduceLE, Int.reduceGT, Int.reduceGE, Int.reduceAdd, Int.reduceSub, Int.reduceMul, Int.reduceNeg, Int.reduceToNat, reduceCtorEq, reduceIte, hlt, ep, Int.toNat_natCast, ← hx, exOp_callv1, List.nil_append, List.cons_append, hr]
      exact ⟨i, rfl, by rw [ya hc]; simp⟩
  obtain rfl : i = L.length := by omega
  rw [List.take_length] at hall
  simp (disch := first | assumption | omega | (simp only [az]; done)) only [ru, eq_self, if_true, if_false, BEq.rfl, binI, AO.row?, splice, fillL, mmAll, loadV, storeV, zeros, Am.rowAt, Am.part, addOff, Nat.reduceAdd, Nat.reduceMul, Nat.reduceLeDiff, Nat.reduceSub, Nat.reduceLT, Int.reduceEq, Int.reduceLT, Int.reduceLE, Int.reduceGT, Int.reduceGE, Int.reduceAdd, Int.reduceSub, Int.reduceMul, Int.reduceNeg, Int.reduceToNat, reduceCtorEq, reduceIte, hlt]
  exact ⟨-1, rfl, by rw [hall]; decide⟩
theorem s109 {L : List Int} {v : AV} (H : IsSl 1 intL L v) (hl : L.length ≤ 41) {q : Int → Bool} {k : Nat} {cap : List AV} {h : List AO} (hq : ∀ x : Int, Ro E k (I x :: cap) h = some (Bo (q x))) : Ro E 107 [v, .fn k [] cap] h = some (Bo (L.any q)) := by
  obtain ⟨j, hr, hj⟩ := s116 H hl hq
  refine Ro_of (es _ _ _ _) e107 ?_
  simp only [f107]
  simp (disch := first | assumption | omega | (simp only [az]; done)) only [ru, eq_self, if_true, if_false, BEq.rfl, binI, AO.row?, splice, fillL, mmAll, loadV, storeV, zeros, Am.rowAt, Am.part, addOff, Nat.reduceAdd, Nat.reduceMul, Nat.reduceLeDiff, Nat.reduceSub, Nat.reduceLT, Int.reduceEq, Int.reduceLT, Int.reduceLE, Int.reduceGT, Int.reduceGE, Int.reduceAdd, Int.reduceSub, Int.reduceMul, Int.reduceNeg, Int.reduceToNat, reduceCtorEq, reduceIte, hr]
  rw [hj]; exact ⟨rfl, rfl⟩
theorem s96 {L : List Int} {v : AV} (H : IsSl 1 intL L v) (hl : L.length ≤ 41) {q : Int → Bool} {c : Nat} {cap : List AV} {h : List AO} (hq : ∀ (x : Int) X, Ro E c (I x :: cap) (h ++ X) = some (Bo (q x))) : Ro E 149 [v, .fn c [] cap] h = some (Bo (L.all q)) := by
  have hr := s109 H hl (q := fun x => !q x) (k := 156) (cap := [.ptr h.length 0]) (h := h ++ [.cells [.fn c [] cap] false]) fun x => s110 x atE fun X => by rw [List.append_assoc]; exact hq x _
  have e : (!L.any fun x => !q x) = L.all q := any_all
  refine Ro_of (es _ _ _ _) e149 ?_
  simp only [f149]
  simp (disch := first | assumption | omega | (simp only [az]; done)) only [ru, eq_self, if_true, if_false, BEq.rfl, binI, AO.row?, splice, fillL, mmAll, loadV, storeV, zeros, Am.rowAt, Am.part, addOff, Nat.reduceAdd, Nat.reduceMul, Nat.reduceLeDiff, Nat.reduceSub, Nat.reduceLT, Int.reduceEq, Int.reduceLT, Int.reduceLE, Int.reduceGT, Int.reduceGE, Int.reduceAdd, Int.reduceSub, Int.reduceMul, Int.reduceNeg, Int.reduceToNat, reduceCtorEq, reduceIte, lenV_sl H, view_sl H, scalar_sl H, cells_sl H, pure_sl H, hr, e]
  rfl
section
variable {h : Hs} {k p b : AV}
set_option maxHeartbeats 1000000 in
theorem s65 (H : HsOk h k p b) (st : Bool) : Iso E 139 [hsV h.fl k p b] st = some (Bo h.valid) := by
  have n1 := H.nk; have n2 := H.np; have n3 := H.nb
  have a1 := s94 H.k H.nk (q := kdOk) (c := 144) (cap := []) (h := [.cells [k, I h.fl, p, b] false]) fun x X => s91 x _
  have a2 := s95 H.p H.np (q := prOk h.ks.length) (c := 145) (cap := [.ptr 0 0]) (h := [.cells [k, I h.fl, p, b] false]) fun x X => s92 H.k H.nk x rfl
  have a3 := s96 H.b H.nb (q := fun b => inR b 0 99) (c := 146) (cap := []) (h := [.cells [k, I h.fl, p, b] false]) fun x X => s93 x _
  refine Iso_of (es _ _ _ _) e139 ?_
  simp only [f139, hsV, Hs.valid]
  by_cases c1 : (h.ks.length : Int) ≤ 3
  case neg =>
    have c1' : ¬ h.ks.length ≤ 3 := by omega
    simp (disch := first | assumption | omega | (simp only [az]; done)) only [ru, eq_self, if_true, if_false, BEq.rfl, binI, AO.row?, splice, fillL, mmAll, loadV, storeV, zeros, Am.rowAt, Am.part, addOff, Nat.reduceAdd, Nat.reduceMul, Nat.reduceLeDiff, Nat.reduceSub, Nat.reduceLT, Int.reduceEq, Int.reduceLT, Int.reduceLE, Int.reduceGT, Int.reduceGE, Int.reduceAdd, Int.reduceSub, Int.reduceMul, Int.reduceNeg, Int.reduceToNat, reduceCtorEq, reduceIte, lenV_sl H.k, lenV_sl H.p, lenV_sl H.b, elem_kd H.k, elem_pr H.p, elem_in H.b, view_sl H.k, view_sl H.p, view_sl H.b, scalar_sl H.k, scalar_sl H.p, scalar_sl H.b, cells_sl H.k, cells_sl H.p, cells_sl H.b, pure_sl H.k, pure_sl H.p, pure_sl H.b, Int.toNat_natCast, c1, c1', decide_false, gUn, Bool.false_and]
  have c1' : h.ks.length ≤ 3 := by omega
  cases c2 : h.ks.all kdOk
  · rw [c2] at a1
    simp (disch := first | assumption | omega | (simp only [az]; done)) only [ru, eq_self, if_true, if_false, BEq.rfl, binI, AO.row?, splice, fillL, mmAll, loadV, storeV, zeros, Am.rowAt, Am.part, addOff, Nat.reduceAdd, Nat.reduceMul, Nat.reduceLeDiff, Nat.reduceSub, Nat.reduceLT, Int.reduceEq, Int.reduceLT, Int.reduceLE, Int.reduceGT, Int.reduceGE, Int.reduceAdd, Int.reduceSub, Int.reduceMul, Int.reduceNeg, Int.reduceToNat, reduceCtorEq, reduceIte, lenV_sl H.k, lenV_sl H.p, lenV_sl H.b, elem_kd H.k, elem_pr H.p, elem_in H.b, view_sl H.k, view_sl H.p, view_sl H.b, scalar_sl H.k, scalar_sl H.p, scalar_sl H.b, cells_sl H.k, cells_sl H.p, cells_sl H.b, pure_sl H.k, pure_sl H.p, pure_sl H.b, Int.toNat_natCast, c1, c1', a1, decide_false, decide_true, gUn, Bool.false_and, Bool.and_false]
  rw [c2] at a1
  cases c3 : inR h.fl 0 9
  · simp (disch := first | assumption | omega | (simp only [az]; done)) only [ru, eq_self, if_true, if_false, BEq.rfl, binI, AO.row?, splice, fillL, mmAll, loadV, storeV, zeros, Am.rowAt, Am.part, addOff, Nat.reduceAdd, Nat.reduceMul, Nat.reduceLeDiff, Nat.reduceSub, Nat.reduceLT, Int.reduceEq, Int.reduceLT, Int.reduceLE, Int.reduceGT, Int.reduceGE, Int.reduceAdd, Int.reduceSub, Int.reduceMul, Int.reduceNeg, Int.reduceToNat, reduceCtorEq, reduceIte, lenV_sl H.k, lenV_sl H.p, lenV_sl H.b, elem_kd H.k, elem_pr H.p, elem_in H.b, view_sl H.k, view_sl H.p, view_sl H.b, scalar_sl H.k, scalar_sl H.p, scalar_sl H.b, cells_sl H.k, cells_sl H.p, cells_sl H.b, pure_sl H.k, pure_sl H.p, pure_sl H.b, Int.toNat_natCast, c1, c1', a1, s83, c3, decide_false, decide_true, gUn, Bool.false_and, Bool.and_false]
  by_cases c4 : (h.ps.length : Int) ≤ 6
  case neg =>
    have c4' : ¬ h.ps.length ≤ 6 := by omega
    simp (disch := first | assumption | omega | (simp only [az]; done)) only [ru, eq_self, if_true, if_false, BEq.rfl, binI, AO.row?, splice, fillL, mmAll, loadV, storeV, zeros, Am.rowAt, Am.part, addOff, Nat.reduceAdd, Nat.reduceMul, Nat.reduceLeDiff, Nat.reduceSub, Nat.reduceLT, Int.reduceEq, Int.reduceLT, Int.reduceLE, Int.reduceGT, Int.reduceGE, Int.reduceAdd, Int.reduceSub, Int.reduceMul, Int.reduceNeg, Int.reduceToNat, reduceCtorEq, reduceIte, lenV_sl H.k, lenV_sl H.p, lenV_sl H.b, elem_kd H.k, elem_pr H.p, elem_in H.b, view_sl H.k, view_sl H.p, view_sl H.b, scalar_sl H.k, scalar_sl H.p, scalar_sl H.b, cells_sl H.k, cells_sl H.p, cells_sl H.b, pure_sl H.k, pure_sl H.p, pure_sl H.b, Int.toNat_natCast, c1, c1', a1, s83, c3, c4, c4', decide_false, decide_true, gUn, Bool.false_and, Bool.and_false]
  have c4' : h.ps.length ≤ 6 := by omega
  cases c5 : h.ps.all (prOk h.ks.length)
  · rw [c5] at a2
    simp (disch := first | assumption | omega | (simp only [az]; done)) only [ru, eq_self, if_true, if_false, BEq.rfl, binI, AO.row?, splice, fillL, mmAll, loadV, storeV, zeros, Am.rowAt, Am.part, addOff, Nat.reduceAdd, Nat.reduceMul, Nat.reduceLeDiff, Nat.reduceSub, Nat.reduceLT, Int.reduceEq, Int.reduceLT, Int.reduceLE, Int.reduceGT, Int.reduceGE, Int.reduceAdd, Int.reduceSub, Int.reduceMul, Int.reduceNeg, Int.reduceToNat, reduceCtorEq, reduceIte, lenV_sl H.k, lenV_sl H.p, lenV_sl H.b, elem_kd H.k, elem_pr H.p, elem_in H.b, view_sl H.k, view_sl H.p, view_sl H.b, scalar_sl H.k, scalar_sl H.p, scalar_sl H.b, cells_sl H.k, cells_sl H.p, cells_sl H.b, pure_sl H.k, pure_sl H.p, pure_sl H.b, Int.toNat_natCast, c1, c1', a1, s83, c3, c4, c4', a2, decide_false, decide_true, gUn, Bool.false_and, Bool.and_false]
  rw [c5] at a2
  by_cases c6 : (h.bs.length : Int) ≤ 4
  case neg =>
    have c6' : ¬ h.bs.length ≤ 4 := by omega
    simp (disch := first | assumption | omega | (simp only [az]; done)) only [ru, eq_self, if_true, if_false, BEq.rfl, binI, AO.row?, splice, fillL, mmAll, loadV, storeV, zeros, Am.rowAt, Am.part, addOff, Nat.reduceAdd, Nat.reduceMul, Nat.reduceLeDiff, Nat.reduceSub, Nat.reduceLT, Int.reduceEq, Int.reduceLT, Int.reduceLE, Int.reduceGT, Int.reduceGE, Int.reduceAdd, Int.reduceSub, Int.reduceMul, Int.reduceNeg, Int.reduceToNat, reduceCtorEq, reduceIte, lenV_sl H.k, lenV_sl H.p, lenV_sl H.b, elem_kd H.k, elem_pr H.p, elem_in H.b, view_sl H.k, view_sl H.p, view_sl H.b, scalar_sl H.k, scalar_sl H.p, scalar_sl H.b, cells_sl H.k, cells_sl H.p, cells_sl H.b, pure_sl H.k, pure_sl H.p, pure_sl H.b, Int.toNat_natCast, c1, c1', a1, s83, c3, c4, c4', a2, c6, c6', decide_false, decide_true, gUn, Bool.false_and, Bool.and_false]
  have c6' : h.bs.length ≤ 4 := by omega
  simp (disch := first | assumption | omega | (simp only [az]; done)) only [ru, eq_self, if_true, if_false, BEq.rfl, binI, AO.row?, splice, fillL, mmAll, loadV, storeV, zeros, Am.rowAt, Am.part, addOff, Nat.reduceAdd, Nat.reduceMul, Nat.reduceLeDiff, Nat.reduceSub, Nat.reduceLT, Int.reduceEq, Int.reduceLT, Int.reduceLE, Int.reduceGT, Int.reduceGE, Int.reduceAdd, Int.reduceSub, Int.reduceMul, Int.reduceNeg, Int.reduceToNat, reduceCtorEq, reduceIte, lenV_sl H.k, lenV_sl H.p, lenV_sl H.b, elem_kd H.k, elem_pr H.p, elem_in H.b, view_sl H.k, view_sl H.p, view_sl H.b, scalar_sl H.k, scalar_sl H.p, scalar_sl H.b, cells_sl H.k, cells_sl H.p, cells_sl H.b, pure_sl H.k, pure_sl H.p, pure_sl H.b, Int.toNat_natCast, c1, c1', a1, s83, c3, c4, c4', a2, c6, c6', a3, decide_false, decide_true, gUn, Bool.true_and, Bool.and_self]
def vE (v : Bool) : Int := if v then 0 else 80
theorem s19 (H : HsOk h k p b) (st : Bool) : Iso E 130 [hsV h.fl k p b] st = some (I (vE h.valid)) := by
  have a := fun st => s65 H st
  simp only [hsV] at a
  refine Iso_of (es _ _ _ _) e130 ?_
  simp only [f130, hsV, vE]
  cases c : h.valid <;> simp (disch := first | assumption | omega | (simp only [az]; done)) only [ru, eq_self, if_true, if_false, BEq.rfl, binI, AO.row?, splice, fillL, mmAll, loadV, storeV, zeros, Am.rowAt, Am.part, addOff, Nat.reduceAdd, Nat.reduceMul, Nat.reduceLeDiff, Nat.reduceSub, Nat.reduceLT, Int.reduceEq, Int.reduceLT, Int.reduceLE, Int.reduceGT, Int.reduceGE, Int.reduceAdd, Int.reduceSub, Int.reduceMul, Int.reduceNeg, Int.reduceToNat, reduceCtorEq, reduceIte, lenV_sl H.k, lenV_sl H.p, lenV_sl H.b, elem_kd H.k, elem_pr H.p, elem_in H.b, view_sl H.k, view_sl H.p, view_sl H.b, scalar_sl H.k, scalar_sl H.p, scalar_sl H.b, cells_sl H.k, cells_sl H.p, cells_sl H.b, pure_sl H.k, pure_sl H.p, pure_sl H.b, Int.toNat_natCast, a, c, Bool.not_true, Bool.not_false]
end
end Go.Proofs.YtfagcnokdnanpaaGreat.S
/-
The specification's small functions: what is valid, what is in a barrel, what a packing is.
-/
namespace Go.Proofs.YtfagcnokdnanpaaGreat.S
open Go Go.Am Go.Proofs.YtfagcnokdnanpaaGreat.T
set_option maxRecDepth 100000
set_option linter.unusedSimpArgs false
set_option linter.unusedVariables false
section
variable {h : Hs} {k p b : AV}
set_option maxHeartbeats 4000000 in
theorem s20 (H : HsOk h k p b) (st : Bool) : Iso E 75 [hsV h.fl k p b] st = some (I (vE h.valid)) := by
  have n1 := H.nk; have n2 := H.np; have n3 := H.nb
  refine Iso_of (es _ _ _ _) e75 ?_
  simp only [f75, hsV]
  have bad : h.valid = false → vE h.valid = 80 := fun e => by rw [e]; rfl
  by_cases c1 : (h.ks.length : Int) > 3
  · have c1' : h.valid = false := by simp only [Hs.valid]; rw [decide_eq_false (show ¬ h.ks.length ≤ 3 by omega)]; simp
    simp (disch := first | assumption | omega | (simp only [az]; done)) only [ru, eq_self, if_true, if_false, BEq.rfl, binI, AO.row?, splice, fillL, mmAll, loadV, storeV, zeros, Am.rowAt, Am.part, addOff, Nat.reduceAdd, Nat.reduceMul, Nat.reduceLeDiff, Nat.reduceSub, Nat.reduceLT, Int.reduceEq, Int.reduceLT, Int.reduceLE, Int.reduceGT, Int.reduceGE, Int.reduceAdd, Int.reduceSub, Int.reduceMul, Int.reduceNeg, Int.reduceToNat, reduceCtorEq, reduceIte, lenV_sl H.k, lenV_sl H.p, lenV_sl H.b, elem_kd H.k, elem_pr H.p, elem_in H.b, view_sl H.k, view_sl H.p, view_sl H.b, scalar_sl H.k, scalar_sl H.p, scalar_sl H.b, cells_sl H.k, cells_sl H.p, cells_sl H.b, pure_sl H.k, pure_sl H.p, pure_sl H.b, Int.toNat_natCast, c1, bad c1', decide_true, gUn]
  have d1 : h.ks.length ≤ 3 := by omega
  cases c2 : inR h.fl 0 9
  · have c2' : h.valid = false := by simp only [Hs.valid, c2]; simp
    simp (disch := first | assumption | omega | (simp only [az]; done)) only [ru, eq_self, if_true, if_false, BEq.rfl, binI, AO.row?, splice, fillL, mmAll, loadV, storeV, zeros, Am.rowAt, Am.part, addOff, Nat.reduceAdd, Nat.reduceMul, Nat.reduceLeDiff, Nat.reduceSub, Nat.reduceLT, Int.reduceEq, Int.reduceLT, Int.reduceLE, Int.reduceGT, Int.reduceGE, Int.reduceAdd, Int.reduceSub, Int.reduceMul, Int.reduceNeg, Int.reduceToNat, reduceCtorEq, reduceIte, lenV_sl H.k, lenV_sl H.p, lenV_sl H.b, elem_kd H.k, elem_pr H.p, elem_in H.b, view_sl H.k, view_sl H.p, view_sl H.b, scalar_sl H.k, scalar_sl H.p, scalar_sl H.b, cells_sl H.k, cells_sl H.p, cells_sl H.b, pure_sl H.k, pure_sl H.p, pure_sl H.b, Int.toNat_natCast, c1, s66, c2, bad c2', decide_true, decide_false, Bool.not_false, gUn]
  by_cases c3 : (h.ps.length : Int) > 6
  · have c3' : h.valid = false := by simp only [Hs.valid]; rw [decide_eq_false (show ¬ h.ps.length ≤ 6 by omega)]; simp
    simp (disch := first | assumption | omega | (simp only [az]; done)) only [ru, eq_self, if_true, if_false, BEq.rfl, binI, AO.row?, splice, fillL, mmAll, loadV, storeV, zeros, Am.rowAt, Am.part, addOff, Nat.reduceAdd, Nat.reduceMul, Nat.reduceLeDiff, Nat.reduceSub, Nat.reduceLT, Int.reduceEq, Int.reduceLT, Int.reduceLE, Int.reduceGT, Int.reduceGE, Int.reduceAdd, Int.reduceSub, Int.reduceMul, Int.reduceNeg, Int.reduceToNat, reduceCtorEq, reduceIte, lenV_sl H.k, lenV_sl H.p, lenV_sl H.b, elem_kd H.k, elem_pr H.p, elem_in H.b, view_sl H.k, view_sl H.p, view_sl H.b, scalar_sl H.k, scalar_sl H.p, scalar_sl H.b, cells_sl H.k, cells_sl H.p, cells_sl H.b, pure_sl H.k, pure_sl H.p, pure_sl H.b, Int.toNat_natCast, c1, s66, c2, c3, bad c3', decide_true, decide_false, Bool.not_false, Bool.not_true, gUn]
  have d3 : h.ps.length ≤ 6 := by omega
  by_cases c4 : (h.bs.length : Int) > 4
  · have c4' : h.valid = false := by simp only [Hs.valid]; rw [decide_eq_false (show ¬ h.bs.length ≤ 4 by omega)]; simp
    simp (disch := first | assumption | omega | (simp only [az]; done)) only [ru, eq_self, if_true, if_false, BEq.rfl, binI, AO.row?, splice, fillL, mmAll, loadV, storeV, zeros, Am.rowAt, Am.part, addOff, Nat.reduceAdd, Nat.reduceMul, Nat.reduceLeDiff, Nat.reduceSub, Nat.reduceLT, Int.reduceEq, Int.reduceLT, Int.reduceLE, Int.reduceGT, Int.reduceGE, Int.reduceAdd, Int.reduceSub, Int.reduceMul, Int.reduceNeg, Int.reduceToNat, reduceCtorEq, reduceIte, lenV_sl H.k, lenV_sl H.p, lenV_sl H.b, elem_kd H.k, elem_pr H.p, elem_in H.b, view_sl H.k, view_sl H.p, view_sl H.b, scalar_sl H.k, scalar_sl H.p, scalar_sl H.b, cells_sl H.k, cells_sl H.p, cells_sl H.b, pure_sl H.k, pure_sl H.p, pure_sl H.b, Int.toNat_natCast, c1, s66, c2, c3, c4, bad c4', decide_true, decide_false, Bool.not_false, Bool.not_true, gUn]
  have d4 : h.bs.length ≤ 4 := by omega
  simp (disch := first | assumption | omega | (simp only [az]; done)) only [ru, eq_self, if_true, if_false, BEq.rfl, binI, AO.row?, splice, fillL, mmAll, loadV, storeV, zeros, Am.rowAt, Am.part, addOff, Nat.reduceAdd, Nat.reduceMul, Nat.reduceLeDiff, Nat.reduceSub, Nat.reduceLT, Int.reduceEq, Int.reduceLT, Int.reduceLE, Int.reduceGT, Int.reduceGE, Int.reduceAdd, Int.reduceSub, Int.reduceMul, Int.reduceNeg, Int.reduceToNat, reduceCtorEq, reduceIte, lenV_sl H.k, lenV_sl H.p, lenV_sl H.b, elem_kd H.k, elem_pr H.p, elem_in H.b, view_sl H.k, view_sl H.p, view_sl H.b, scalar_sl H.k, scalar_sl H.p, scalar_sl H.b, cells_sl H.k, cells_sl H.p, cells_sl H.b, pure_sl H.k, pure_sl H.p, pure_sl H.b, Int.toNat_natCast, c1, s66, c2, c3, c4, decide_true, decide_false, Bool.not_false, Bool.not_true, gUn]
  have ek : h.valid = (h.ks.all kdOk && h.ps.all (prOk h.ks.length) && h.bs.all (fun b => inR b 0 99)) := by
    simp only [Hs.valid, c2, d1, d3, d4, decide_true, Bool.true_and, Bool.and_true]
  refine G_loop_ind (fun m ts hh mk => ∃ i : Nat, i ≤ h.ks.length ∧ m = h.ks.length - i ∧ (h.ks.take i).all kdOk = true ∧ ts.length = 96 ∧ ts.getD 1 .undef = .ptr 0 0 ∧ ts.getD 3 .undef = I i ∧ hh = [.cells [k, I h.fl, p, b] false] ∧ mk = []) ?_ _ _ _ _ ⟨0, Nat.zero_le _, rfl, rfl, rfl, rfl, rfl, rfl, rfl⟩
  rintro m ts hh mk ih ⟨i, hi', rfl, hall, hl', q1, q3, rfl, rfl⟩
  rw [lit_all hl']
  simp only [lit0, litS, Nat.reduceAdd, q1, q3]
  simp (disch := first | assumption | omega | (simp only [az]; done)) only [ru, eq_self, if_true, if_false, BEq.rfl, binI, AO.row?, splice, fillL, mmAll, loadV, storeV, zeros, Am.rowAt, Am.part, addOff, Nat.reduceAdd, Nat.reduceMul, Nat.reduceLeDiff, Nat.reduceSub, Nat.reduceLT, Int.reduceEq, Int.reduceLT, Int.reduceLE, Int.reduceGT, Int.reduceGE, Int.reduceAdd, Int.reduceSub, Int.reduceMul, Int.reduceNeg, Int.reduceToNat, reduceCtorEq, reduceIte, lenV_sl H.k, lenV_sl H.p, lenV_sl H.b, elem_kd H.k, elem_pr H.p, elem_in H.b, view_sl H.k, view_sl H.p, view_sl H.b, scalar_sl H.k, scalar_sl H.p, scalar_sl H.b, cells_sl H.k, cells_sl H.p, cells_sl H.b, pure_sl H.k, pure_sl H.p, pure_sl H.b, Int.toNat_natCast]
  by_cases hlt : (i : Int) < h.ks.length
  case pos =>
    have hi2 : i < h.ks.length := by omega
    have no := fun hp => all_not (p := kdOk) hi2 rfl hp
    have nx := fun hp => all_upto_succ (p := kdOk) hi2 rfl hall hp
    obtain ⟨x, hx⟩ : ∃ x, x = h.ks.getD i default := ⟨_, rfl⟩
    rw [← hx] at no nx
    cases a1 : inR x.s 0 9
    · have ev : h.valid = false := by rw [ek, no (by simp only [kdOk, a1, Bool.false_and])]; rfl
      simp (disch := first | assumption | omega | (simp only [az]; done)) only [ru, eq_self, if_true, if_false, BEq.rfl, binI, AO.row?, splice, fillL, mmAll, loadV, storeV, zeros, Am.rowAt, Am.part, addOff, Nat.reduceAdd, Nat.reduceMul, Nat.reduceLeDiff, Nat.reduceSub, Nat.reduceLT, Int.reduceEq, Int.reduceLT, Int.reduceLE, Int.reduceGT, Int.reduceGE, Int.reduceAdd, Int.reduceSub, Int.reduceMul, Int.reduceNeg, Int.reduceToNat, reduceCtorEq, reduceIte, lenV_sl H.k, lenV_sl H.p, lenV_sl H.b, elem_kd H.k, elem_pr H.p, elem_in H.b, view_sl H.k, view_sl H.p, view_sl H.b, scalar_sl H.k, scalar_sl H.p, scalar_sl H.b, cells_sl H.k, cells_sl H.p, cells_sl H.b, pure_sl H.k, pure_sl H.p, pure_sl H.b, Int.toNat_natCast, hlt, ← hx, s66, a1, bad ev, gUn, Bool.not_false]
      done
    cases a2 : inR x.d 0 20
    · have ev : h.valid = false := by rw [ek, no (by simp only [kdOk, a1, a2, Bool.true_and])]; rfl
      simp (disch := first | assumption | omega | (simp only [az]; done)) only [ru, eq_self, if_true, if_false, BEq.rfl, binI, AO.row?, splice, fillL, mmAll, loadV, storeV, zeros, Am.rowAt, Am.part, addOff, Nat.reduceAdd, Nat.reduceMul, Nat.reduceLeDiff, Nat.reduceSub, Nat.reduceLT, Int.reduceEq, Int.reduceLT, Int.reduceLE, Int.reduceGT, Int.reduceGE, Int.reduceAdd, Int.reduceSub, Int.reduceMul, Int.reduceNeg, Int.reduceToNat, reduceCtorEq, reduceIte, lenV_sl H.k, lenV_sl H.p, lenV_sl H.b, elem_kd H.k, elem_pr H.p, elem_in H.b, view_sl H.k, view_sl H.p, view_sl H.b, scalar_sl H.k, scalar_sl H.p, scalar_sl H.b, cells_sl H.k, cells_sl H.p, cells_sl H.b, pure_sl H.k, pure_sl H.p, pure_sl H.b, Int.toNat_natCast, hlt, ← hx, s66, a1, a2, bad ev, gUn, Bool.not_false, Bool.not_true]
      done
    simp (disch := first | assumption | omega | (simp only [az]; done)) only [ru, eq_self, if_true, if_false, BEq.rfl, binI, AO.row?, splice, fillL, mmAll, loadV, storeV, zeros, Am.rowAt, Am.part, addOff, Nat.reduceAdd, Nat.reduceMul, Nat.reduceLeDiff, Nat.reduceSub, Nat.reduceLT, Int.reduceEq, Int.reduceLT, Int.reduceLE, Int.reduceGT, Int.reduceGE, Int.reduceAdd, Int.reduceSub, Int.reduceMul, Int.reduceNeg, Int.reduceToNat, reduceCtorEq, reduceIte, lenV_sl H.k, lenV_sl H.p, lenV_sl H.b, elem_kd H.k, elem_pr H.p, elem_in H.b, view_sl H.k, view_sl H.p, view_sl H.b, scalar_sl H.k, scalar_sl H.p, scalar_sl H.b, cells_sl H.k, cells_sl H.p, cells_sl H.b, pure_sl H.k, pure_sl H.p, pure_sl H.b, Int.toNat_natCast, hlt, ← hx, s66, a1, a2, gUn, Bool.not_false, Bool.not_true]
    exact ih (h.ks.length - (i + 1)) _ _ _ (by omega) ⟨i + 1, by omega, rfl, nx (by simp only [kdOk, a1, a2, Bool.true_and]), rfl, rfl, rfl, rfl, rfl⟩
  obtain rfl : i = h.ks.length := by omega
  rw [List.take_length] at hall
  simp (disch := first | assumption | omega | (simp only [az]; done)) only [ru, eq_self, if_true, if_false, BEq.rfl, binI, AO.row?, splice, fillL, mmAll, loadV, storeV, zeros, Am.rowAt, Am.part, addOff, Nat.reduceAdd, Nat.reduceMul, Nat.reduceLeDiff, Nat.reduceSub, Nat.reduceLT, Int.reduceEq, Int.reduceLT, Int.reduceLE, Int.reduceGT, Int.reduceGE, Int.reduceAdd, Int.reduceSub, Int.reduceMul, Int.reduceNeg, Int.reduceToNat, reduceCtorEq, reduceIte, hlt]
  clear ih hl' q1 q3
  have ek2 : h.valid = (h.ps.all (prOk h.ks.length) && h.bs.all (fun b => inR b 0 99)) := by rw [ek, hall, Bool.true_and]
  refine G_loop_ind (fun m ts hh mk => ∃ i : Nat, i ≤ h.ps.length ∧ m = h.ps.length - i ∧ (h.ps.take i).all (prOk h.ks.length) = true ∧ ts.length = 96 ∧ ts.getD 1 .undef = .ptr 0 0 ∧ ts.getD 4 .undef = I i ∧ hh = [.cells [k, I h.fl, p, b] false] ∧ mk = []) ?_ _ _ _ _ ⟨0, Nat.zero_le _, rfl, rfl, rfl, rfl, rfl, rfl, rfl⟩
  rintro m ts hh mk ih ⟨i, hi', rfl, hall2, hl', q1, q4, rfl, rfl⟩
  rw [lit_all hl']
  simp only [lit0, litS, Nat.reduceAdd, q1, q4]
  simp (disch := first | assumption | omega | (simp only [az]; done)) only [ru, eq_self, if_true, if_false, BEq.rfl, binI, AO.row?, splice, fillL, mmAll, loadV, storeV, zeros, Am.rowAt, Am.part, addOff, Nat.reduceAdd, Nat.reduceMul, Nat.reduceLeDiff, Nat.reduceSub, Nat.reduceLT, Int.reduceEq, Int.reduceLT, Int.reduceLE, Int.reduceGT, Int.reduceGE, Int.reduceAdd, Int.reduceSub, Int.reduceMul, Int.reduceNeg, Int.reduceToNat, reduceCtorEq, reduceIte, lenV_sl H.k, lenV_sl H.p, lenV_sl H.b, elem_kd H.k, elem_pr H.p, elem_in H.b, view_sl H.k, view_sl H.p, view_sl H.b, scalar_sl H.k, scalar_sl H.p, scalar_sl H.b, cells_sl H.k, cells_sl H.p, cells_sl H.b, pure_sl H.k, pure_sl H.p, pure_sl H.b, Int.toNat_natCast]
  by_cases hlt2 : (i : Int) < h.ps.length
  case pos =>
    have hi2 : i < h.ps.length := by omega
    have no := fun hp => all_not (p := prOk h.ks.length) hi2 rfl hp
    have nx := fun hp => all_upto_succ (p := prOk h.ks.length) hi2 rfl hall2 hp
    obtain ⟨x, hx⟩ : ∃ x, x = h.ps.getD i default := ⟨_, rfl⟩
    rw [← hx] at no nx
    cases a1 : inR x.k 0 (h.ks.length - 1)
    · have ev : h.valid = false := by rw [ek2, no (by simp only [prOk, a1, Bool.false_and])]; rfl
      simp (disch := first | assumption | omega | (simp only [az]; done)) only [ru, eq_self, if_true, if_false, BEq.rfl, binI, AO.row?, splice, fillL, mmAll, loadV, storeV, zeros, Am.rowAt, Am.part, addOff, Nat.reduceAdd, Nat.reduceMul, Nat.reduceLeDiff, Nat.reduceSub, Nat.reduceLT, Int.reduceEq, Int.reduceLT, Int.reduceLE, Int.reduceGT, Int.reduceGE, Int.reduceAdd, Int.reduceSub, Int.reduceMul, Int.reduceNeg, Int.reduceToNat, reduceCtorEq, reduceIte, lenV_sl H.k, lenV_sl H.p, lenV_sl H.b, elem_kd H.k, elem_pr H.p, elem_in H.b, view_sl H.k, view_sl H.p, view_sl H.b, scalar_sl H.k, scalar_sl H.p, scalar_sl H.b, cells_sl H.k, cells_sl H.p, cells_sl H.b, pure_sl H.k, pure_sl H.p, pure_sl H.b, Int.toNat_natCast, hlt2, ← hx, s66, a1, bad ev, gUn, Bool.not_false]
      done
    cases a2 : inR x.p 0 40
    · have ev : h.valid = false := by rw [ek2, no (by simp only [prOk, a1, a2, Bool.true_and])]; rfl
      simp (disch := first | assumption | omega | (simp only [az]; done)) only [ru, eq_self, if_true, if_false, BEq.rfl, binI, AO.row?, splice, fillL, mmAll, loadV, storeV, zeros, Am.rowAt, Am.part, addOff, Nat.reduceAdd, Nat.reduceMul, Nat.reduceLeDiff, Nat.reduceSub, Nat.reduceLT, Int.reduceEq, Int.reduceLT, Int.reduceLE, Int.reduceGT, Int.reduceGE, Int.reduceAdd, Int.reduceSub, Int.reduceMul, Int.reduceNeg, Int.reduceToNat, reduceCtorEq, reduceIte, lenV_sl H.k, lenV_sl H.p, lenV_sl H.b, elem_kd H.k, elem_pr H.p, elem_in H.b, view_sl H.k, view_sl H.p, view_sl H.b, scalar_sl H.k, scalar_sl H.p, scalar_sl H.b, cells_sl H.k, cells_sl H.p, cells_sl H.b, pure_sl H.k, pure_sl H.p, pure_sl H.b, Int.toNat_natCast, hlt2, ← hx, s66, a1, a2, bad ev, gUn, Bool.not_false, Bool.not_true]
      done
    simp (disch := first | assumption | omega | (simp only [az]; done)) only [ru, eq_self, if_true, if_false, BEq.rfl, binI, AO.row?, splice, fillL, mmAll, loadV, storeV, zeros, Am.rowAt, Am.part, addOff, Nat.reduceAdd, Nat.reduceMul, Nat.reduceLeDiff, Nat.reduceSub, Nat.reduceLT, Int.reduceEq, Int.reduceLT, Int.reduceLE, Int.reduceGT, Int.reduceGE, Int.reduceAdd, Int.reduceSub, Int.reduceMul, Int.reduceNeg, Int.reduceToNat, reduceCtorEq, reduceIte, lenV_sl H.k, lenV_sl H.p, lenV_sl H.b, elem_kd H.k, elem_pr H.p, elem_in H.b, view_sl H.k, view_sl H.p, view_sl H.b, scalar_sl H.k, scalar_sl H.p, scalar_sl H.b, cells_sl H.k, cells_sl H.p, cells_sl H.b, pure_sl H.k, pure_sl H.p, pure_sl H.b, Int.toNat_natCast, hlt2, ← hx, s66, a1, a2, gUn, Bool.not_false, Bool.not_true]
    exact ih (h.ps.length - (i + 1)) _ _ _ (by omega) ⟨i + 1, by omega, rfl, nx (by simp only [prOk, a1, a2, Bool.true_and]), rfl, rfl, rfl, rfl, rfl⟩
  obtain rfl : i = h.ps.length := by omega
  rw [List.take_length] at hall2
  simp (disch := first | assumption | omega | (simp only [az]; done)) only [ru, eq_self, if_true, if_false, BEq.rfl, binI, AO.row?, splice, fillL, mmAll, loadV, storeV, zeros, Am.rowAt, Am.part, addOff, Nat.reduceAdd, Nat.reduceMul, Nat.reduceLeDiff, Nat.reduceSub, Nat.reduceLT, Int.reduceEq, Int.reduceLT, Int.reduceLE, Int.reduceGT, Int.reduceGE, Int.reduceAdd, Int.reduceSub, Int.reduceMul, Int.reduceNeg, Int.reduceToNat, reduceCtorEq, reduceIte, hlt2]
  clear ih hl' q1 q4
  have ek3 : h.valid = h.bs.all (fun b => inR b 0 99) := by rw [ek2, hall2, Bool.true_and]
  refine G_loop_ind (fun m ts hh mk => ∃ i : Nat, i ≤ h.bs.length ∧ m = h.bs.length - i ∧ (h.bs.take i).all (fun b => inR b 0 99) = true ∧ ts.length = 96 ∧ ts.getD 1 .undef = .ptr 0 0 ∧ ts.getD 5 .undef = I i ∧ hh = [.cells [k, I h.fl, p, b] false] ∧ mk = []) ?_ _ _ _ _ ⟨0, Nat.zero_le _, rfl, rfl, rfl, rfl, rfl, rfl, rfl⟩
  rintro m ts hh mk ih ⟨i, hi', rfl, hall3, hl', q1, q5, rfl, rfl⟩
  rw [lit_all hl']
  simp only [lit0, litS, Nat.reduceAdd, q1, q5]
  simp (disch := first | assumption | omega | (simp only [az]; done)) only [ru, eq_self, if_true, if_false, BEq.rfl, binI, AO.row?, splice, fillL, mmAll, loadV, storeV, zeros, Am.rowAt, Am.part, addOff, Nat.reduceAdd, Nat.reduceMul, Nat.reduceLeDiff, Nat.reduceSub, Nat.reduceLT, Int.reduceEq, Int.reduceLT, Int.reduceLE, Int.reduceGT, Int.reduceGE, Int.reduceAdd, Int.reduceSub, Int.reduceMul, Int.reduceNeg, Int.reduceToNat, reduceCtorEq, reduceIte, lenV_sl H.k, lenV_sl H.p, lenV_sl H.b, elem_kd H.k, elem_pr H.p, elem_in H.b, view_sl H.k, view_sl H.p, view_sl H.b, scalar_sl H.k, scalar_sl H.p, scalar_sl H.b, cells_sl H.k, cells_sl H.p, cells_sl H.b, pure_sl H.k, pure_sl H.p, pure_sl H.b, Int.toNat_natCast]
  by_cases hlt3 : (i : Int) < h.bs.length
  case pos =>
    have hi2 : i < h.bs.length := by omega
    have no := fun hp => all_not (p := fun b => inR b 0 99) hi2 rfl hp
    have nx := fun hp => all_upto_succ (p := fun b => inR b 0 99) hi2 rfl hall3 hp
    obtain ⟨x, hx⟩ : ∃ x, x = h.bs.getD i 0 := ⟨_, rfl⟩
    have hd : h.bs.getD i default = x := hx.symm
    rw [hd] at no nx
    cases a1 : inR x 0 99
    · have ev : h.valid = false := by rw [ek3, no a1]
      simp (disch := first | assumption | omega | (simp only [az]; done)) only [ru, eq_self, if_true, if_false, BEq.rfl, binI, AO.row?, splice, fillL, mmAll, loadV, storeV, zeros, Am.rowAt, Am.part, addOff, Nat.reduceAdd, Nat.reduceMul, Nat.reduceLeDiff, Nat.reduceSub, Nat.reduceLT, Int.reduceEq, Int.reduceLT, Int.reduceLE, Int.reduceGT, Int.reduceGE, Int.reduceAdd, Int.reduceSub, Int.reduceMul, Int.reduceNeg, Int.reduceToNat, reduceCtorEq, reduceIte, lenV_sl H.k, lenV_sl H.p, lenV_sl H.b, elem_kd H.k, elem_pr H.p, elem_in H.b, view_sl H.k, view_sl H.p, view_sl H.b, scalar_sl H.k, scalar_sl H.p, scalar_sl H.b, cells_sl H.k, cells_sl H.p, cells_sl H.b, pure_sl H.k, pure_sl H.p, pure_sl H.b, Int.toNat_natCast, hlt3, ← hx, s66, a1, bad ev, gUn, Bool.not_false]
      done
    simp (disch := first | assumption | omega | (simp only [az]; done)) only [ru, eq_self, if_true, if_false, BEq.rfl, binI, AO.row?, splice, fillL, mmAll, loadV, storeV, zeros, Am.rowAt, Am.part, addOff, Nat.reduceAdd, Nat.reduceMul, Nat.reduceLeDiff, Nat.reduceSub, Nat.reduceLT, Int.reduceEq, Int.reduceLT, Int.reduceLE, Int.reduceGT, Int.reduceGE, Int.reduceAdd, Int.reduceSub, Int.reduceMul, Int.reduceNeg, Int.reduceToNat, reduceCtorEq, reduceIte, lenV_sl H.k, lenV_sl H.p, lenV_sl H.b, elem_kd H.k, elem_pr H.p, elem_in H.b, view_sl H.k, view_sl H.p, view_sl H.b, scalar_sl H.k, scalar_sl H.p, scalar_sl H.b, cells_sl H.k, cells_sl H.p, cells_sl H.b, pure_sl H.k, pure_sl H.p, pure_sl H.b, Int.toNat_natCast, hlt3, ← hx, s66, a1, gUn, Bool.not_false, Bool.not_true]
    exact ih (h.bs.length - (i + 1)) _ _ _ (by omega) ⟨i + 1, by omega, rfl, nx a1, rfl, rfl, rfl, rfl, rfl⟩
  obtain rfl : i = h.bs.length := by omega
  rw [List.take_length] at hall3
  have ev : vE h.valid = 0 := by rw [ek3, hall3]; rfl
  simp (disch := first | assumption | omega | (simp only [az]; done)) only [ru, eq_self, if_true, if_false, BEq.rfl, binI, AO.row?, splice, fillL, mmAll, loadV, storeV, zeros, Am.rowAt, Am.part, addOff, Nat.reduceAdd, Nat.reduceMul, Nat.reduceLeDiff, Nat.reduceSub, Nat.reduceLT, Int.reduceEq, Int.reduceLT, Int.reduceLE, Int.reduceGT, Int.reduceGE, Int.reduceAdd, Int.reduceSub, Int.reduceMul, Int.reduceNeg, Int.reduceToNat, reduceCtorEq, reduceIte, hlt3, ev]
def risB (l : List Int) (lo hi : Int) : Bool := (List.range l.length).all fun i => inR (l.getD i 0) lo hi && (decide (i = 0) || decide (l.getD (i - 1) 0 < l.getD i 0))
theorem s54 {l : List Int} {v : AV} (V : IsSl 1 intL l v) (hl : l.length ≤ 1000) (lo hi : Int) (st : Bool) : Iso E 76 [v, I lo, I hi] st = some (Bo (risB l lo hi)) := by
  refine Iso_of (es _ _ _ _) e76 ?_
  simp only [f76]
  simp (disch := first | assumption | omega | (simp only [az]; done)) only [ru, eq_self, if_true, if_false, BEq.rfl, binI, AO.row?, splice, fillL, mmAll, loadV, storeV, zeros, Am.rowAt, Am.part, addOff, Nat.reduceAdd, Nat.reduceMul, Nat.reduceLeDiff, Nat.reduceSub, Nat.reduceLT, Int.reduceEq, Int.reduceLT, Int.reduceLE, Int.reduceGT, Int.reduceGE, Int.reduceAdd, Int.reduceSub, Int.reduceMul, Int.reduceNeg, Int.reduceToNat, reduceCtorEq, reduceIte]
  refine G_loop_ind (fun m ts h mk => ∃ i : Nat, i ≤ l.length ∧ m = l.length - i ∧ ((List.range i).all fun i => inR (l.getD i 0) lo hi && (decide (i = 0) || decide (l.getD (i - 1) 0 < l.getD i 0))) = true ∧ ts.length = 38 ∧ ts.getD 0 .undef = v ∧ ts.getD 1 .undef = I lo ∧ ts.getD 2 .undef = I hi ∧ ts.getD 7 .undef = I i ∧ h = [] ∧ mk = []) ?_ _ _ _ _ ⟨0, Nat.zero_le _, rfl, rfl, rfl, rfl, rfl, rfl, rfl, rfl, rfl⟩
  rintro m ts h mk ih ⟨i, hi', rfl, hall, hl', q0, q1, q2, q7, rfl, rfl⟩
  rw [lit_all hl']
  simp only [lit0, litS, Nat.reduceAdd, q0, q1, q2, q7]
  simp (disch := first | assumption | omega | (simp only [az]; done)) only [ru, eq_self, if_true, if_false, BEq.rfl, binI, AO.row?, splice, fillL, mmAll, loadV, storeV, zeros, Am.rowAt, Am.part, addOff, Nat.reduceAdd, Nat.reduceMul, Nat.reduceLeDiff, Nat.reduceSub, Nat.reduceLT, Int.reduceEq, Int.reduceLT, Int.reduceLE, Int.reduceGT, Int.reduceGE, Int.reduceAdd, Int.reduceSub, Int.reduceMul, Int.reduceNeg, Int.reduceToNat, reduceCtorEq, reduceIte, lenV_sl V, elem_in V, view_sl V, scalar_sl V, cells_sl V, pure_sl V, Int.toNat_natCast]
  by_cases hlt : (i : Int) < l.length
  case neg =>
    obtain rfl : i = l.length := by omega
    have ev : risB l lo hi = true := hall
    simp (disch := first | assumption | omega | (simp only [az]; done)) only [ru, eq_self, if_true, if_false, BEq.rfl, binI, AO.row?, splice, fillL, mmAll, loadV, storeV, zeros, Am.rowAt, Am.part, addOff, Nat.reduceAdd, Nat.reduceMul, Nat.reduceLeDiff, Nat.reduceSub, Nat.reduceLT, Int.reduceEq, Int.reduceLT, Int.reduceLE, Int.reduceGT, Int.reduceGE, Int.reduceAdd, Int.reduceSub, Int.reduceMul, Int.reduceNeg, Int.reduceToNat, reduceCtorEq, reduceIte, hlt, ev]
  have hi2 : i < l.length := by omega
  have no := fun hp => range_not (N := l.length) (p := fun i => inR (l.getD i 0) lo hi && (decide (i = 0) || decide (l.getD (i - 1) 0 < l.getD i 0))) hi2 hp
  have nx := fun hp => range_all_succ (p := fun i => inR (l.getD i 0) lo hi && (decide (i = 0) || decide (l.getD (i - 1) 0 < l.getD i 0))) hall hp
  cases hc : inR (l.getD i 0) lo hi
  · have ev : risB l lo hi = false := no (by simp only [hc, Bool.false_and])
    simp (disch := first | assumption | omega | (simp only [az]; done)) only [ru, eq_self, if_true, if_false, BEq.rfl, binI, AO.row?, splice, fillL, mmAll, loadV, storeV, zeros, Am.rowAt, Am.part, addOff, Nat.reduceAdd, Nat.reduceMul, Nat.reduceLeDiff, Nat.reduceSub, Nat.reduceLT, Int.reduceEq, Int.reduceLT, Int.reduceLE, Int.reduceGT, Int.reduceGE, Int.reduceAdd, Int.reduceSub, Int.reduceMul, Int.reduceNeg, Int.reduceToNat, reduceCtorEq, reduceIte, lenV_sl V, elem_in V, view_sl V, scalar_sl V, cells_sl V, pure_sl V, Int.toNat_natCast, hlt, s57, hc, gUn, ev, Bool.not_false]
  by_cases h0 : i = 0
  · have hg : ¬ (i : Int) > 0 := by omega
    simp (disch := first | assumption | omega | (simp only [az]; done)) only [ru, eq_self, if_true, if_false, BEq.rfl, binI, AO.row?, splice, fillL, mmAll, loadV, storeV, zeros, Am.rowAt, Am.part, addOff, Nat.reduceAdd, Nat.reduceMul, Nat.reduceLeDiff, Nat.reduceSub, Nat.reduceLT, Int.reduceEq, Int.reduceLT, Int.reduceLE, Int.reduceGT, Int.reduceGE, Int.reduceAdd, Int.reduceSub, Int.reduceMul, Int.reduceNeg, Int.reduceToNat, reduceCtorEq, reduceIte, lenV_sl V, elem_in V, view_sl V, scalar_sl V, cells_sl V, pure_sl V, Int.toNat_natCast, hlt, s57, hc, gUn, hg, Bool.not_true, decide_false]
    exact ih (l.length - (i + 1)) _ _ _ (by omega) ⟨i + 1, by omega, rfl, nx (by rw [hc, decide_eq_true h0]; rfl), rfl, rfl, rfl, rfl, rfl, rfl, rfl⟩
  have hg : (i : Int) > 0 := by omega
  have hm1 : (0 : Int) ≤ (i : Int) - 1 := by omega
  have hm2 : (i : Int) - 1 < l.length := by omega
  have hm3 : ((i : Int) - 1).toNat = i - 1 := by omega
  by_cases hle : l.getD i 0 ≤ l.getD (i - 1) 0
  · have hn : ¬ l.getD (i - 1) 0 < l.getD i 0 := by omega
    have ev : risB l lo hi = false := no (by rw [decide_eq_false hn, decide_eq_false h0, Bool.or_false, Bool.and_false])
    simp (disch := first | assumption | omega | (simp only [az]; done)) only [ru, eq_self, if_true, if_false, BEq.rfl, binI, AO.row?, splice, fillL, mmAll, loadV, storeV, zeros, Am.rowAt, Am.part, addOff, Nat.reduceAdd, Nat.reduceMul, Nat.reduceLeDiff, Nat.reduceSub, Nat.reduceLT, Int.reduceEq, Int.reduceLT, Int.reduceLE, Int.reduceGT, Int.reduceGE, Int.reduceAdd, Int.reduceSub, Int.reduceMul, Int.reduceNeg, Int.reduceToNat, reduceCtorEq, reduceIte, lenV_sl V, elem_in V, view_sl V, scalar_sl V, cells_sl V, pure_sl V, Int.toNat_natCast, hlt, s57, hc, gUn, hg, hm1, hm2, hm3, hle, ev, Bool.not_true, decide_true]
  · have hn : l.getD (i - 1) 0 < l.getD i 0 := by omega
    simp (disch := first | assumption | omega | (simp only [az]; done)) only [ru, eq_self, if_true, if_false, BEq.rfl, binI, AO.row?, splice, fillL, mmAll, loadV, storeV, zeros, Am.rowAt, Am.part, addOff, Nat.reduceAdd, Nat.reduceMul, Nat.reduceLeDiff, Nat.reduceSub, Nat.reduceLT, Int.reduceEq, Int.reduceLT, Int.reduceLE, Int.reduceGT, Int.reduceGE, Int.reduceAdd, Int.reduceSub, Int.reduceMul, Int.reduceNeg, Int.reduceToNat, reduceCtorEq, reduceIte, lenV_sl V, elem_in V, view_sl V, scalar_sl V, cells_sl V, pure_sl V, Int.toNat_natCast, hlt, s57, hc, gUn, hg, hm1, hm2, hm3, hle, Bool.not_true, decide_true, decide_false]
    exact ih (l.length - (i + 1)) _ _ _ (by omega) ⟨i + 1, by omega, rfl, nx (by rw [hc, decide_eq_true hn, Bool.or_true, Bool.and_true]), rfl, rfl, rfl, rfl, rfl, rfl, rfl⟩
def Hs.pts (h : Hs) (l : List Int) : List Pr := l.map fun i => h.ps.getD i.toNat default
theorem pts_snoc {l : List Int} {c : Int} : h.pts (l ++ [c]) = h.pts l ++ [h.ps.getD c.toNat default] := by simp [Hs.pts]
theorem pts_len {l : List Int} : (h.pts l).length = l.length := by simp [Hs.pts]
theorem pts_pg (G : HG h) (l : List Int) : PG (h.pts l) := by
  intro q hq
  obtain ⟨i, hi, rfl⟩ := List.mem_map.1 hq
  by_cases hl : i.toNat < h.ps.length
  · exact (G.q _ hl).2
  · rw [List.getD_eq_getElem?_getD, List.getElem?_eq_none (by omega)]
    show (0 : Int) ≤ 0 ∧ (0 : Int) ≤ 40
    omega
theorem lbP_snoc {l : List Pr} {q : Pr} : lbP (l ++ [q]) = lbP l + q.p := by simp [lbP, sm_app, sm]
theorem stP_snoc {ks : List Kd} {l : List Pr} {q : Pr} : stP ks (l ++ [q]) = mx (stP ks l) (kdP ks q).s := by simp [stP, mxs_snoc]
theorem dyP_snoc {ks : List Kd} {l : List Pr} {q : Pr} : dyP ks (l ++ [q]) = mx (dyP ks l) (kdP ks q).d := by simp [dyP, mxs_snoc]
def InP (h : Hs) (l : List Int) : Prop := ∀ i, i < l.length → 0 ≤ l.getD i 0 ∧ l.getD i 0 < h.ps.length
theorem inP_k (G : HG h) {l : List Int} (L : InP h l) {i : Nat} (hi : i < l.length) : 0 ≤ (h.ps.getD (l.getD i 0).toNat default).k ∧ (h.ps.getD (l.getD i 0).toNat default).k < h.ks.length := by
  have := L i hi
  exact (G.q _ (by omega)).1
theorem inB_in {x : List Int} {c : Int} (hx : x.length ≤ h.ps.length) : InP h (inB x c) := by
  intro i hi
  have := inB_mem.1 (getD_memI hi)
  omega
set_option maxHeartbeats 1000000 in
theorem s74 (H : HsOk h k p b) (G : HG h) {l : List Int} {v : AV} (V : IsSl 1 intL l v) (hl : l.length ≤ 1000) (L : InP h l) (st : Bool) : Iso E 127 [hsV h.fl k p b, v] st = some (I (lbP (h.pts l))) := by
  refine Iso_of (es _ _ _ _) e127 ?_
  simp only [f127, hsV]
  simp (disch := first | assumption | omega | (simp only [az]; done)) only [ru, eq_self, if_true, if_false, BEq.rfl, binI, AO.row?, splice, fillL, mmAll, loadV, storeV, zeros, Am.rowAt, Am.part, addOff, Nat.reduceAdd, Nat.reduceMul, Nat.reduceLeDiff, Nat.reduceSub, Nat.reduceLT, Int.reduceEq, Int.reduceLT, Int.reduceLE, Int.reduceGT, Int.reduceGE, Int.reduceAdd, Int.reduceSub, Int.reduceMul, Int.reduceNeg, Int.reduceToNat, reduceCtorEq, reduceIte, lenV_sl H.k, lenV_sl H.p, lenV_sl H.b, elem_kd H.k, elem_pr H.p, elem_in H.b, view_sl H.k, view_sl H.p, view_sl H.b, scalar_sl H.k, scalar_sl H.p, scalar_sl H.b, cells_sl H.k, cells_sl H.p, cells_sl H.b, pure_sl H.k, pure_sl H.p, pure_sl H.b, Int.toNat_natCast]
  refine G_loop_ind (fun m ts hh mk => ∃ i : Nat, i ≤ l.length ∧ m = l.length - i ∧ ts.length = 25 ∧ ts.getD 1 .undef = v ∧ ts.getD 2 .undef = .ptr 0 0 ∧ ts.getD 5 .undef = I (lbP (h.pts (l.take i))) ∧ ts.getD 6 .undef = I i ∧ hh = [.cells [k, I h.fl, p, b] false] ∧ mk = []) ?_ _ _ _ _ ⟨0, Nat.zero_le _, rfl, rfl, rfl, rfl, rfl, rfl, rfl, rfl⟩
  rintro m ts hh mk ih ⟨i, hi', rfl, hl', q1, q2, q5, q6, rfl, rfl⟩
  rw [lit_all hl']
  simp only [lit0, litS, Nat.reduceAdd, q1, q2, q5, q6]
  simp (disch := first | assumption | omega | (simp only [az]; done)) only [ru, eq_self, if_true, if_false, BEq.rfl, binI, AO.row?, splice, fillL, mmAll, loadV, storeV, zeros, Am.rowAt, Am.part, addOff, Nat.reduceAdd, Nat.reduceMul, Nat.reduceLeDiff, Nat.reduceSub, Nat.reduceLT, Int.reduceEq, Int.reduceLT, Int.reduceLE, Int.reduceGT, Int.reduceGE, Int.reduceAdd, Int.reduceSub, Int.reduceMul, Int.reduceNeg, Int.reduceToNat, reduceCtorEq, reduceIte, lenV_sl V, elem_in V, view_sl V, scalar_sl V, cells_sl V, pure_sl V, Int.toNat_natCast]
  by_cases hlt : (i : Int) < l.length
  case pos =>
    have hi2 : i < l.length := by omega
    have hx := L i hi2
    obtain ⟨x, ex⟩ : ∃ x, x = l.getD i 0 := ⟨_, rfl⟩
    have e1 : lbP (h.pts (l.take (i + 1))) = lbP (h.pts (l.take i)) + (h.ps.getD x.toNat default).p := by
      rw [take_snoc (d := 0) hi2, pts_snoc, lbP_snoc, ex]
    have b1 := lb_bd (pts_pg G (l.take i))
    have b2 := (pts_pg G (l.take (i + 1)))
    have b3 := lb_bd b2
    rw [pts_len, List.length_take] at b1 b3
    rw [e1] at b3
    rw [← ex] at hx
    obtain ⟨z, hz⟩ : ∃ z, z = lbP (h.pts (l.take i)) := ⟨_, rfl⟩
    obtain ⟨y, hy⟩ : ∃ y, y = h.ps.getD x.toNat default := ⟨_, rfl⟩
    rw [← hz, ← hy] at b3 e1
    rw [← hz] at b1 ⊢
    have x0 := hx.1; have x1 := hx.2
    simp (disch := first | assumption | omega | (simp only [az]; done)) only [ru, eq_self, if_true, if_false, BEq.rfl, binI, AO.row?, splice, fillL, mmAll, loadV, storeV, zeros, Am.rowAt, Am.part, addOff, Nat.reduceAdd, Nat.reduceMul, Nat.reduceLeDiff, Nat.reduceSub, Nat.reduceLT, Int.reduceEq, Int.reduceLT, Int.reduceLE, Int.reduceGT, Int.reduceGE, Int.reduceAdd, Int.reduceSub, Int.reduceMul, Int.reduceNeg, Int.reduceToNat, reduceCtorEq, reduceIte, lenV_sl H.k, lenV_sl H.p, lenV_sl H.b, elem_kd H.k, elem_pr H.p, elem_in H.b, view_sl H.k, view_sl H.p, view_sl H.b, scalar_sl H.k, scalar_sl H.p, scalar_sl H.b, cells_sl H.k, cells_sl H.p, cells_sl H.b, pure_sl H.k, pure_sl H.p, pure_sl H.b, Int.toNat_natCast, lenV_sl V, elem_in V, view_sl V, scalar_sl V, cells_sl V, pure_sl V, Int.toNat_natCast, hlt, ← ex, x0, x1, ← hy]
    exact ih (l.length - (i + 1)) _ _ _ (by omega) ⟨i + 1, by omega, rfl, rfl, rfl, rfl, by rw [e1]; rfl, rfl, rfl, rfl⟩
  obtain rfl : i = l.length := by omega
  rw [List.take_length]
  simp (disch := first | assumption | omega | (simp only [az]; done)) only [ru, eq_self, if_true, if_false, BEq.rfl, binI, AO.row?, splice, fillL, mmAll, loadV, storeV, zeros, Am.rowAt, Am.part, addOff, Nat.reduceAdd, Nat.reduceMul, Nat.reduceLeDiff, Nat.reduceSub, Nat.reduceLT, Int.reduceEq, Int.reduceLT, Int.reduceLE, Int.reduceGT, Int.reduceGE, Int.reduceAdd, Int.reduceSub, Int.reduceMul, Int.reduceNeg, Int.reduceToNat, reduceCtorEq, reduceIte, hlt]
set_option maxHeartbeats 1000000 in
theorem s71 (H : HsOk h k p b) (G : HG h) {l : List Int} {v : AV} (V : IsSl 1 intL l v) (hl : l.length ≤ 1000) (L : InP h l) (st : Bool) : Iso E 128 [hsV h.fl k p b, v] st = some (I (slP h.ks h.fl (h.pts l))) := by
  have a := fun st => s74 H G V hl L st
  simp only [hsV] at a
  refine Iso_of (es _ _ _ _) e128 ?_
  simp only [f128, hsV, slP, pts_len]
  by_cases h0 : l.length = 0
  · have h0' : (l.length : Int) = 0 := by omega
    simp (disch := first | assumption | omega | (simp only [az]; done)) only [ru, eq_self, if_true, if_false, BEq.rfl, binI, AO.row?, splice, fillL, mmAll, loadV, storeV, zeros, Am.rowAt, Am.part, addOff, Nat.reduceAdd, Nat.reduceMul, Nat.reduceLeDiff, Nat.reduceSub, Nat.reduceLT, Int.reduceEq, Int.reduceLT, Int.reduceLE, Int.reduceGT, Int.reduceGE, Int.reduceAdd, Int.reduceSub, Int.reduceMul, Int.reduceNeg, Int.reduceToNat, reduceCtorEq, reduceIte, lenV_sl H.k, lenV_sl H.p, lenV_sl H.b, elem_kd H.k, elem_pr H.p, elem_in H.b, view_sl H.k, view_sl H.p, view_sl H.b, scalar_sl H.k, scalar_sl H.p, scalar_sl H.b, cells_sl H.k, cells_sl H.p, cells_sl H.b, pure_sl H.k, pure_sl H.p, pure_sl H.b, Int.toNat_natCast, lenV_sl V, elem_in V, view_sl V, scalar_sl V, cells_sl V, pure_sl V, Int.toNat_natCast, h0, h0', decide_true]
    done
  have h0' : ¬ (l.length : Int) = 0 := by omega
  simp (disch := first | assumption | omega | (simp only [az]; done)) only [ru, eq_self, if_true, if_false, BEq.rfl, binI, AO.row?, splice, fillL, mmAll, loadV, storeV, zeros, Am.rowAt, Am.part, addOff, Nat.reduceAdd, Nat.reduceMul, Nat.reduceLeDiff, Nat.reduceSub, Nat.reduceLT, Int.reduceEq, Int.reduceLT, Int.reduceLE, Int.reduceGT, Int.reduceGE, Int.reduceAdd, Int.reduceSub, Int.reduceMul, Int.reduceNeg, Int.reduceToNat, reduceCtorEq, reduceIte, lenV_sl H.k, lenV_sl H.p, lenV_sl H.b, elem_kd H.k, elem_pr H.p, elem_in H.b, view_sl H.k, view_sl H.p, view_sl H.b, scalar_sl H.k, scalar_sl H.p, scalar_sl H.b, cells_sl H.k, cells_sl H.p, cells_sl H.b, pure_sl H.k, pure_sl H.p, pure_sl H.b, Int.toNat_natCast, lenV_sl V, elem_in V, view_sl V, scalar_sl V, cells_sl V, pure_sl V, Int.toNat_natCast, h0', decide_false]
  refine G_loop_ind (fun m ts hh mk => ∃ i : Nat, i ≤ l.length ∧ m = l.length - i ∧ ts.length = 42 ∧ ts.getD 1 .undef = v ∧ ts.getD 2 .undef = .ptr 0 0 ∧ ts.getD 5 .undef = I (stP h.ks (h.pts (l.take i))) ∧ ts.getD 6 .undef = I i ∧ hh = [.cells [k, I h.fl, p, b] false] ∧ mk = []) ?_ _ _ _ _ ⟨0, Nat.zero_le _, rfl, rfl, rfl, rfl, rfl, rfl, rfl, rfl⟩
  rintro m ts hh mk ih ⟨i, hi', rfl, hl', q1, q2, q5, q6, rfl, rfl⟩
  rw [lit_all hl']
  simp only [lit0, litS, Nat.reduceAdd, q1, q2, q5, q6]
  simp (disch := first | assumption | omega | (simp only [az]; done)) only [ru, eq_self, if_true, if_false, BEq.rfl, binI, AO.row?, splice, fillL, mmAll, loadV, storeV, zeros, Am.rowAt, Am.part, addOff, Nat.reduceAdd, Nat.reduceMul, Nat.reduceLeDiff, Nat.reduceSub, Nat.reduceLT, Int.reduceEq, Int.reduceLT, Int.reduceLE, Int.reduceGT, Int.reduceGE, Int.reduceAdd, Int.reduceSub, Int.reduceMul, Int.reduceNeg, Int.reduceToNat, reduceCtorEq, reduceIte, lenV_sl V, elem_in V, view_sl V, scalar_sl V, cells_sl V, pure_sl V, Int.toNat_natCast]
  by_cases hlt : (i : Int) < l.length
  case pos =>
    have hi2 : i < l.length := by omega
    have hx := L i hi2
    have hk := inP_k G L hi2
    obtain ⟨x, ex⟩ : ∃ x, x = l.getD i 0 := ⟨_, rfl⟩
    have e1 : stP h.ks (h.pts (l.take (i + 1))) = mx (stP h.ks (h.pts (l.take i))) (kdP h.ks (h.ps.getD x.toNat default)).s := by
      rw [take_snoc (d := 0) hi2, pts_snoc, stP_snoc, ex]
    rw [← ex] at hx hk
    obtain ⟨z, hz⟩ : ∃ z, z = stP h.ks (h.pts (l.take i)) := ⟨_, rfl⟩
    obtain ⟨y, hy⟩ : ∃ y, y = h.ps.getD x.toNat default := ⟨_, rfl⟩
    rw [← hz, ← hy] at e1
    rw [← hy] at hk
    rw [← hz]
    have x0 := hx.1; have x1 := hx.2
    have k0 := hk.1; have k1 := hk.2
    simp (disch := first | assumption | omega | (simp only [az]; done)) only [ru, eq_self, if_true, if_false, BEq.rfl, binI, AO.row?, splice, fillL, mmAll, loadV, storeV, zeros, Am.rowAt, Am.part, addOff, Nat.reduceAdd, Nat.reduceMul, Nat.reduceLeDiff, Nat.reduceSub, Nat.reduceLT, Int.reduceEq, Int.reduceLT, Int.reduceLE, Int.reduceGT, Int.reduceGE, Int.reduceAdd, Int.reduceSub, Int.reduceMul, Int.reduceNeg, Int.reduceToNat, reduceCtorEq, reduceIte, lenV_sl H.k, lenV_sl H.p, lenV_sl H.b, elem_kd H.k, elem_pr H.p, elem_in H.b, view_sl H.k, view_sl H.p, view_sl H.b, scalar_sl H.k, scalar_sl H.p, scalar_sl H.b, cells_sl H.k, cells_sl H.p, cells_sl H.b, pure_sl H.k, pure_sl H.p, pure_sl H.b, Int.toNat_natCast, lenV_sl V, elem_in V, view_sl V, scalar_sl V, cells_sl V, pure_sl V, Int.toNat_natCast, hlt, ← ex, x0, x1, ← hy, k0, k1]
    exact ih (l.length - (i + 1)) _ _ _ (by omega) ⟨i + 1, by omega, rfl, rfl, rfl, rfl, by rw [e1]; rfl, rfl, rfl, rfl⟩
  obtain rfl : i = l.length := by omega
  rw [List.take_length]
  have b1 := lb_bd (pts_pg G l)
  have b2 := st_bd G.g (h.pts l)
  rw [pts_len] at b1
  have b3 : lbP (h.pts l) * stP h.ks (h.pts l) ≤ (40 * l.length) * 9 := Int.mul_le_mul b1.2 b2.2 b2.1 (by omega)
  have b4 : 0 ≤ lbP (h.pts l) * stP h.ks (h.pts l) := Int.mul_nonneg b1.1 b2.1
  have b5 := G.g.f
  obtain ⟨z, hz⟩ : ∃ z, z = lbP (h.pts l) * stP h.ks (h.pts l) := ⟨_, rfl⟩
  have e5 : (z + 9).tdiv 10 = (z + 9) / 10 := Int.tdiv_eq_ediv_of_nonneg (by omega)
  rw [← hz] at b3 b4
  simp (disch := first | assumption | omega | (simp only [az]; done)) only [ru, eq_self, if_true, if_false, BEq.rfl, binI, AO.row?, splice, fillL, mmAll, loadV, storeV, zeros, Am.rowAt, Am.part, addOff, Nat.reduceAdd, Nat.reduceMul, Nat.reduceLeDiff, Nat.reduceSub, Nat.reduceLT, Int.reduceEq, Int.reduceLT, Int.reduceLE, Int.reduceGT, Int.reduceGE, Int.reduceAdd, Int.reduceSub, Int.reduceMul, Int.reduceNeg, Int.reduceToNat, reduceCtorEq, reduceIte, lenV_sl H.k, lenV_sl H.p, lenV_sl H.b, elem_kd H.k, elem_pr H.p, elem_in H.b, view_sl H.k, view_sl H.p, view_sl H.b, scalar_sl H.k, scalar_sl H.p, scalar_sl H.b, cells_sl H.k, cells_sl H.p, cells_sl H.b, pure_sl H.k, pure_sl H.p, pure_sl H.b, Int.toNat_natCast, lenV_sl V, elem_in V, view_sl V, scalar_sl V, cells_sl V, pure_sl V, Int.toNat_natCast, hlt, a, ← hz, e5, h0, Int.reduceEq]
end
end Go.Proofs.YtfagcnokdnanpaaGreat.S
/-
The specification's packings: what is in a barrel of a list, what fits, all lists.
-/
namespace Go.Proofs.YtfagcnokdnanpaaGreat.S
open Go Go.Am Go.Proofs.YtfagcnokdnanpaaGreat.T
set_option maxRecDepth 100000
set_option linter.unusedSimpArgs false
set_option linter.unusedVariables false
theorem outE_ap {α : Type} {enc : α → List AV} {esz eb : Nat} (he : ∀ a, (enc a).length = esz) (hs : ∀ a, (enc a).all AV.scalar = true) (h1 : 1 ≤ esz) (heb : 1 ≤ eb) (hb : eb ≤ 1000) {b : Nat} {h : List AO} {v : AV} {l : List α} {lim : Nat} (H : OutE enc esz b h v l) (hbl : b ≤ h.length) (hlim : lim ≤ b) (hl : l.length ≤ 1000000) (x : α) :
    ∃ v' h', appV lim h esz eb v (.cs esz 1 (enc x)) = some (v', h') ∧ OutE enc esz b h' v' (l ++ [x]) ∧ b ≤ h'.length ∧ ∀ j, j < b → h'[j]? = h[j]? := by
  have hp : (h.take b).length = b := by rw [List.length_take]; omega
  have e : h.take b ++ h.drop b = h := List.take_append_drop b h
  have H' : OutE enc esz (h.take b).length (h.take b ++ h.drop b) v l := by rw [hp, e]; exact H
  obtain ⟨v', J', ha, ho⟩ := outE_app he hs h1 heb hb H' (by rw [hp]; exact hlim) hl x
  rw [e] at ha
  rw [hp] at ho
  refine ⟨v', h.take b ++ J', ha, ho, by rw [List.length_append, hp]; omega, fun j hj => ?_⟩
  rw [List.getElem?_append_left (by omega), List.getElem?_take, if_pos hj]
theorem OutE.fr {α : Type} {enc : α → List AV} {esz b : Nat} {h h' : List AO} {v : AV} {l : List α} (H : OutE enc esz b h v l) (F : Fr h h') : OutE enc esz b h' v l := by
  rcases H with h1 | ⟨hne, o, hb, e, hc⟩
  · exact .inl h1
  · exact .inr ⟨hne, o, hb, e, F.at hc⟩
def idx (f : Nat → Bool) (n : Nat) : List Int := ((List.range n).filter f).map fun (i : Nat) => (i : Int)
theorem idx_succ {f : Nat → Bool} {n : Nat} : idx f (n + 1) = idx f n ++ (if f n then [(n : Int)] else []) := by
  unfold idx
  rw [List.range_succ, List.filter_append, List.map_append]
  congr 1
  cases h : f n <;> simp [h]
theorem idx_len {f : Nat → Bool} {n : Nat} : (idx f n).length ≤ n := by
  unfold idx
  rw [List.length_map]
  exact Nat.le_trans (List.length_filter_le _ _) (by simp)
set_option maxHeartbeats 1000000 in
theorem s56 {x : List Int} {v : AV} (V : IsSl 1 intL x v) (hl : x.length ≤ 1000) (n : Int) (st : Bool) : Iso E 97 [v, I n] st = some (resL (inB x n)) := by
  refine Iso_of (es _ _ _ _) e97 ?_
  simp only [f97]
  simp (disch := first | assumption | omega | (simp only [az]; done)) only [ru, eq_self, if_true, if_false, BEq.rfl, binI, AO.row?, splice, fillL, mmAll, loadV, storeV, zeros, Am.rowAt, Am.part, addOff, Nat.reduceAdd, Nat.reduceMul, Nat.reduceLeDiff, Nat.reduceSub, Nat.reduceLT, Int.reduceEq, Int.reduceLT, Int.reduceLE, Int.reduceGT, Int.reduceGE, Int.reduceAdd, Int.reduceSub, Int.reduceMul, Int.reduceNeg, Int.reduceToNat, reduceCtorEq, reduceIte]
  refine G_loop_ind (fun m ts hh mk => ∃ (i : Nat) (o : AV), i ≤ x.length ∧ m = x.length - i ∧ OutE intL 1 0 hh o (idx (fun i => decide (x.getD i 0 = n)) i) ∧ ts.length = 24 ∧ ts.getD 0 .undef = v ∧ ts.getD 1 .undef = I n ∧ ts.getD 5 .undef = o ∧ ts.getD 6 .undef = I i ∧ mk = []) ?_ _ _ _ _ ⟨0, .nils, Nat.zero_le _, rfl, .inl ⟨rfl, rfl⟩, rfl, rfl, rfl, rfl, rfl, rfl⟩
  rintro m ts hh mk ih ⟨i, o, hi', rfl, ho, hl', q0, q1, q5, q6, rfl⟩
  rw [lit_all hl']
  simp only [lit0, litS, Nat.reduceAdd, q0, q1, q5, q6]
  simp (disch := first | assumption | omega | (simp only [az]; done)) only [ru, eq_self, if_true, if_false, BEq.rfl, binI, AO.row?, splice, fillL, mmAll, loadV, storeV, zeros, Am.rowAt, Am.part, addOff, Nat.reduceAdd, Nat.reduceMul, Nat.reduceLeDiff, Nat.reduceSub, Nat.reduceLT, Int.reduceEq, Int.reduceLT, Int.reduceLE, Int.reduceGT, Int.reduceGE, Int.reduceAdd, Int.reduceSub, Int.reduceMul, Int.reduceNeg, Int.reduceToNat, reduceCtorEq, reduceIte, lenV_sl V, elem_in V, view_sl V, scalar_sl V, cells_sl V, pure_sl V, Int.toNat_natCast]
  by_cases hlt : (i : Int) < x.length
  case pos =>
    have hi2 : i < x.length := by omega
    have li := idx_len (f := fun i => decide (x.getD i 0 = n)) (n := i)
    obtain ⟨v', h', A, ho', -, -⟩ := outE_ap (eb := 8) (lim := 0) intE intSc (by omega) (by omega) (by omega) ho (Nat.zero_le _) (Nat.zero_le _) (by omega) (i : Int)
    have es := idx_succ (f := fun i => decide (x.getD i 0 = n)) (n := i)
    obtain ⟨y, hy⟩ : ∃ y, y = x.getD i 0 := ⟨_, rfl⟩
    simp only [← hy] at es
    by_cases hc : y = n
    · simp only [decide_eq_true hc, if_true] at es
      simp (disch := first | assumption | omega | (simp only [az]; done)) only [ru, eq_self, if_true, if_false, BEq.rfl, binI, AO.row?, splice, fillL, mmAll, loadV, storeV, zeros, Am.rowAt, Am.part, addOff, Nat.reduceAdd, Nat.reduceMul, Nat.reduceLeDiff, Nat.reduceSub, Nat.reduceLT, Int.reduceEq, Int.reduceLT, Int.reduceLE, Int.reduceGT, Int.reduceGE, Int.reduceAdd, Int.reduceSub, Int.reduceMul, Int.reduceNeg, Int.reduceToNat, reduceCtorEq, reduceIte, lenV_sl V, elem_in V, view_sl V, scalar_sl V, cells_sl V, pure_sl V, Int.toNat_natCast, hlt, ← hy, hc, exOp_litS, AV.pureV.go, AV.pureV, Bool.and_true, exOp_append, A]
      exact ih (x.length - (i + 1)) _ _ _ (by omega) ⟨i + 1, v', by omega, rfl, by rw [es]; exact ho', rfl, rfl, rfl, rfl, rfl, rfl⟩
    · simp only [decide_eq_false hc, Bool.false_eq_true, if_false, List.append_nil] at es
      simp (disch := first | assumption | omega | (simp only [az]; done)) only [ru, eq_self, if_true, if_false, BEq.rfl, binI, AO.row?, splice, fillL, mmAll, loadV, storeV, zeros, Am.rowAt, Am.part, addOff, Nat.reduceAdd, Nat.reduceMul, Nat.reduceLeDiff, Nat.reduceSub, Nat.reduceLT, Int.reduceEq, Int.reduceLT, Int.reduceLE, Int.reduceGT, Int.reduceGE, Int.reduceAdd, Int.reduceSub, Int.reduceMul, Int.reduceNeg, Int.reduceToNat, reduceCtorEq, reduceIte, lenV_sl V, elem_in V, view_sl V, scalar_sl V, cells_sl V, pure_sl V, Int.toNat_natCast, hlt, ← hy, hc]
      exact ih (x.length - (i + 1)) _ _ _ (by omega) ⟨i + 1, o, by omega, rfl, by rw [es]; exact ho, rfl, rfl, rfl, rfl, rfl, rfl⟩
  obtain rfl : i = x.length := by omega
  simp (disch := first | assumption | omega | (simp only [az]; done)) only [ru, eq_self, if_true, if_false, BEq.rfl, binI, AO.row?, splice, fillL, mmAll, loadV, storeV, zeros, Am.rowAt, Am.part, addOff, Nat.reduceAdd, Nat.reduceMul, Nat.reduceLeDiff, Nat.reduceSub, Nat.reduceLT, Int.reduceEq, Int.reduceLT, Int.reduceLE, Int.reduceGT, Int.reduceGE, Int.reduceAdd, Int.reduceSub, Int.reduceMul, Int.reduceNeg, Int.reduceToNat, reduceCtorEq, reduceIte, hlt]
  exact ho.viewL
section
variable {h : Hs} {k p b : AV}
theorem pts_inB {x : List Int} {c : Int} (hx : x.length ≤ h.ps.length) : h.pts (inB x c) = prs h.ps x c := prs_in hx
theorem ft_no {x : List Int} {i : Nat} (hi : i < h.bs.length) (hn : ¬ ndP h.ks h.fl (prs h.ps x i) ≤ h.bs.getD i 0) : h.ft x = false := range_not hi (decide_eq_false hn)
set_option maxHeartbeats 1000000 in
theorem s90 (H : HsOk h k p b) (G : HG h) {x : List Int} {v : AV} (V : IsSl 1 intL x v) (hx : x.length ≤ h.ps.length) (st : Bool) : Iso E 109 [hsV h.fl k p b, v] st = some (Bo (h.ft x)) := by
  have np := G.np; have nb := G.nb
  have a1 := fun n st => s56 V (by omega) n st
  have hl := fun c => inB_len (x := x) (b := c)
  have a2 := fun c st => s74 H G (resL_is (inB x c)) (by have := hl c; omega) (inB_in hx) st
  have a3 := fun c st => s71 H G (resL_is (inB x c)) (by have := hl c; omega) (inB_in hx) st
  simp only [hsV, pts_inB hx] at a2 a3
  have e1 := fun c => lenV_sl (resL_is (inB x c))
  have e2 := fun c => view_sl (resL_is (inB x c))
  have e3 := fun c => pure_sl (resL_is (inB x c))
  refine Iso_of (es _ _ _ _) e109 ?_
  simp only [f109, hsV]
  simp (disch := first | assumption | omega | (simp only [az]; done)) only [ru, eq_self, if_true, if_false, BEq.rfl, binI, AO.row?, splice, fillL, mmAll, loadV, storeV, zeros, Am.rowAt, Am.part, addOff, Nat.reduceAdd, Nat.reduceMul, Nat.reduceLeDiff, Nat.reduceSub, Nat.reduceLT, Int.reduceEq, Int.reduceLT, Int.reduceLE, Int.reduceGT, Int.reduceGE, Int.reduceAdd, Int.reduceSub, Int.reduceMul, Int.reduceNeg, Int.reduceToNat, reduceCtorEq, reduceIte, lenV_sl H.k, lenV_sl H.p, lenV_sl H.b, elem_kd H.k, elem_pr H.p, elem_in H.b, view_sl H.k, view_sl H.p, view_sl H.b, scalar_sl H.k, scalar_sl H.p, scalar_sl H.b, cells_sl H.k, cells_sl H.p, cells_sl H.b, pure_sl H.k, pure_sl H.p, pure_sl H.b, Int.toNat_natCast]
  refine G_loop_ind (fun m ts hh mk => ∃ i : Nat, i ≤ h.bs.length ∧ m = h.bs.length - i ∧ ((List.range i).all fun b => decide (ndP h.ks h.fl (prs h.ps x b) ≤ h.bs.getD b 0)) = true ∧ ts.length = 30 ∧ ts.getD 1 .undef = v ∧ ts.getD 2 .undef = .ptr 0 0 ∧ ts.getD 5 .undef = I i ∧ hh = [.cells [k, I h.fl, p, b] false] ∧ mk = []) ?_ _ _ _ _ ⟨0, Nat.zero_le _, rfl, rfl, rfl, rfl, rfl, rfl, rfl, rfl⟩
  rintro m ts hh mk ih ⟨i, hi', rfl, hall, hl', q1, q2, q5, rfl, rfl⟩
  rw [lit_all hl']
  simp only [lit0, litS, Nat.reduceAdd, q1, q2, q5]
  simp (disch := first | assumption | omega | (simp only [az]; done)) only [ru, eq_self, if_true, if_false, BEq.rfl, binI, AO.row?, splice, fillL, mmAll, loadV, storeV, zeros, Am.rowAt, Am.part, addOff, Nat.reduceAdd, Nat.reduceMul, Nat.reduceLeDiff, Nat.reduceSub, Nat.reduceLT, Int.reduceEq, Int.reduceLT, Int.reduceLE, Int.reduceGT, Int.reduceGE, Int.reduceAdd, Int.reduceSub, Int.reduceMul, Int.reduceNeg, Int.reduceToNat, reduceCtorEq, reduceIte, lenV_sl H.k, lenV_sl H.p, lenV_sl H.b, elem_kd H.k, elem_pr H.p, elem_in H.b, view_sl H.k, view_sl H.p, view_sl H.b, scalar_sl H.k, scalar_sl H.p, scalar_sl H.b, cells_sl H.k, cells_sl H.p, cells_sl H.b, pure_sl H.k, pure_sl H.p, pure_sl H.b, Int.toNat_natCast]
  by_cases hlt : (i : Int) < h.bs.length
  case pos =>
    have hi2 : i < h.bs.length := by omega
    have no := ft_no (x := x) hi2
    have nx := fun hp => range_all_succ (p := fun b : Nat => decide (ndP h.ks h.fl (prs h.ps x b) ≤ h.bs.getD b 0)) hall hp
    have b1 := lb_bd (G.pp x i)
    have b2 := sl_bd G.g (G.pp x i)
    have b3 := prs_len (ps := h.ps) (x := x) (b := (i : Int))
    have b4 := G.b i hi2
    obtain ⟨y, hy⟩ : ∃ y, y = h.bs.getD i 0 := ⟨_, rfl⟩
    obtain ⟨z, hz⟩ : ∃ z, z = lbP (prs h.ps x i) := ⟨_, rfl⟩
    obtain ⟨w, hw⟩ : ∃ w, w = slP h.ks h.fl (prs h.ps x i) := ⟨_, rfl⟩
    have en : ndP h.ks h.fl (prs h.ps x i) = z + w := by rw [hz, hw]; rfl
    simp only [en, ← hy] at no nx
    rw [← hz] at b1
    rw [← hw] at b2
    by_cases hc : z + w > y
    · simp (disch := first | assumption | omega | (simp only [az]; done)) only [ru, eq_self, if_true, if_false, BEq.rfl, binI, AO.row?, splice, fillL, mmAll, loadV, storeV, zeros, Am.rowAt, Am.part, addOff, Nat.reduceAdd, Nat.reduceMul, Nat.reduceLeDiff, Nat.reduceSub, Nat.reduceLT, Int.reduceEq, Int.reduceLT, Int.reduceLE, Int.reduceGT, Int.reduceGE, Int.reduceAdd, Int.reduceSub, Int.reduceMul, Int.reduceNeg, Int.reduceToNat, reduceCtorEq, reduceIte, lenV_sl H.k, lenV_sl H.p, lenV_sl H.b, elem_kd H.k, elem_pr H.p, elem_in H.b, view_sl H.k, view_sl H.p, view_sl H.b, scalar_sl H.k, scalar_sl H.p, scalar_sl H.b, cells_sl H.k, cells_sl H.p, cells_sl H.b, pure_sl H.k, pure_sl H.p, pure_sl H.b, Int.toNat_natCast, lenV_sl V, elem_in V, view_sl V, scalar_sl V, cells_sl V, pure_sl V, Int.toNat_natCast, hlt, a1, e2, e3, a2, a3, ← hz, ← hw, ← hy, hc, no (by omega), decide_true]
      done
    · simp (disch := first | assumption | omega | (simp only [az]; done)) only [ru, eq_self, if_true, if_false, BEq.rfl, binI, AO.row?, splice, fillL, mmAll, loadV, storeV, zeros, Am.rowAt, Am.part, addOff, Nat.reduceAdd, Nat.reduceMul, Nat.reduceLeDiff, Nat.reduceSub, Nat.reduceLT, Int.reduceEq, Int.reduceLT, Int.reduceLE, Int.reduceGT, Int.reduceGE, Int.reduceAdd, Int.reduceSub, Int.reduceMul, Int.reduceNeg, Int.reduceToNat, reduceCtorEq, reduceIte, lenV_sl H.k, lenV_sl H.p, lenV_sl H.b, elem_kd H.k, elem_pr H.p, elem_in H.b, view_sl H.k, view_sl H.p, view_sl H.b, scalar_sl H.k, scalar_sl H.p, scalar_sl H.b, cells_sl H.k, cells_sl H.p, cells_sl H.b, pure_sl H.k, pure_sl H.p, pure_sl H.b, Int.toNat_natCast, lenV_sl V, elem_in V, view_sl V, scalar_sl V, cells_sl V, pure_sl V, Int.toNat_natCast, hlt, a1, e2, e3, a2, a3, ← hz, ← hw, ← hy, hc, decide_false]
      exact ih (h.bs.length - (i + 1)) _ _ _ (by omega) ⟨i + 1, by omega, rfl, nx (decide_eq_true (by omega)), rfl, rfl, rfl, rfl, rfl, rfl⟩
  obtain rfl : i = h.bs.length := by omega
  have ev : h.ft x = true := hall
  simp (disch := first | assumption | omega | (simp only [az]; done)) only [ru, eq_self, if_true, if_false, BEq.rfl, binI, AO.row?, splice, fillL, mmAll, loadV, storeV, zeros, Am.rowAt, Am.part, addOff, Nat.reduceAdd, Nat.reduceMul, Nat.reduceLeDiff, Nat.reduceSub, Nat.reduceLT, Int.reduceEq, Int.reduceLT, Int.reduceLE, Int.reduceGT, Int.reduceGE, Int.reduceAdd, Int.reduceSub, Int.reduceMul, Int.reduceNeg, Int.reduceToNat, reduceCtorEq, reduceIte, hlt, ev]
set_option maxHeartbeats 1000000 in
theorem s47 (H : HsOk h k p b) (G : HG h) {x : List Int} {v : AV} (V : IsSl 1 intL x v) (hl : x.length ≤ 1000) (st : Bool) : Iso E 70 [hsV h.fl k p b, v] st = some (Bo (h.isP x)) := by
  have np := G.np; have nb := G.nb
  have a1 := fun n st => s58 H n st
  simp only [hsV] at a1
  refine Iso_of (es _ _ _ _) e70 ?_
  simp only [f70, hsV]
  by_cases h0 : x.length = h.ps.length
  case neg =>
    have h0' : ¬ (x.length : Int) = h.ps.length := by omega
    have ev : h.isP x = false := by simp only [Hs.isP]; rw [decide_eq_false h0]; rfl
    simp (disch := first | assumption | omega | (simp only [az]; done)) only [ru, eq_self, if_true, if_false, BEq.rfl, binI, AO.row?, splice, fillL, mmAll, loadV, storeV, zeros, Am.rowAt, Am.part, addOff, Nat.reduceAdd, Nat.reduceMul, Nat.reduceLeDiff, Nat.reduceSub, Nat.reduceLT, Int.reduceEq, Int.reduceLT, Int.reduceLE, Int.reduceGT, Int.reduceGE, Int.reduceAdd, Int.reduceSub, Int.reduceMul, Int.reduceNeg, Int.reduceToNat, reduceCtorEq, reduceIte, lenV_sl H.k, lenV_sl H.p, lenV_sl H.b, elem_kd H.k, elem_pr H.p, elem_in H.b, view_sl H.k, view_sl H.p, view_sl H.b, scalar_sl H.k, scalar_sl H.p, scalar_sl H.b, cells_sl H.k, cells_sl H.p, cells_sl H.b, pure_sl H.k, pure_sl H.p, pure_sl H.b, Int.toNat_natCast, lenV_sl V, elem_in V, view_sl V, scalar_sl V, cells_sl V, pure_sl V, Int.toNat_natCast, h0', ev, decide_false, Bool.not_false]
  have h0' : (x.length : Int) = h.ps.length := by omega
  have a2 := fun st => s90 H G V (by omega) st
  simp only [hsV] at a2
  simp (disch := first | assumption | omega | (simp only [az]; done)) only [ru, eq_self, if_true, if_false, BEq.rfl, binI, AO.row?, splice, fillL, mmAll, loadV, storeV, zeros, Am.rowAt, Am.part, addOff, Nat.reduceAdd, Nat.reduceMul, Nat.reduceLeDiff, Nat.reduceSub, Nat.reduceLT, Int.reduceEq, Int.reduceLT, Int.reduceLE, Int.reduceGT, Int.reduceGE, Int.reduceAdd, Int.reduceSub, Int.reduceMul, Int.reduceNeg, Int.reduceToNat, reduceCtorEq, reduceIte, lenV_sl H.k, lenV_sl H.p, lenV_sl H.b, elem_kd H.k, elem_pr H.p, elem_in H.b, view_sl H.k, view_sl H.p, view_sl H.b, scalar_sl H.k, scalar_sl H.p, scalar_sl H.b, cells_sl H.k, cells_sl H.p, cells_sl H.b, pure_sl H.k, pure_sl H.p, pure_sl H.b, Int.toNat_natCast, lenV_sl V, elem_in V, view_sl V, scalar_sl V, cells_sl V, pure_sl V, Int.toNat_natCast, h0', decide_true, Bool.not_true]
  refine G_loop_ind (fun m ts hh mk => ∃ i : Nat, i ≤ x.length ∧ m = x.length - i ∧ (x.take i).all (fun c => inR c 0 (h.bs.length - 1)) = true ∧ ts.length = 28 ∧ ts.getD 1 .undef = v ∧ ts.getD 2 .undef = .ptr 0 0 ∧ ts.getD 5 .undef = I i ∧ hh = [.cells [k, I h.fl, p, b] false] ∧ mk = []) ?_ _ _ _ _ ⟨0, Nat.zero_le _, rfl, rfl, rfl, rfl, rfl, rfl, rfl, rfl⟩
  rintro m ts hh mk ih ⟨i, hi', rfl, hall, hl', q1, q2, q5, rfl, rfl⟩
  rw [lit_all hl']
  simp only [lit0, litS, Nat.reduceAdd, q1, q2, q5]
  simp (disch := first | assumption | omega | (simp only [az]; done)) only [ru, eq_self, if_true, if_false, BEq.rfl, binI, AO.row?, splice, fillL, mmAll, loadV, storeV, zeros, Am.rowAt, Am.part, addOff, Nat.reduceAdd, Nat.reduceMul, Nat.reduceLeDiff, Nat.reduceSub, Nat.reduceLT, Int.reduceEq, Int.reduceLT, Int.reduceLE, Int.reduceGT, Int.reduceGE, Int.reduceAdd, Int.reduceSub, Int.reduceMul, Int.reduceNeg, Int.reduceToNat, reduceCtorEq, reduceIte, lenV_sl V, elem_in V, view_sl V, scalar_sl V, cells_sl V, pure_sl V, Int.toNat_natCast]
  by_cases hlt : (i : Int) < x.length
  case pos =>
    have hi2 : i < x.length := by omega
    have no := fun hp => all_not (p := fun c => inR c 0 (h.bs.length - 1)) hi2 rfl hp
    have nx := fun hp => all_upto_succ (p := fun c => inR c 0 (h.bs.length - 1)) hi2 rfl hall hp
    obtain ⟨y, hy⟩ : ∃ y, y = x.getD i 0 := ⟨_, rfl⟩
    have hd : x.getD i default = y := hy.symm
    rw [hd] at no nx
    cases hc : inR y 0 (h.bs.length - 1)
    · have ev : h.isP x = false := by simp only [Hs.isP, no hc, Bool.and_false, Bool.false_and]
      simp (disch := first | assumption | omega | (simp only [az]; done)) only [ru, eq_self, if_true, if_false, BEq.rfl, binI, AO.row?, splice, fillL, mmAll, loadV, storeV, zeros, Am.rowAt, Am.part, addOff, Nat.reduceAdd, Nat.reduceMul, Nat.reduceLeDiff, Nat.reduceSub, Nat.reduceLT, Int.reduceEq, Int.reduceLT, Int.reduceLE, Int.reduceGT, Int.reduceGE, Int.reduceAdd, Int.reduceSub, Int.reduceMul, Int.reduceNeg, Int.reduceToNat, reduceCtorEq, reduceIte, lenV_sl H.k, lenV_sl H.p, lenV_sl H.b, elem_kd H.k, elem_pr H.p, elem_in H.b, view_sl H.k, view_sl H.p, view_sl H.b, scalar_sl H.k, scalar_sl H.p, scalar_sl H.b, cells_sl H.k, cells_sl H.p, cells_sl H.b, pure_sl H.k, pure_sl H.p, pure_sl H.b, Int.toNat_natCast, lenV_sl V, elem_in V, view_sl V, scalar_sl V, cells_sl V, pure_sl V, Int.toNat_natCast, hlt, ← hy, a1, hc, ev, Bool.not_false]
      done
    · simp (disch := first | assumption | omega | (simp only [az]; done)) only [ru, eq_self, if_true, if_false, BEq.rfl, binI, AO.row?, splice, fillL, mmAll, loadV, storeV, zeros, Am.rowAt, Am.part, addOff, Nat.reduceAdd, Nat.reduceMul, Nat.reduceLeDiff, Nat.reduceSub, Nat.reduceLT, Int.reduceEq, Int.reduceLT, Int.reduceLE, Int.reduceGT, Int.reduceGE, Int.reduceAdd, Int.reduceSub, Int.reduceMul, Int.reduceNeg, Int.reduceToNat, reduceCtorEq, reduceIte, lenV_sl H.k, lenV_sl H.p, lenV_sl H.b, elem_kd H.k, elem_pr H.p, elem_in H.b, view_sl H.k, view_sl H.p, view_sl H.b, scalar_sl H.k, scalar_sl H.p, scalar_sl H.b, cells_sl H.k, cells_sl H.p, cells_sl H.b, pure_sl H.k, pure_sl H.p, pure_sl H.b, Int.toNat_natCast, lenV_sl V, elem_in V, view_sl V, scalar_sl V, cells_sl V, pure_sl V, Int.toNat_natCast, hlt, ← hy, a1, hc, Bool.not_true]
      exact ih (x.length - (i + 1)) _ _ _ (by omega) ⟨i + 1, by omega, rfl, nx hc, rfl, rfl, rfl, rfl, rfl, rfl⟩
  obtain rfl : i = x.length := by omega
  rw [List.take_length] at hall
  have ev : h.isP x = h.ft x := by simp only [Hs.isP, hall, h0, decide_true, Bool.true_and]
  simp (disch := first | assumption | omega | (simp only [az]; done)) only [ru, eq_self, if_true, if_false, BEq.rfl, binI, AO.row?, splice, fillL, mmAll, loadV, storeV, zeros, Am.rowAt, Am.part, addOff, Nat.reduceAdd, Nat.reduceMul, Nat.reduceLeDiff, Nat.reduceSub, Nat.reduceLT, Int.reduceEq, Int.reduceLT, Int.reduceLE, Int.reduceGT, Int.reduceGE, Int.reduceAdd, Int.reduceSub, Int.reduceMul, Int.reduceNeg, Int.reduceToNat, reduceCtorEq, reduceIte, lenV_sl H.k, lenV_sl H.p, lenV_sl H.b, elem_kd H.k, elem_pr H.p, elem_in H.b, view_sl H.k, view_sl H.p, view_sl H.b, scalar_sl H.k, scalar_sl H.p, scalar_sl H.b, cells_sl H.k, cells_sl H.p, cells_sl H.b, pure_sl H.k, pure_sl H.p, pure_sl H.b, Int.toNat_natCast, lenV_sl V, elem_in V, view_sl V, scalar_sl V, cells_sl V, pure_sl V, Int.toNat_natCast, hlt, a2, ev]
end
end Go.Proofs.YtfagcnokdnanpaaGreat.S
