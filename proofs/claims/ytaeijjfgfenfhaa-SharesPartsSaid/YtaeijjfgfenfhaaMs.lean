/-
Maps whose keys and values are numbers: maps.Copy and slices.Sorted(maps.Keys(..)) as the abstract machine has them.
-/
import Derived.Test.YtaeijjfgfenfhaaAmY
import Derived.Shelf.SlMaps.Copy
import Derived.Shelf.SlIterI.Nil
namespace Go.Am
open Go Go.Maps
open Go.WideElems (Fit rd rg rd_val rg_of rd_mk)
open Go.ChangeMaps (eq_of_perm_sorted)
open Go.WideShapes (sorted_perm)
set_option linter.unusedVariables false
set_option linter.unusedSimpArgs false

variable {P : Program} {mode : Nat → Nat → Nat} {S : Fz} {φ : Mp} {B : Nat} {h : List AO} {w : World}

/-- an entry whose key and value are numbers -/
def litE : List Int × AV → Bool
  | ([k], .int .i64 v) => (Lit.int .i64 k).wf && (Lit.int .i64 v).wf
  | _ => false
/-- keys and values are numbers, and there are few of them -/
def litM (es : List (List Int × AV)) : Bool := es.all litE && decide (es.length ≤ 1000)
def dk (x : List Int × AV) : Int := x.1.headD 0
def dv : List Int × AV → Int
  | (_, .int _ v) => v
  | _ => 0
def dat (x : List Int × AV) : Lit × DataW Unit := (.int .i64 (dk x), .lit (.int .i64 (dv x)))
def mergeM (es es' : List (List Int × AV)) : List (List Int × AV) := es'.foldl (fun acc x => putM x.1 x.2 acc) es
theorem litE_iff {x : List Int × AV} (hx : litE x = true) : x = ([dk x], .int .i64 (dv x)) ∧ (Lit.int .i64 (dk x)).wf = true ∧ (Lit.int .i64 (dv x)).wf = true := by
  obtain ⟨a, b⟩ := x
  unfold litE at hx
  split at hx
  · rename_i k v e
    cases e
    simp only [Bool.and_eq_true] at hx
    exact ⟨rfl, hx.1, hx.2⟩
  · cases hx
theorem litE_mk {k v : Int} (hk : (Lit.int .i64 k).wf = true) (hv : (Lit.int .i64 v).wf = true) : litE ([k], .int .i64 v) = true := by
  simp [litE, hk, hv]

section
variable {tk te : TypeId} (hk : P.underlying tk = some (.int .i64)) (he : P.underlying te = some (.int .i64))
include hk he
theorem rd_entry {x : List Int × AV} (hx : litE x = true) {e : MapEntry} (h1 : e.key = .int .i64 (dk x)) (h2 : e.val = .int .i64 (dv x)) : rd P tk (plainElem (H := Unit) P te) e = some (dat x) := by
  obtain ⟨_, w1, w2⟩ := litE_iff hx
  obtain ⟨a, b, c⟩ := e
  simp only at h1 h2
  subst h1; subst h2
  exact rd_mk (keyOf_int_mk hk w1) (plainElem_int he w2)
theorem entries_rd : ∀ {es : List (List Int × AV)} {l : List MapEntry}, RelM S (.i .i64) es l → es.all litE = true → l.map (rd P tk (plainElem (H := Unit) P te)) = es.map fun x => some (dat x)
  | [], [], _, _ => rfl
  | x :: es, e :: l, h, hl => by
    simp only [List.all_cons, Bool.and_eq_true] at hl
    obtain ⟨hx, hl⟩ := hl
    obtain ⟨⟨a, h1, h2⟩, h3, h4⟩ := h
    obtain ⟨e0, w1, w2⟩ := litE_iff hx
    have k1 : e.key = .int .i64 (dk x) := by
      rw [rel_key h1 h2, e0]; rfl
    have k2 : e.val = .int .i64 (dv x) := by
      rw [congrArg Prod.snd e0] at h3
      generalize dv x = q at h3
      generalize e.val = u at h3
      cases h3; rfl
    rw [List.map_cons, List.map_cons, rd_entry hk he hx k1 k2, entries_rd h4 hl]
  | [], _ :: _, h, _ => h.elim
  | _ :: _, [], h, _ => h.elim
theorem rd_inv {e : MapEntry} {x : List Int × AV} (hx : litE x = true) (hr : rd P tk (plainElem (H := Unit) P te) e = some (dat x)) : e.key = .int .i64 (dk x) ∧ e.val = .int .i64 (dv x) := by
  have h1 := Go.WideElems.rd_key hr
  obtain ⟨z, h2, h3⟩ := rd_val hr
  obtain ⟨y, e1, e2, _⟩ := Maps.keyOf_i64 hk h1
  obtain ⟨a, e3, e4, _⟩ := plainElem_int_inv he h2
  rw [e4] at h3
  simp only [dat, DataW.lit.injEq, Lit.int.injEq, true_and] at h3 e2
  exact ⟨by rw [e1, ← e2], by rw [e3, h3]⟩
theorem entries_rel : ∀ {es : List (List Int × AV)} {l : List MapEntry}, l.map (rd P tk (plainElem (H := Unit) P te)) = (es.map fun x => some (dat x)) → es.all litE = true → RelM S (.i .i64) es l
  | [], [], _, _ => trivial
  | x :: es, e :: l, h, hl => by
    simp only [List.all_cons, Bool.and_eq_true] at hl
    obtain ⟨hx, hl⟩ := hl
    simp only [List.map_cons, List.cons.injEq] at h
    obtain ⟨k1, k2⟩ := rd_inv hk he hx h.1
    obtain ⟨e0, w1, w2⟩ := litE_iff hx
    refine ⟨⟨.int .i64 (dk x), ?_, by rw [k1]; exact .int _ _ _⟩, ?_, entries_rel h.2 hl⟩
    · rw [congrArg Prod.fst e0]; simp [keyOf]
    · rw [k2, congrArg Prod.snd e0]; exact .int _ _ _
  | [], _ :: _, h, _ => by simp at h
  | _ :: _, [], h, _ => by simp at h
end

theorem dat_sorted {es : List (List Int × AV)} (hl : es.all litE = true) (hs : es.Pairwise fun a b => ltK a.1 b.1 = true) : (es.map dat).Pairwise fun p q => p.1.before q.1 = true := by
  rw [List.pairwise_map]
  refine hs.imp_of_mem ?_
  intro a b ha hb hab
  obtain ⟨ea, _⟩ := litE_iff (List.all_eq_true.1 hl a ha)
  obtain ⟨eb, _⟩ := litE_iff (List.all_eq_true.1 hl b hb)
  rw [ea, eb] at hab
  simp only [ltK, Bool.or_eq_true, Bool.and_eq_true, decide_eq_true_eq, Bool.false_eq_true, and_false, or_false] at hab
  simpa [dat, Lit.before] using hab
/-- the keys of a map, ascending -/
theorem keys_sorted {es : List (List Int × AV)} (h : es.all litE = true) (hs : es.Pairwise fun a b => ltK a.1 b.1 = true) : (es.map dk).Pairwise fun a b => a < b := by
  rw [List.pairwise_map]
  refine hs.imp_of_mem ?_
  intro a b ha hb hab
  rw [congrArg Prod.fst (litE_iff (List.all_eq_true.1 h a ha)).1, congrArg Prod.fst (litE_iff (List.all_eq_true.1 h b hb)).1] at hab
  simpa [ltK] using hab
/-- a list in another order, in front of a map -/
theorem perm_of_map {α β : Type} {f : α → β} {a b : List β} (hp : List.Perm a b) : ∀ {l : List α}, l.map f = a → ∃ l', List.Perm l l' ∧ l'.map f = b := by
  induction hp with
  | nil => intro l h; exact ⟨l, List.Perm.refl _, h⟩
  | cons x _ ih =>
    intro l h
    cases l with
    | nil => cases h
    | cons y l =>
      simp only [List.map_cons, List.cons.injEq] at h
      obtain ⟨l', p, e⟩ := ih h.2
      exact ⟨y :: l', p.cons y, by simp [h.1, e]⟩
  | swap x y l0 =>
    intro l h
    match l, h with
    | a :: b :: l, h =>
      simp only [List.map_cons, List.cons.injEq] at h
      exact ⟨b :: a :: l, List.Perm.swap b a l, by simp [h.1, h.2.1, h.2.2]⟩
  | trans _ _ ih1 ih2 =>
    intro l h
    obtain ⟨l1, p1, e1⟩ := ih1 h
    obtain ⟨l2, p2, e2⟩ := ih2 e1
    exact ⟨l2, p1.trans p2, e2⟩

section
variable {tk te : TypeId} (hk : P.underlying tk = some (.int .i64)) (he : P.underlying te = some (.int .i64))
include hk he
/-- our map is the kit's -/
theorem omap_owns {es : List (List Int × AV)} {b : Nat} (ho : OMap S w (.i .i64) es b) (hl : litM es = true) : w.ownsMap P tk (plainElem (H := Unit) P te) b es.length (.map (es.map dat)) := by
  simp only [litM, Bool.and_eq_true, decide_eq_true_eq] at hl
  obtain ⟨hl, hn⟩ := hl
  obtain ⟨ents, ck, l, hb, hp, hr, hs, hst⟩ := ho
  have hsz : ents.size = es.length := by rw [← Array.length_toList, ← hp.length_eq, hr.len]
  have hrd := entries_rd hk he hr hl
  have hall : ∀ x ∈ l, ∃ y, rd P tk (plainElem (H := Unit) P te) x = some y := by
    intro x hx
    have : rd P tk (plainElem (H := Unit) P te) x ∈ es.map fun x => some (dat x) := by rw [← hrd]; exact List.mem_map_of_mem hx
    obtain ⟨y, _, e⟩ := List.mem_map.1 this
    exact ⟨_, e.symm⟩
  have hrg : l.map (rg P tk (plainElem (H := Unit) P te)) = es.map dat := by
    have : l.map (rg P tk (plainElem (H := Unit) P te)) = (l.map (rd P tk (plainElem (H := Unit) P te))).map fun o => o.getD (.bool false, .nil) := by simp [rg, Function.comp_def]
    rw [this, hrd]; simp [Function.comp_def]
  refine ⟨ents, ck, hb, ⟨by simp only [maxLen] at *; omega, hst, fun x hx => hall x (hp.mem_iff.2 hx)⟩, by omega, ?_⟩
  congr 1
  have hso := dat_sorted hl hs
  have hp2 : List.Perm (es.map dat) (ents.toList.map (rg P tk (plainElem (H := Unit) P te))) := by rw [← hrg]; exact hp.map _
  have O := (int_keyed hk).one
  have hke : Keys (KeysOf P tk) (es.map dat) := by
    intro p hp
    obtain ⟨x, hx, rfl⟩ := List.mem_map.1 hp
    obtain ⟨_, w1, _⟩ := litE_iff (List.all_eq_true.1 hl x hx)
    exact ⟨_, keyOf_int_mk hk w1⟩
  have hap : (es.map dat).Pairwise fun p q => p.1 ≠ q.1 := by
    have := keys_sorted hl hs
    rw [List.pairwise_map] at this ⊢
    exact this.imp fun {a b} hab e => by
      simp only [dat, Lit.int.injEq, true_and] at e
      omega
  have hap' := (hp2.pairwise_iff (fun {a b} (h : a.1 ≠ b.1) => h.symm)).1 hap
  exact eq_of_perm_sorted (hp2.trans (sorted_perm _).symm) hso (sorted_sorted O _ (keys_perm hp2 hke) hap')
theorem owns_omap {es : List (List Int × AV)} {b n : Nat} (ho : w.ownsMap P tk (plainElem (H := Unit) P te) b n (.map (es.map dat))) (hl : es.all litE = true) (hs : es.Pairwise fun a b => ltK a.1 b.1 = true) : OMap S w (.i .i64) es b := by
  obtain ⟨ents, ck, hb, F, hn, hD⟩ := ho
  simp only [DataW.map.injEq] at hD
  have hp : List.Perm (ents.toList.map (rg P tk (plainElem (H := Unit) P te))) (es.map dat) := by rw [hD]; exact (sorted_perm _).symm
  obtain ⟨l, p1, e1⟩ := perm_of_map hp rfl
  refine ⟨ents, ck, l, hb, p1.symm, entries_rel hk he ?_ hl, hs, F.stamped⟩
  have : l.map (rd P tk (plainElem (H := Unit) P te)) = (l.map (rg P tk (plainElem (H := Unit) P te))).map some := by
    rw [List.map_map]
    refine List.map_congr_left fun x hx => ?_
    obtain ⟨y, hy⟩ := F.reads x (p1.mem_iff.2 hx)
    simp [rg_of hy, hy]
  rw [this, e1, List.map_map]; rfl
end

theorem litE_put {k v : Int} (hk : (Lit.int .i64 k).wf = true) (hv : (Lit.int .i64 v).wf = true) : ∀ {es : List (List Int × AV)}, es.all litE = true → (putM [k] (.int .i64 v) es).all litE = true
  | [], _ => by simp [putM, litE_mk hk hv]
  | (a, b) :: r, h => by
    simp only [List.all_cons, Bool.and_eq_true] at h
    simp only [putM]
    split
    · simp only [List.all_cons, Bool.and_eq_true]
      refine ⟨?_, h.2⟩
      rename_i e; subst e
      exact litE_mk hk hv
    · split
      · simp only [List.all_cons, Bool.and_eq_true]; exact ⟨litE_mk hk hv, h.1, h.2⟩
      · simp only [List.all_cons, Bool.and_eq_true]; exact ⟨h.1, litE_put hk hv h.2⟩
theorem len_putM {k : List Int} {v : AV} : ∀ {es : List (List Int × AV)}, (putM k v es).length ≤ es.length + 1
  | [] => by simp [putM]
  | (a, b) :: r => by
    simp only [putM]
    split
    · simp
    · split
      · simp
      · have := len_putM (k := k) (v := v) (es := r); simp; omega
theorem insert_front {k : Int} {d : DataW Unit} {r : List (Lit × DataW Unit)} (h : ∀ p ∈ r, (Lit.int .i64 k).before p.1 = true) : DataW.insert (Lit.int .i64 k, d) r = (Lit.int .i64 k, d) :: r := by
  cases r with
  | nil => rfl
  | cons y r => simp only [DataW.insert, h y (by simp), if_true]
/-- putting a number into a map, as the kit says it -/
theorem dat_put {k v : Int} : ∀ {es : List (List Int × AV)}, es.all litE = true → (es.Pairwise fun a b => ltK a.1 b.1 = true) →
    DataW.insert (Lit.int .i64 k, DataW.lit (H := Unit) (.int .i64 v)) ((es.map dat).filter fun p => !p.1.sameKey (.int .i64 k)) = (putM [k] (.int .i64 v) es).map dat
  | [], _, _ => rfl
  | x :: r, h, hp => by
    simp only [List.all_cons, Bool.and_eq_true] at h
    obtain ⟨p1, p2⟩ := List.pairwise_cons.1 hp
    obtain ⟨e0, w1, w2⟩ := litE_iff h.1
    have hx1 : x.1 = [dk x] := congrArg Prod.fst e0
    have hne : ∀ y ∈ r, dk x < dk y := by
      intro y hy
      obtain ⟨ey, _⟩ := litE_iff (List.all_eq_true.1 h.2 y hy)
      have := p1 y hy
      rw [hx1, congrArg Prod.fst ey] at this
      simpa [ltK] using this
    have ih := dat_put (k := k) (v := v) h.2 p2
    generalize hga : dk x = a at e0 hne w1 hx1
    generalize dv x = c at e0 w2
    subst e0
    have hfil : ∀ (q : Int), q ≤ a → (r.map dat).filter (fun p => !p.1.sameKey (.int .i64 q)) = r.map dat := by
      intro q hq
      rw [List.filter_eq_self]
      intro p hp
      obtain ⟨y, hy, rfl⟩ := List.mem_map.1 hp
      have := hne y hy
      simp only [dat, Lit.sameKey, true_and, Bool.not_eq_true', decide_eq_false_iff_not]; omega
    have hbe : ∀ (q : Int), q ≤ a → ∀ p ∈ r.map dat, (Lit.int .i64 q).before p.1 = true := by
      intro q hq p hp
      obtain ⟨y, hy, rfl⟩ := List.mem_map.1 hp
      have := hne y hy
      simp only [dat, Lit.before, decide_eq_true_eq]; omega
    simp only [List.map_cons, putM, List.cons.injEq, and_true]
    have hd : dat ([a], .int .i64 c) = (.int .i64 a, .lit (.int .i64 c)) := rfl
    by_cases e : k = a
    · subst e
      simp only [if_true, List.map_cons]
      rw [List.filter_cons_of_neg (by simp [hd, Lit.sameKey]), hfil k (Int.le_refl _), insert_front (hbe k (Int.le_refl _))]
      rfl
    · simp only [e, if_false]
      rw [List.filter_cons_of_pos (by simp [hd, Lit.sameKey]; omega)]
      by_cases c2 : k < a
      · rw [if_pos (by simp [ltK, c2]), hfil k (by omega)]
        simp only [List.map_cons]
        refine insert_front fun p hp => ?_
        rcases List.mem_cons.1 hp with rfl | hp
        · simp [hd, Lit.before, c2]
        · exact hbe k (by omega) p hp
      · rw [if_neg (by simp [ltK, c2, e])]
        simp only [List.map_cons, DataW.insert, hd]
        rw [if_neg (by simp [Lit.before, c2]), ih]
theorem dat_merge : ∀ {es' es : List (List Int × AV)}, es'.all litE = true → es.all litE = true → (es.Pairwise fun a b => ltK a.1 b.1 = true) →
    Lib.mergeD (.map (es.map dat)) (.map (es'.map dat)) = .map ((mergeM es es').map dat) ∧ (mergeM es es').all litE = true ∧ ((mergeM es es').Pairwise fun a b => ltK a.1 b.1 = true) ∧ (mergeM es es').length ≤ es.length + es'.length
  | [], es, _, h, hs => ⟨rfl, h, hs, Nat.le_refl _⟩
  | x :: r, es, h', h, hs => by
    simp only [List.all_cons, Bool.and_eq_true] at h'
    obtain ⟨e0, w1, w2⟩ := litE_iff h'.1
    have hp := litE_put w1 w2 h
    have hl := len_putM (k := [dk x]) (v := .int .i64 (dv x)) (es := es)
    obtain ⟨g1, g2, g3, g4⟩ := dat_merge (es' := r) (es := putM [dk x] (.int .i64 (dv x)) es) h'.2 hp (putM_sorted hs)
    have hm : mergeM es (x :: r) = mergeM (putM [dk x] (.int .i64 (dv x)) es) r := by
      simp only [mergeM, List.foldl_cons]
      rw [show x.1 = [dk x] from congrArg Prod.fst e0, show x.2 = .int .i64 (dv x) from congrArg Prod.snd e0]
    rw [hm]
    refine ⟨?_, g2, g3, by simp; omega⟩
    rw [← g1]
    simp only [Lib.mergeD, List.map_cons, List.foldl_cons]
    congr 1
    show DataW.map (DataW.insert _ (List.filter _ _)) = _
    rw [show (dat x).1 = .int .i64 (dk x) from rfl, show (dat x).2 = .lit (.int .i64 (dv x)) from rfl, dat_put h hs]
theorem intKeys_dat {es : List (List Int × AV)} : intKeys (DataW.map (es.map dat)) = es.map dk := by
  simp only [intKeys, List.map_map]; rfl
theorem sort_keys {ss : List Int} {es : List (List Int × AV)} (h : es.all litE = true) (hs : es.Pairwise fun a b => ltK a.1 b.1 = true) (hp : ss.Perm (intKeys (DataW.map (es.map dat)))) : (ss.mergeSort fun x y => decide (x ≤ y)) = es.map dk := by
  rw [intKeys_dat] at hp
  have h1 : List.Perm (ss.mergeSort fun x y => decide (x ≤ y)) (es.map dk) := (List.mergeSort_perm _ _).trans hp
  have h2 : (ss.mergeSort fun x y => decide (x ≤ y)).Pairwise fun x y => x ≤ y := by
    have := List.pairwise_mergeSort (le := fun x y : Int => decide (x ≤ y)) (fun a b c h1 h2 => by simp at *; omega) (fun a b => by simp; omega) ss
    exact this.imp fun {a b} h => by simpa using h
  exact h1.eq_of_pairwise (fun a b _ _ h1 h2 => by omega) h2 ((keys_sorted h hs).imp fun {a b} h => by omega)

/-! ### What calls do to the heap -/
/-- only new blocks: one of them is an object -/
theorem HR.grew (H : HR P mode S φ B h w) {w' : World} (bl : Go.RowKit.Below w.heap.size w w') {b z : Nat} {c : List AV} (hb : w.heap.size ≤ b) (hbl : b < w'.heap.size) (hor : ∀ φ', ORow S φ' w' c b z) (lim : Nat) :
    Post P mode S φ B lim h w none S (φ.set h.length (b, z)) (h ++ [.cells c false]) w' := by
  have hn : φ h.length = none := by
    cases e : φ h.length with
    | none => rfl
    | some x => have := H.dom _ _ e; omega
  have hle := Mp.le_set (b, z) hn
  have hB := H.bs
  have hsn : S b = none := by
    cases e : S b with
    | none => rfl
    | some c => have := H.slt e; omega
  refine ⟨⟨Nat.le_trans H.bs bl.size, ?_, ?_, ?_, ?_, ?_⟩, hle, fun _ _ => rfl, ⟨bl.tape, bl.os, bl.output, bl.size, fun q hq => bl.block q (by omega)⟩, by simp, fun q _ hl _ => by rw [List.getElem?_append_left hl], ?_⟩
  · intro q x hx
    by_cases e : q = h.length
    · subst e; simp
    · rw [Mp.set_other _ _ e] at hx; have := H.dom q x hx; simp; omega
  · intro q b1 z' hx
    by_cases e : q = h.length
    · subst e; rw [Mp.set_same] at hx; cases hx; exact ⟨hbl, by omega⟩
    · rw [Mp.set_other _ _ e] at hx; have := H.lt q b1 z' hx; exact ⟨Nat.lt_of_lt_of_le this.1 bl.size, this.2⟩
  · intro b1 c1 hs
    obtain ⟨e, fr, he⟩ := H.fro b1 c1 hs
    exact ⟨e, fr, by rw [bl.block b1 (H.slt hs)]; exact he⟩
  · intro q x hx
    by_cases e : q = h.length
    · subst e; simp at hx; subst hx
      exact .inr ⟨b, z, Mp.set_same _ _ _, hsn, hor _⟩
    · have hq : q < h.length := by
        have := (List.getElem?_eq_some_iff.1 hx).1; simp at this; omega
      rw [List.getElem?_append_left hq] at hx
      refine (H.obj q x hx).imp id fun ⟨b1, z', h1, h2, h3⟩ => ⟨b1, z', by rw [Mp.set_other _ _ e]; exact h1, h2, h3.mono (fun _ _ h => h) hle (bl.block b1 (H.lt q b1 z' h1).1)⟩
  · intro q q' x x' b1 z1 z2 hx hx' hb1 hb' hne
    by_cases e : q = h.length
    · by_cases e' : q' = h.length
      · exact absurd (e.trans e'.symm) hne
      · rw [e, Mp.set_same] at hb1; cases hb1
        rw [Mp.set_other _ _ e'] at hb'; have := (H.lt q' _ _ hb').1; omega
    · by_cases e' : q' = h.length
      · rw [e', Mp.set_same] at hb'; cases hb'
        rw [Mp.set_other _ _ e] at hb1; have := (H.lt q _ _ hb1).1; omega
      · have hq : q < h.length := by
          have := (List.getElem?_eq_some_iff.1 hx).1; simp at this; omega
        have hq' : q' < h.length := by
          have := (List.getElem?_eq_some_iff.1 hx').1; simp at this; omega
        rw [List.getElem?_append_left hq] at hx; rw [List.getElem?_append_left hq'] at hx'
        rw [Mp.set_other _ _ e] at hb1; rw [Mp.set_other _ _ e'] at hb'
        exact H.inj q q' x x' b1 z1 z2 hx hx' hb1 hb' hne
  · intro q hl _ hnn
    rw [Mp.set_other _ _ (by omega)]; exact hnn
/-- only new blocks, no object -/
theorem HR.grew0 (H : HR P mode S φ B h w) {w' : World} (bl : Go.RowKit.Below w.heap.size w w') (lim : Nat) : Post P mode S φ B lim h w none S φ h w' := by
  have hB := H.bs
  refine ⟨⟨Nat.le_trans H.bs bl.size, H.dom, fun q b z hx => ⟨Nat.lt_of_lt_of_le (H.lt q b z hx).1 bl.size, (H.lt q b z hx).2⟩, ?_, ?_, H.inj⟩, Mp.le_refl _, fun _ _ => rfl, ⟨bl.tape, bl.os, bl.output, bl.size, fun q hq => bl.block q (by omega)⟩, Nat.le_refl _, fun _ _ _ _ => rfl, fun _ _ _ hn => hn⟩
  · intro b1 c1 hs
    obtain ⟨e, fr, he⟩ := H.fro b1 c1 hs
    exact ⟨e, fr, by rw [bl.block b1 (H.slt hs)]; exact he⟩
  · intro q x hx
    exact (H.obj q x hx).imp id fun ⟨b1, z', h1, h2, h3⟩ => ⟨b1, z', h1, h2, h3.mono (fun _ _ h => h) (Mp.le_refl _) (bl.block b1 (H.lt q b1 z' h1).1)⟩
/-- a map is written, and there may be new blocks -/
theorem HR.wrote (H : HR P mode S φ B h w) {w' : World} {o b z : Nat} {ks : KT} {es es' : List (List Int × AV)} (ho : h[o]? = some (.mpo ks es)) (hb : φ o = some (b, z)) (hg : w.grownBy w' (some b)) (hor : OMap S w' ks es' b) (lim : Nat) (hlim : lim ≤ o) :
    Post P mode S φ B lim h w none S φ (h.set o (.mpo ks es')) w' := by
  have hl := (List.getElem?_eq_some_iff.1 ho).1
  have hB := H.bs
  have hbB := (H.lt o b z hb).2
  have hS : S b = none := by
    rcases H.obj o _ ho with h0 | ⟨b1, z1, h1, h2, _⟩
    · cases h0
    · rw [hb] at h1; cases h1; exact h2
  have hot : ∀ q, q < w.heap.size → q ≠ b → w'.heap[q]? = w.heap[q]? := fun q hq hne => hg.block q hq (fun e => hne (Option.some.inj e))
  have ha : ∀ x, mayShare (.mpo ks es) x → x = .tomb := fun x hx => by cases x <;> simp_all [mayShare]
  refine ⟨⟨Nat.le_trans H.bs hg.size, fun q x hx => by simpa using H.dom q x hx, fun q b1 z1 hq => ⟨Nat.lt_of_lt_of_le (H.lt q b1 z1 hq).1 hg.size, (H.lt q b1 z1 hq).2⟩, ?_, ?_, ?_⟩, Mp.le_refl _, fun _ _ => rfl,
    ⟨hg.tape, hg.os, hg.output, hg.size, fun q hq => hot q (by omega) (by omega)⟩, by simp, fun q hq _ _ => List.getElem?_set_ne (by omega), fun _ _ _ hn => hn⟩
  · intro b1 c1 hs
    have : b1 ≠ b := by intro e; subst e; rw [hS] at hs; cases hs
    obtain ⟨e1, fr, he⟩ := H.fro b1 c1 hs
    exact ⟨e1, fr, (hot b1 (H.slt hs) this).trans he⟩
  · intro q x hq
    by_cases e : q = o
    · subst e; simp [hl] at hq; subst hq
      exact .inr ⟨b, z, hb, hS, hor⟩
    · rw [List.getElem?_set_ne (Ne.symm e)] at hq
      rcases H.obj q x hq with rfl | ⟨b1, z1, k1, k2, k3⟩
      · exact .inl rfl
      · by_cases hbb : b1 = b
        · subst hbb
          exact .inl (ha x (H.inj o q _ x b1 z z1 ho hq hb k1 (Ne.symm e)))
        · exact .inr ⟨b1, z1, k1, k2, k3.mono (fun _ _ h => h) (Mp.le_refl _) (hot b1 (H.lt q b1 z1 k1).1 hbb)⟩
  · intro q q' x x' b1 z1 z2 hq hq' k1 k2 hne
    by_cases e : q = o
    · subst e; simp [hl] at hq; subst hq
      rw [List.getElem?_set_ne hne] at hq'
      rw [hb] at k1; cases k1
      have := ha x' (H.inj q q' _ x' _ _ z2 ho hq' hb k2 hne)
      subst this; trivial
    · rw [List.getElem?_set_ne (Ne.symm e)] at hq
      by_cases e2 : q' = o
      · subst e2; simp [hl] at hq'; subst hq'
        rw [hb] at k2; cases k2
        have := ha x (H.inj q' q _ x _ _ z1 ho hq hb k1 (Ne.symm hne))
        subst this; trivial
      · rw [List.getElem?_set_ne (Ne.symm e2)] at hq'
        exact H.inj q q' x x' b1 z1 z2 hq hq' k1 k2 hne

/-! ### The two functions -/
def copyS (h : List AO) (lim : Nat) : List AV → Option (AV × List AO)
  | [.mp p, .mp q] => match h[p]?, h[q]? with
    | some (.mpo (.i .i64) es), some (.mpo (.i .i64) es') => if p ≠ q ∧ lim ≤ p ∧ litM es = true ∧ litM es' = true then some (.tup [], h.set p (.mpo (.i .i64) (mergeM es es'))) else none
    | _, _ => none
  | _ => none
def sortS (fk : Nat) (h : List AO) : List AV → Option (AV × List AO)
  | [.fn g [] [.ptr o 0]] => if g = fk then match rowAt h o with
      | some [.mp p] => match h[p]? with
        | some (.mpo (.i .i64) es) => if litM es = true then (if es = [] then some (.nils, h) else some (.ms 1 h.length 0 es.length, h ++ [.cells (es.map fun x => .int .i64 (dk x)) false])) else none
        | _ => none
      | _ => none
    else none
  | _ => none
def mspec (fc fs fk : Nat) (f : Nat) (args : List AV) (h : List AO) (lim : Nat) : Option (AV × List AO) :=
  if f = fc then copyS h lim args else if f = fs then sortS fk h args else none

/-- what the kit says of the two functions -/
structure MapOk (P : Program) (fc fs fk : Nat) where
  tk : TypeId
  te : TypeId
  ty : TypeId
  hk : P.underlying tk = some (.int .i64)
  he : P.underlying te = some (.int .i64)
  ec : ∀ args w, (callFunc fc args).run P w = .ok (.enter fc args) w
  es : ∀ args w, (callFunc fs args).run P w = .ok (.enter fs args) w
  copy : ∀ (bd bs nd ns : Nat) (Dd Ds : DataW Unit) (w : World), w.ownsMap P tk (plainElem P te) bd nd Dd → w.ownsMap P tk (plainElem P te) bs ns Ds → bd ≠ bs → nd + Maps.size Ds ≤ maxLen →
    Calls P fc #[.map (some bd), .map (some bs)] w fun e w' => e = .returned (.tuple #[]) ∧ w'.ownsMap P tk (plainElem P te) bd (nd + Maps.size Ds) (Lib.mergeD Dd Ds) ∧ w.grownBy w' (some bd)
  sort : ∀ (Bm b nn : Nat) (D0 : DataW Unit) (w : World), Bm < w.heap.size → w.cell? ⟨Bm, 0, none⟩ = some (.map (some b)) → w.ownsMap P tk (plainElem P te) b nn D0 → Maps.size D0 ≤ 1000 →
    Calls P fs #[.func (.func fk) #[] #[.pointer (some ⟨Bm, 0, none⟩)]] w fun e w' => ∃ (v : Value) (ss : List Int), e = .returned v ∧ ss.Perm (intKeys D0) ∧
      w'.ownsRow w.heap.size ty 1 v ss.length ((ss.mergeSort (fun x y => decide (x ≤ y))).map (Value.int .i64)) ∧ (v = .slice none 0 0 ↔ ss = []) ∧ Go.RowKit.Below w.heap.size w w'

theorem leaves_of {f : Nat} {vals : Array Value} {R : Ending → World → Prop} {Q : Value → World → Prop} (hc : Calls P f vals w R) (hq : ∀ e w', R e w' → ∃ v, e = .returned v ∧ Q v w') : Leaves P f vals w Q := by
  intro cs
  obtain ⟨e, w', fr, hr, hco, hf, hl⟩ := hc cs
  obtain ⟨v, rfl, hv⟩ := hq e w' hr
  exact ⟨v, w', fr, hv, hco, hf, hl⟩

theorem mp_of (H : HR P mode S φ B h w) {p : Nat} {ks : KT} {es : List (List Int × AV)} (hp : h[p]? = some (.mpo ks es)) {v : Value} (hv : Rel S φ (.mp p) v) : ∃ b z, v = .map (some b) ∧ φ p = some (b, z) ∧ OMap S w ks es b := by
  rcases H.obj _ _ hp with h0 | ⟨b, z, h1, h2, h3⟩
  · cases h0
  · cases hv
    rename_i b' z' hb
    rw [h1] at hb; cases hb
    exact ⟨b, z, rfl, h1, h3⟩

theorem mspec_ok {fc fs fk : Nat} (M : MapOk P fc fs fk) (hcs : fc ≠ fs) : ∀ f args h lim r h', mspec fc fs fk f args h lim = some (r, h') → lim ≤ h.length → ∀ S φ B w vals, HR P mode S φ B h w → RelL S φ args vals →
    (∀ w, (callFunc f vals.toArray).run P w = .ok (.enter f vals.toArray) w) ∧ Leaves P f vals.toArray w (Fits P mode S φ B lim h w none r h') := by
  intro f args h lim r h' hx hlim S φ B w vals H ra
  unfold mspec at hx
  split at hx
  · rename_i e; subst e
    refine ⟨M.ec _, ?_⟩
    unfold copyS at hx
    split at hx
    · rename_i p q
      split at hx
      · rename_i es es' hp hq
        split at hx
        · rename_i hif
          obtain ⟨hpq, hlp, hl, hl'⟩ := hif
          cases hx
          obtain ⟨v1, r1, rfl, rv1, ra⟩ := ra.cons_inv
          obtain ⟨v2, r2, rfl, rv2, ra⟩ := ra.cons_inv
          obtain rfl : r2 = [] := List.eq_nil_of_length_eq_zero ra.1.symm
          obtain ⟨b, z, rfl, hb, om⟩ := mp_of H hp rv1
          obtain ⟨b', z', rfl, hb', om'⟩ := mp_of H hq rv2
          have hne : b ≠ b' := by
            intro e; subst e
            have := H.inj p q _ _ b z z' hp hq hb hb' hpq
            simp [mayShare] at this
          have w1 := omap_owns M.hk M.he om hl
          have w2 := omap_owns M.hk M.he om' hl'
          simp only [litM, Bool.and_eq_true, decide_eq_true_eq] at hl hl'
          obtain ⟨_, _, _, _, _, _, hs1, _⟩ := om
          obtain ⟨g1, g2, g3, g4⟩ := dat_merge hl'.1 hl.1 hs1
          refine leaves_of (M.copy b b' _ _ _ _ w w1 w2 hne (by simp only [Maps.size, List.length_map, maxLen]; omega)) ?_
          rintro e w' ⟨rfl, ho, hg⟩
          rw [g1] at ho
          exact ⟨_, rfl, S, φ, Rel.undef, H.wrote hp hb hg (owns_omap M.hk M.he ho g2 g3) lim hlp⟩
        · cases hx
      · cases hx
    · cases hx
  · split at hx
    · rename_i e; subst e
      refine ⟨M.es _, ?_⟩
      unfold sortS at hx
      split at hx
      · rename_i g o
        split at hx
        · rename_i eg; subst eg
          split at hx
          · rename_i p hrow
            split at hx
            · rename_i es hp
              split at hx
              · rename_i hl
                obtain ⟨v1, r1, rfl, rv1, ra⟩ := ra.cons_inv
                obtain rfl : r1 = [] := List.eq_nil_of_length_eq_zero ra.1.symm
                obtain ⟨vb, rfl, rvb⟩ : ∃ vb, v1 = .func (.func g) #[] #[vb] ∧ Rel S φ (.ptr o 0) vb := by
                  cases rv1 with
                  | fn _ _ _ _ va vb ha hb hra hrb =>
                    obtain rfl : va = #[] := Array.eq_empty_of_size_eq_zero (by simpa using ha.symm)
                    obtain ⟨u, hu⟩ : ∃ u, vb = #[u] := Array.size_eq_one_iff.1 (by simpa using hb.symm)
                    subst hu
                    exact ⟨u, rfl, hrb 0 _ _ rfl rfl⟩
                obtain ⟨b0, rfl, hcell⟩ := ptr_cells H hrow rvb
                obtain ⟨u, hu, ru⟩ := hcell 0 _ rfl
                obtain ⟨b, z, rfl, hb, om⟩ := mp_of H hp ru
                have w1 := omap_owns M.hk M.he om hl
                simp only [litM, Bool.and_eq_true, decide_eq_true_eq] at hl
                obtain ⟨_, _, _, _, _, _, hs1, _⟩ := om
                have hlt : b0 < w.heap.size := World.block_lt_of_cell? w ⟨b0, 0, none⟩ hu
                refine leaves_of (M.sort b0 b _ _ w hlt hu w1 (by simp only [Maps.size, List.length_map]; omega)) ?_
                rintro e w' ⟨v, ss, rfl, hp2, hrow2, hnil, bl⟩
                have hkeys := sort_keys hl.1 hs1 hp2
                have hlen : ss.length = es.length := by
                  have := hp2.length_eq; rw [intKeys_dat] at this; simpa using this
                rw [hkeys] at hrow2
                refine ⟨v, rfl, ?_⟩
                split at hx
                · rename_i he
                  cases hx
                  have : ss = [] := List.eq_nil_of_length_eq_zero (by rw [hlen, he]; rfl)
                  obtain rfl := hnil.2 this
                  exact ⟨S, φ, .nils _, H.grew0 bl lim⟩
                · rename_i he
                  cases hx
                  rcases hrow2.2 with ⟨_, h0⟩ | ⟨gb, cap, cur, rfl, hbase, hgb, r1, r2, r3, r4⟩
                  · exact absurd (List.eq_nil_of_length_eq_zero (by rw [← hlen]; exact h0)) he
                  · refine ⟨S, φ.set h.length (gb, cur.size), ?_, ?_⟩
                    · rw [hlen]
                      exact .ms _ _ _ _ _ _ _ _ (Mp.set_same _ _ _) (by omega) (by omega)
                    · refine H.grew bl hbase (Array.getElem?_eq_some_iff.1 hgb).1 (fun φ' => ⟨cur, _, hgb, rfl, by simp; omega, fun j x hx => ?_⟩) lim
                      simp only [List.getElem?_map, Option.map_eq_some_iff] at hx
                      obtain ⟨y, hy, rfl⟩ := hx
                      refine ⟨.int .i64 (dk y), ?_, .int _ _ _⟩
                      have h3 : (cur.toList.take (ss.length * 1))[j]? = some (.int .i64 (dk y)) := by
                        rw [r4]; simp [List.getElem?_map, hy]
                      rw [List.getElem?_take] at h3
                      split at h3
                      · simpa using h3
                      · cases h3
              · cases hx
            · cases hx
          · cases hx
        · cases hx
      · cases hx
    · cases hx

theorem mspec_frame {fc fs fk : Nat} : SpecFrame (mspec fc fs fk) := by
  intro f args h lim r h' hx s X hs
  unfold mspec at hx ⊢
  split at hx
  · rename_i e
    rw [if_pos e]
    unfold copyS at hx ⊢
    split at hx
    · rename_i p q
      split at hx
      · rename_i es es' hp hq
        rw [get_set hs hp (by simp), get_set hs hq (by simp)]
        simp only
        split at hx
        · rename_i hif
          cases hx
          have hne : s ≠ p := by intro e; subst e; rw [hs] at hp; cases hp
          rw [if_pos hif, List.set_comm _ _ hne, List.getElem?_set_ne (Ne.symm hne)]
          exact ⟨rfl, hs⟩
        · cases hx
      · cases hx
    · cases hx
  · rename_i e
    rw [if_neg e]
    split at hx
    · rename_i e2
      rw [if_pos e2]
      unfold sortS at hx ⊢
      split at hx
      · rename_i g o
        split at hx
        · rename_i eg
          simp only [if_pos eg]
          split at hx
          · rename_i p hrow
            rw [row_set hs hrow]
            simp only
            split at hx
            · rename_i es hp
              rw [get_set hs hp (by simp)]
              simp only
              split at hx
              · rename_i hl
                rw [if_pos hl]
                split at hx
                · rename_i he
                  cases hx
                  rw [if_pos he]; exact ⟨rfl, hs⟩
                · rename_i he
                  cases hx
                  have hl2 := (List.getElem?_eq_some_iff.1 hs).1
                  rw [if_neg he, List.length_set, List.set_append_left _ _ hl2, List.getElem?_append_left hl2]
                  exact ⟨rfl, hs⟩
              · cases hx
            · cases hx
          · cases hx
        · cases hx
      · cases hx
    · cases hx
theorem mspec_len {fc fs fk : Nat} : SpecLen (mspec fc fs fk) := by
  intro f args h lim r h' hx
  unfold mspec at hx
  split at hx
  · unfold copyS at hx
    split at hx
    · split at hx
      · split at hx
        · cases hx; simp
        · cases hx
      · cases hx
    · cases hx
  · split at hx
    · unfold sortS at hx
      split at hx
      · split at hx
        · split at hx
          · split at hx
            · split at hx
              · split at hx
                · cases hx; simp
                · cases hx; simp
              · cases hx
            · cases hx
          · cases hx
        · cases hx
      · cases hx
    · cases hx
/-- a function that has a specification -/
theorem R_spec {E : Env} {f : Nat} {a : List AV} {h : List AO} {l : Nat} {x : AV × List AO} (hs : E.spec f a h l = some x) : R E (.fn f) a h l = some x :=
  R_run (n := 1) (by simp only [callN, hs])
end Go.Am
