/-
Values seen from another heap: what a call is given, and what it hands back.
-/
import Derived.Test.YtfkhcljimkbmeaaAmOps2
namespace Go.Am
open Go
set_option linter.unusedVariables false
set_option linter.unusedSimpArgs false

variable {P : Program} {mode : Nat → Nat → Nat} {S : Fz} {φ : Mp} {B : Nat} {h : List AO} {w : World}

theorem pureGo {l : List AV} (h : AV.pureV.go l = true) : ∀ (j : Nat) x, l[j]? = some x → x.pureV = true := by
  induction l with
  | nil => intro j x hx; simp at hx
  | cons a l ih =>
    simp only [AV.pureV.go, Bool.and_eq_true] at h
    intro j x hx
    cases j with
    | zero => simp at hx; subst hx; exact h.1
    | succ j => exact ih h.2 j x (by simpa using hx)

theorem underGo {n : Nat} {l : List AV} (h : AV.under.go n l = true) : ∀ (j : Nat) x, l[j]? = some x → x.under n = true := by
  induction l with
  | nil => intro j x hx; simp at hx
  | cons a l ih =>
    simp only [AV.under.go, Bool.and_eq_true] at h
    intro j x hx
    cases j with
    | zero => simp at hx; subst hx; exact h.1
    | succ j => exact ih h.2 j x (by simpa using hx)

theorem shiftGo (n : Nat) (l : List AV) : AV.shift.go n l = l.map (AV.shift n) := by
  induction l with
  | nil => rfl
  | cons a l ih => simp [AV.shift.go, ih]

/-- what names no object fits whatever the objects are -/
theorem Rel.ofPure {a : AV} {v : Value} (h : Rel S φ a v) : a.pureV = true → ∀ φ', Rel S φ' a v := by
  induction h with
  | bool φ b => exact fun _ φ' => .bool φ' b
  | int φ k n => exact fun _ φ' => .int φ' k n
  | str φ s => exact fun _ φ' => .str φ' s
  | nilp φ => exact fun _ φ' => .nilp φ'
  | ptr => intro hp; simp [AV.pureV] at hp
  | cptr φ cells b off c vs hs h hr ih => exact fun _ φ' => .cptr φ' cells b off c vs hs h hr
  | nils φ => exact fun _ φ' => .nils φ'
  | cs0 φ esz a cap => exact fun _ φ' => .cs0 φ' esz a cap
  | cs φ esz len cells b off cap c vs hs hl hc h hr ih => exact fun _ φ' => .cs φ' esz len cells b off cap c vs hs hl hc h hr
  | ms => intro hp; simp [AV.pureV] at hp
  | fn φ f x y va vb hx hy h3 h4 =>
    intro hp φ'
    simp [AV.pureV] at hp
    obtain ⟨rfl, rfl⟩ := hp
    exact .fn _ f [] [] va vb hx hy (by simp) (by simp)
  | yld => intro hp; simp [AV.pureV] at hp
  | nilf φ => exact fun _ φ' => .nilf φ'
  | agg φ a va ha hra ih => exact fun hp φ' => .agg φ' a va ha (fun j x v h1 h2 => ih j x v h1 h2 (pureGo (by simpa [AV.pureV] using hp) j x h1) φ')
  | tup φ a va ha hra ih => exact fun hp φ' => .tup φ' a va ha (fun j x v h1 h2 => ih j x v h1 h2 (pureGo (by simpa [AV.pureV] using hp) j x h1) φ')
  | iface φ t a v h ih => exact fun hp φ' => .iface φ' t a v (ih (by simpa [AV.pureV] using hp) φ')
  | nili φ => exact fun _ φ' => .nili φ'

theorem Rel.under {a : AV} {v : Value} (h : Rel S φ a v) : ∀ n, a.under n = true → ∀ φ', (∀ o x, o < n → φ o = some x → φ' o = some x) → Rel S φ' a v := by
  induction h with
  | bool φ b => exact fun _ _ φ' _ => .bool φ' b
  | int φ k n => exact fun _ _ φ' _ => .int φ' k n
  | str φ s => exact fun _ _ φ' _ => .str φ' s
  | nilp φ => exact fun _ _ φ' _ => .nilp φ'
  | ptr φ o off b z h => exact fun n hn φ' hp => .ptr φ' o off b z (hp _ _ (by simpa [AV.under] using hn) h)
  | cptr φ cells b off c vs hs h hr ih => exact fun _ _ φ' _ => .cptr φ' cells b off c vs hs h hr
  | nils φ => exact fun _ _ φ' _ => .nils φ'
  | cs0 φ esz a cap => exact fun _ _ φ' _ => .cs0 φ' esz a cap
  | cs φ esz len cells b off cap c vs hs hl hc h hr ih => exact fun _ _ φ' _ => .cs φ' esz len cells b off cap c vs hs hl hc h hr
  | ms φ esz o off len b z cap h hc hz => exact fun n hn φ' hp => .ms φ' esz o off len b z cap (hp _ _ (by simpa [AV.under] using hn) h) hc hz
  | fn φ f a b va vb ha hb hra hrb iha ihb =>
    intro n hn φ' hp
    simp only [AV.under, Bool.and_eq_true] at hn
    exact .fn φ' f a b va vb ha hb (fun j x v h1 h2 => iha j x v h1 h2 n (underGo hn.1 j x h1) φ' hp) (fun j x v h1 h2 => ihb j x v h1 h2 n (underGo hn.2 j x h1) φ' hp)
  | yld φ o l z h => exact fun n hn φ' hp => .yld φ' o l z (hp _ _ (by simpa [AV.under] using hn) h)
  | nilf φ => exact fun _ _ φ' _ => .nilf φ'
  | agg φ a va ha hra ih => exact fun n hn φ' hp => .agg φ' a va ha (fun j x v h1 h2 => ih j x v h1 h2 n (underGo (by simpa [AV.under] using hn) j x h1) φ' hp)
  | tup φ a va ha hra ih => exact fun n hn φ' hp => .tup φ' a va ha (fun j x v h1 h2 => ih j x v h1 h2 n (underGo (by simpa [AV.under] using hn) j x h1) φ' hp)
  | iface φ t a v h ih => exact fun n hn φ' hp => .iface φ' t a v (ih n (by simpa [AV.under] using hn) φ' hp)
  | nili φ => exact fun _ _ φ' _ => .nili φ'

theorem Rel.shift {a : AV} {v : Value} (h : Rel S φ a v) : ∀ n φ', (∀ o x, φ o = some x → φ' (o + n) = some x) → Rel S φ' (a.shift n) v := by
  induction h with
  | bool φ b => exact fun _ φ' _ => .bool φ' b
  | int φ k n => exact fun _ φ' _ => .int φ' k n
  | str φ s => exact fun _ φ' _ => .str φ' s
  | nilp φ => exact fun _ φ' _ => .nilp φ'
  | ptr φ o off b z h => exact fun n φ' hp => .ptr φ' _ off b z (hp _ _ h)
  | cptr φ cells b off c vs hs h hr ih => exact fun _ φ' _ => .cptr φ' cells b off c vs hs h hr
  | nils φ => exact fun _ φ' _ => .nils φ'
  | cs0 φ esz a cap => exact fun _ φ' _ => .cs0 φ' esz a cap
  | cs φ esz len cells b off cap c vs hs hl hc h hr ih => exact fun _ φ' _ => .cs φ' esz len cells b off cap c vs hs hl hc h hr
  | ms φ esz o off len b z cap h hc hz => exact fun n φ' hp => .ms φ' esz _ off len b z cap (hp _ _ h) hc hz
  | fn φ f a b va vb ha hb hra hrb iha ihb =>
    intro n φ' hp
    simp only [AV.shift, shiftGo]
    exact .fn φ' f _ _ va vb (by simpa using ha) (by simpa using hb)
      (fun j x v h1 h2 => by simp only [List.getElem?_map, Option.map_eq_some_iff] at h1; obtain ⟨y, hy, rfl⟩ := h1; exact iha j y v hy h2 n φ' hp)
      (fun j x v h1 h2 => by simp only [List.getElem?_map, Option.map_eq_some_iff] at h1; obtain ⟨y, hy, rfl⟩ := h1; exact ihb j y v hy h2 n φ' hp)
  | yld φ o l z h => exact fun n φ' hp => .yld φ' _ l z (hp _ _ h)
  | nilf φ => exact fun _ φ' _ => .nilf φ'
  | agg φ a va ha hra ih =>
    intro n φ' hp
    simp only [AV.shift, shiftGo]
    exact .agg φ' _ va (by simpa using ha) (fun j x v h1 h2 => by simp only [List.getElem?_map, Option.map_eq_some_iff] at h1; obtain ⟨y, hy, rfl⟩ := h1; exact ih j y v hy h2 n φ' hp)
  | tup φ a va ha hra ih =>
    intro n φ' hp
    simp only [AV.shift, shiftGo]
    exact .tup φ' _ va (by simpa using ha) (fun j x v h1 h2 => by simp only [List.getElem?_map, Option.map_eq_some_iff] at h1; obtain ⟨y, hy, rfl⟩ := h1; exact ih j y v hy h2 n φ' hp)
  | iface φ t a v h ih => exact fun n φ' hp => .iface φ' t _ v (ih n φ' hp)
  | nili φ => exact fun _ φ' _ => .nili φ'

/-- the view fits, where what it leads to is frozen -/
theorem view_rel (H : HR P mode S φ B h w) {S2 : Fz} {strict : Bool} (hobj : ∀ o b z cs e fr, φ o = some (b, z) → w.heap[b]? = some (.cells cs e fr) → S2 b = some cs)
    (hS : strict = false → ∀ b c, S b = some c → S2 b = some c) : ∀ (n : Nat) (a a' : AV) (v : Value), view strict h n a = some a' → Rel S φ a v → Rel S2 Mp.no a' v := by
  have simple : ∀ (a a' : AV) (v : Value), (∀ n, view strict h n a = view strict h 0 a) → view strict h 0 a = some a' → Rel S φ a v → Rel S2 Mp.no a' v := by
    intro a a' v hn ha hr
    cases hr <;> simp [view] at ha <;> try (subst ha; constructor; done)
    · -- a pointer into content
      rename_i cells b off c vs h1 h2 h3
      obtain ⟨hs, rfl⟩ := ha
      exact .cptr _ _ _ _ c vs (hS hs _ _ h1) h2 (fun j a hj => (h3 j a hj).mono (hS hs) _ (Mp.le_refl _))
    · rename_i esz len cells b off cap c vs h1 hl hc h2 h3
      obtain ⟨hs, rfl⟩ := ha
      by_cases hst : strict = false
      · exact .cs _ _ _ _ _ _ _ c vs (hS hst _ _ h1) hl hc h2 (fun j a hj => (h3 j a hj).mono (hS hst) _ (Mp.le_refl _))
      · have hl0 : len = 0 := by
          cases strict with
          | false => exact absurd rfl hst
          | true => simpa using hs
        subst hl0
        have : cells = [] := List.eq_nil_of_length_eq_zero (by simpa using hl)
        subst this
        exact .cs0 _ _ _ _
    · rename_i f x y va vb hx hy h3 h4
      obtain ⟨⟨rfl, rfl⟩, rfl⟩ := ha
      exact .fn _ f [] [] va vb hx hy (by simp) (by simp)
  intro n
  induction n with
  | zero =>
    intro a a' v ha hr
    exact simple a a' v (fun n => by cases hr <;> simp [view] at ha ⊢) ha hr
  | succ n ih =>
    intro a a' v ha hr
    have lists : ∀ (l : List AV) (l' : List AV) (vs : List Value), l.mapM (view strict h n) = some l' → RelL S φ l vs → RelL S2 Mp.no l' vs := by
      intro l l' vs hl hrl
      obtain ⟨h1, h2⟩ := mapM_some hl
      refine ⟨by rw [h1]; exact hrl.1, fun j x u hx hu => ?_⟩
      have hj : j < l.length := by have := (List.getElem?_eq_some_iff.1 hx).1; omega
      obtain ⟨y, hy, hf⟩ := h2 j _ (List.getElem?_eq_getElem hj)
      rw [hx] at hy; cases hy
      exact ih _ _ u hf (hrl.2 j _ u (List.getElem?_eq_getElem hj) hu)
    cases hr with
    | agg _ l va hl hra =>
      simp only [view, Option.map_eq_some_iff] at ha
      obtain ⟨l', hl', rfl⟩ := ha
      exact Rel.agg_iff.2 (lists _ _ _ hl' ⟨by simpa using hl, fun j x u h1 h2 => hra j x u h1 (by simpa using h2)⟩)
    | tup _ l va hl hra =>
      simp only [view, Option.map_eq_some_iff] at ha
      obtain ⟨l', hl', rfl⟩ := ha
      exact Rel.tup_iff.2 (lists _ _ _ hl' ⟨by simpa using hl, fun j x u h1 h2 => hra j x u h1 (by simpa using h2)⟩)
    | ms _ esz o off len b z cap hb hc hz =>
      simp only [view] at ha
      split at ha
      · rename_i x hx
        simp only [Option.map_eq_some_iff] at ha
        obtain ⟨l', hl', rfl⟩ := ha
        simp only [rowOf] at hx
        split at hx
        · rename_i c hc2
          split at hx
          · rename_i hlen
            cases hx
            obtain ⟨b', z', hb', hrow⟩ := row_of H hc2
            rw [hb] at hb'; cases hb'
            obtain ⟨cs, e, g1, g2, g3, g4⟩ := hrow
            have hr2 : RelL S φ ((c.drop off).take (len * esz)) ((cs.toList.drop off).take (len * esz)) := by
              refine ⟨?_, fun j x u hx hu => ?_⟩
              · have e2 : len * esz ≤ cap * esz := Nat.mul_le_mul_right _ hc
                rw [hlen]; simp; omega
              · rw [List.getElem?_take] at hx hu
                split at hx
                · rw [if_pos (by assumption)] at hu
                  rw [List.getElem?_drop] at hx hu
                  obtain ⟨v, hv, hrv⟩ := g4 _ x hx
                  have : cs.toList[off + j]? = some v := by simpa using hv
                  rw [this] at hu; cases hu; exact hrv
                · cases hx
            have hr3 := lists _ _ _ hl' hr2
            have hll : l'.length = len * esz := by rw [(mapM_some hl').1]; exact hlen
            refine .cs _ _ _ _ _ _ _ cs (fun j => (cs[off + j]?).getD undef) (hobj _ _ _ _ _ _ hb g1) hll hc (fun j a hj => ?_) (fun j a hj => ?_)
            · obtain ⟨u, hu, _⟩ := hr3.get hj
              rw [List.getElem?_take] at hu
              split at hu
              · rw [List.getElem?_drop] at hu
                have : cs[off + j]? = some u := by simpa using hu
                rw [this]; rfl
              · cases hu
            · obtain ⟨u, hu, hru⟩ := hr3.get hj
              rw [List.getElem?_take] at hu
              split at hu
              · rw [List.getElem?_drop] at hu
                have : cs[off + j]? = some u := by simpa using hu
                rw [this]; exact hru
              · cases hu
          · cases hx
        · cases hx
      · cases ha
    | ptr => simp [view] at ha
    | fn _ f x y va vb hx hy h3 h4 =>
      simp only [view] at ha
      split at ha
      · rename_i hc
        simp at hc
        obtain ⟨rfl, rfl⟩ := hc
        simp at ha; subst ha
        exact .fn _ f [] [] va vb hx hy (by simp) (by simp)
      · cases ha
    | yld => simp [view] at ha
    | iface => simp [view] at ha
    | cptr _ cells b off c vs h1 h2 h3 => exact simple _ a' _ (fun n => by cases n <;> simp [view]) (by simpa [view] using ha) (.cptr _ cells b off c vs h1 h2 h3)
    | cs _ esz len cells b off cap c vs h1 hl hc h2 h3 => exact simple _ a' _ (fun n => by cases n <;> simp [view]) (by simpa [view] using ha) (.cs _ esz len cells b off cap c vs h1 hl hc h2 h3)
    | cs0 _ esz a cap => exact simple _ a' _ (fun n => by cases n <;> simp [view]) (by simpa [view] using ha) (.cs0 _ esz a cap)
    | bool => simp [view] at ha; subst ha; constructor
    | int => simp [view] at ha; subst ha; constructor
    | str => simp [view] at ha; subst ha; constructor
    | nilp => simp [view] at ha; subst ha; constructor
    | nils => simp [view] at ha; subst ha; constructor
    | nilf => simp [view] at ha; subst ha; constructor
    | nili => simp [view] at ha; subst ha; constructor

/-- of what names no object the view names none, too -/
theorem view_pure : ∀ (n : Nat) (a a' : AV) (v : Value), a.pureV = true → view false h n a = some a' → Rel S φ a v → Rel S Mp.no a' v := by
  intro n
  induction n with
  | zero =>
    intro a a' v hp ha hr
    cases hr <;> simp [view] at ha <;> first | (simp [AV.pureV] at hp; done) | skip
    case fn f x y va vb hx hy h3 h4 =>
      obtain ⟨⟨rfl, rfl⟩, rfl⟩ := ha
      exact .fn _ f [] [] va vb hx hy (by simp) (by simp)
    all_goals subst ha
    all_goals first
      | (constructor; done)
      | (rename_i h1 h2 h3; exact .cptr _ _ _ _ _ _ h1 h2 h3)
      | (rename_i h1 hl hc h2 h3; exact .cs _ _ _ _ _ _ _ _ _ h1 hl hc h2 h3)
  | succ n ih =>
    intro a a' v hp ha hr
    have lists : ∀ (l : List AV) (l' : List AV) (vs : List Value), (∀ (j : Nat) x, l[j]? = some x → x.pureV = true) → l.mapM (view false h n) = some l' → RelL S φ l vs → RelL S Mp.no l' vs := by
      intro l l' vs hpl hl hrl
      obtain ⟨h1, h2⟩ := mapM_some hl
      refine ⟨by rw [h1]; exact hrl.1, fun j x u hx hu => ?_⟩
      have hj : j < l.length := by have := (List.getElem?_eq_some_iff.1 hx).1; omega
      obtain ⟨y, hy, hf⟩ := h2 j _ (List.getElem?_eq_getElem hj)
      rw [hx] at hy; cases hy
      exact ih _ _ u (hpl j _ (List.getElem?_eq_getElem hj)) hf (hrl.2 j _ u (List.getElem?_eq_getElem hj) hu)
    cases hr with
    | agg _ l va hl hra =>
      simp only [view, Option.map_eq_some_iff] at ha
      obtain ⟨l', hl', rfl⟩ := ha
      exact Rel.agg_iff.2 (lists _ _ _ (pureGo (by simpa [AV.pureV] using hp)) hl' ⟨by simpa using hl, fun j x u h1 h2 => hra j x u h1 (by simpa using h2)⟩)
    | tup _ l va hl hra =>
      simp only [view, Option.map_eq_some_iff] at ha
      obtain ⟨l', hl', rfl⟩ := ha
      exact Rel.tup_iff.2 (lists _ _ _ (pureGo (by simpa [AV.pureV] using hp)) hl' ⟨by simpa using hl, fun j x u h1 h2 => hra j x u h1 (by simpa using h2)⟩)
    | ms => simp [AV.pureV] at hp
    | ptr => simp [view] at ha
    | fn _ f x y va vb hx hy h3 h4 =>
      simp only [view] at ha
      split at ha
      · rename_i hc
        simp at hc
        obtain ⟨rfl, rfl⟩ := hc
        simp at ha; subst ha
        exact .fn _ f [] [] va vb hx hy (by simp) (by simp)
      · cases ha
    | yld => simp [view] at ha
    | iface => simp [view] at ha
    | cptr _ cells b off c vs h1 h2 h3 => simp [view] at ha; subst ha; exact .cptr _ cells b off c vs h1 h2 h3
    | cs _ esz len cells b off cap c vs h1 hl hc h2 h3 => simp [view] at ha; subst ha; exact .cs _ esz len cells b off cap c vs h1 hl hc h2 h3
    | cs0 _ esz a cap => simp [view] at ha; subst ha; exact .cs0 _ esz a cap
    | bool => simp [view] at ha; subst ha; constructor
    | int => simp [view] at ha; subst ha; constructor
    | str => simp [view] at ha; subst ha; constructor
    | nilp => simp [view] at ha; subst ha; constructor
    | nils => simp [view] at ha; subst ha; constructor
    | nilf => simp [view] at ha; subst ha; constructor
    | nili => simp [view] at ha; subst ha; constructor

end Go.Am
