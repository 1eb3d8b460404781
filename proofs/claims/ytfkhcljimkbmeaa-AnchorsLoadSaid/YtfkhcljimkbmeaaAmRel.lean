/-
What a value, a heap of the abstract machine say of the model's memory; how they abide what the machine does.
-/
import Derived.Test.YtfkhcljimkbmeaaAmComp
import Derived.WalkKit
namespace Go.Am
open Go
set_option linter.unusedVariables false
set_option linter.unusedSimpArgs false

/-- frozen blocks: what they hold, for good -/
abbrev Fz := Nat → Option (Array Value)
/-- of each object: its block, and how many cells the block has -/
abbrev Mp := Nat → Option (Nat × Nat)
def Mp.no : Mp := fun _ => none
/-- nothing of it is lost -/
def Mp.le (φ φ' : Mp) : Prop := ∀ o x, φ o = some x → φ' o = some x
theorem Mp.le_refl (φ : Mp) : Mp.le φ φ := fun _ _ h => h
theorem Mp.le_trans {a b c : Mp} (h : Mp.le a b) (h' : Mp.le b c) : Mp.le a c := fun o x e => h' o x (h o x e)

inductive Rel (S : Fz) : Mp → AV → Value → Prop
  | bool (φ : Mp) (b : Bool) : Rel S φ (.bool b) (.bool b)
  | int (φ : Mp) (k : IntKind) (n : Int) : Rel S φ (.int k n) (.int k n)
  | str (φ : Mp) (s : ByteArray) : Rel S φ (.str s) (.string s)
  | nilp (φ : Mp) : Rel S φ .nilp (.pointer none)
  | ptr (φ : Mp) (o off b z : Nat) (h : φ o = some (b, z)) : Rel S φ (.ptr o off) (.pointer (some ⟨b, off, none⟩))
  | cptr (φ : Mp) (cells : List AV) (b off : Nat) (c : Array Value) (vs : Nat → Value) (hS : S b = some c)
      (h : ∀ j a, cells[j]? = some a → c[off + j]? = some (vs j)) (hr : ∀ j a, cells[j]? = some a → Rel S Mp.no a (vs j)) :
      Rel S φ (.cptr cells) (.pointer (some ⟨b, off, none⟩))
  | nils (φ : Mp) : Rel S φ .nils (.slice none 0 0)
  | cs0 (φ : Mp) (esz : Nat) (a : Option Addr) (cap : Nat) : Rel S φ (.cs esz 0 []) (.slice a 0 cap)
  | cs (φ : Mp) (esz len : Nat) (cells : List AV) (b off cap : Nat) (c : Array Value) (vs : Nat → Value) (hS : S b = some c) (hl : cells.length = len * esz) (hc : len ≤ cap)
      (h : ∀ j a, cells[j]? = some a → c[off + j]? = some (vs j)) (hr : ∀ j a, cells[j]? = some a → Rel S Mp.no a (vs j)) :
      Rel S φ (.cs esz len cells) (.slice (some ⟨b, off, none⟩) len cap)
  | ms (φ : Mp) (esz o off len b z cap : Nat) (h : φ o = some (b, z)) (hc : len ≤ cap) (hz : off + cap * esz ≤ z) :
      Rel S φ (.ms esz o off len) (.slice (some ⟨b, off, none⟩) len cap)
  | fn (φ : Mp) (f : Nat) (a b : List AV) (va vb : Array Value) (ha : a.length = va.size) (hb : b.length = vb.size)
      (hra : ∀ (j : Nat) x v, a[j]? = some x → va[j]? = some v → Rel S φ x v) (hrb : ∀ (j : Nat) x v, b[j]? = some x → vb[j]? = some v → Rel S φ x v) :
      Rel S φ (.fn f a b) (.func (.func f) va vb)
  | yld (φ : Mp) (o l z : Nat) (h : φ o = some (l, z)) : Rel S φ (.yld o) (.func (.yield l) #[] #[])
  | nilf (φ : Mp) : Rel S φ .nilf .nilFunc
  | agg (φ : Mp) (a : List AV) (va : Array Value) (ha : a.length = va.size) (hra : ∀ (j : Nat) x v, a[j]? = some x → va[j]? = some v → Rel S φ x v) : Rel S φ (.agg a) (.agg va)
  | tup (φ : Mp) (a : List AV) (va : Array Value) (ha : a.length = va.size) (hra : ∀ (j : Nat) x v, a[j]? = some x → va[j]? = some v → Rel S φ x v) : Rel S φ (.tup a) (.tuple va)
  | iface (φ : Mp) (t : Nat) (a : AV) (v : Value) (h : Rel S φ a v) : Rel S φ (.iface t a) (.iface t v)
  | nili (φ : Mp) : Rel S φ .nili .nilIface

/-- lists, place by place -/
def RelL (S : Fz) (φ : Mp) (a : List AV) (v : List Value) : Prop := a.length = v.length ∧ ∀ (j : Nat) x u, a[j]? = some x → v[j]? = some u → Rel S φ x u

theorem Rel.mono {S S' : Fz} (hS : ∀ b c, S b = some c → S' b = some c) {φ : Mp} {a : AV} {v : Value} (h : Rel S φ a v) :
    ∀ φ' : Mp, Mp.le φ φ' → Rel S' φ' a v := by
  induction h with
  | bool φ b => exact fun φ' _ => .bool φ' b
  | int φ k n => exact fun φ' _ => .int φ' k n
  | str φ s => exact fun φ' _ => .str φ' s
  | nilp φ => exact fun φ' _ => .nilp φ'
  | ptr φ o off b z h => exact fun φ' hp => .ptr φ' o off b z (hp _ _ h)
  | cptr φ cells b off c vs hs h hr ih => exact fun φ' _ => .cptr φ' cells b off c vs (hS _ _ hs) h (fun j a hj => ih j a hj Mp.no (Mp.le_refl _))
  | nils φ => exact fun φ' _ => .nils φ'
  | cs0 φ esz a cap => exact fun φ' _ => .cs0 φ' esz a cap
  | cs φ esz len cells b off cap c vs hs hl hc h hr ih => exact fun φ' _ => .cs φ' esz len cells b off cap c vs (hS _ _ hs) hl hc h (fun j a hj => ih j a hj Mp.no (Mp.le_refl _))
  | ms φ esz o off len b z cap h hc hz => exact fun φ' hp => .ms φ' esz o off len b z cap (hp _ _ h) hc hz
  | fn φ f a b va vb ha hb hra hrb iha ihb => exact fun φ' hp => .fn φ' f a b va vb ha hb (fun j x v h1 h2 => iha j x v h1 h2 φ' hp) (fun j x v h1 h2 => ihb j x v h1 h2 φ' hp)
  | yld φ o l z h => exact fun φ' hp => .yld φ' o l z (hp _ _ h)
  | nilf φ => exact fun φ' _ => .nilf φ'
  | agg φ a va ha hra ih => exact fun φ' hp => .agg φ' a va ha (fun j x v h1 h2 => ih j x v h1 h2 φ' hp)
  | tup φ a va ha hra ih => exact fun φ' hp => .tup φ' a va ha (fun j x v h1 h2 => ih j x v h1 h2 φ' hp)
  | iface φ t a v h ih => exact fun φ' hp => .iface φ' t a v (ih φ' hp)
  | nili φ => exact fun φ' _ => .nili φ'

theorem Rel.up {S : Fz} {φ φ' : Mp} {a : AV} {v : Value} (h : Rel S φ a v) (hp : Mp.le φ φ') : Rel S φ' a v :=
  h.mono (fun _ _ h => h) φ' hp

theorem RelL.mono {S S' : Fz} (hS : ∀ b c, S b = some c → S' b = some c) {φ φ' : Mp} (hp : Mp.le φ φ') {a : List AV} {v : List Value} (h : RelL S φ a v) : RelL S' φ' a v :=
  ⟨h.1, fun j x u h1 h2 => ((h.2 j x u h1 h2).up hp).mono hS _ (Mp.le_refl _)⟩

theorem RelL.nil {S : Fz} {φ : Mp} : RelL S φ [] [] := ⟨rfl, fun j x u h => by simp at h⟩

theorem RelL.cons {S : Fz} {φ : Mp} {a : AV} {v : Value} {as : List AV} {vs : List Value} (h : Rel S φ a v) (hs : RelL S φ as vs) : RelL S φ (a :: as) (v :: vs) := by
  refine ⟨by simp [hs.1], fun j x u h1 h2 => ?_⟩
  cases j with
  | zero => simp at h1 h2; subst h1; subst h2; exact h
  | succ j => simp at h1 h2; exact hs.2 j x u h1 h2

theorem RelL.cons_inv {S : Fz} {φ : Mp} {a : AV} {as : List AV} {vs : List Value} (h : RelL S φ (a :: as) vs) : ∃ v r, vs = v :: r ∧ Rel S φ a v ∧ RelL S φ as r := by
  cases vs with
  | nil => have := h.1; simp at this
  | cons v r => exact ⟨v, r, rfl, h.2 0 a v rfl rfl, by have := h.1; simpa using this, fun j x u h1 h2 => h.2 (j + 1) x u (by simpa using h1) (by simpa using h2)⟩

theorem RelL.append {S : Fz} {φ : Mp} {a b : List AV} {v u : List Value} (h : RelL S φ a v) (h' : RelL S φ b u) : RelL S φ (a ++ b) (v ++ u) := by
  refine ⟨by simp [h.1, h'.1], fun j x y h1 h2 => ?_⟩
  by_cases hj : j < a.length
  · rw [List.getElem?_append_left hj] at h1
    rw [List.getElem?_append_left (by rw [← h.1]; exact hj)] at h2
    exact h.2 j x y h1 h2
  · rw [List.getElem?_append_right (by omega)] at h1
    rw [List.getElem?_append_right (by have := h.1; omega), ← h.1] at h2
    exact h'.2 _ x y h1 h2

theorem RelL.take {S : Fz} {φ : Mp} {a : List AV} {v : List Value} (h : RelL S φ a v) (n : Nat) : RelL S φ (a.take n) (v.take n) := by
  refine ⟨by simp [h.1], fun j x y h1 h2 => ?_⟩
  rw [List.getElem?_take] at h1 h2
  split at h1
  · rw [if_pos (by assumption)] at h2; exact h.2 j x y h1 h2
  · cases h1

theorem RelL.drop {S : Fz} {φ : Mp} {a : List AV} {v : List Value} (h : RelL S φ a v) (n : Nat) : RelL S φ (a.drop n) (v.drop n) := by
  refine ⟨by simp [h.1], fun j x y h1 h2 => ?_⟩
  rw [List.getElem?_drop] at h1 h2
  exact h.2 _ x y h1 h2

theorem RelL.set {S : Fz} {φ : Mp} {a : List AV} {v : List Value} (h : RelL S φ a v) (n : Nat) {x : AV} {u : Value} (hx : Rel S φ x u) : RelL S φ (a.set n x) (v.set n u) := by
  refine ⟨by simp [h.1], fun j y w h1 h2 => ?_⟩
  rw [List.getElem?_set] at h1 h2
  by_cases e : n = j
  · subst e
    simp only [if_true] at h1 h2
    split at h1
    · split at h2
      · cases h1; cases h2; exact hx
      · cases h2
    · cases h1
  · simp only [e, if_false] at h1 h2; exact h.2 j y w h1 h2

theorem RelL.getD {S : Fz} {φ : Mp} {a : List AV} {v : List Value} (h : RelL S φ a v) (n : Nat) : Rel S φ (a.getD n .undef) (v.getD n undef) := by
  by_cases hn : n < a.length
  · have hv : n < v.length := by rw [← h.1]; exact hn
    exact h.2 n _ _ (by simp [List.getElem?_eq_getElem hn]) (by simp [List.getElem?_eq_getElem hv])
  · have hv : ¬ n < v.length := by rw [← h.1]; exact hn
    simp only [List.getD_eq_getElem?_getD, List.getElem?_eq_none (Nat.le_of_not_lt hn), List.getElem?_eq_none (Nat.le_of_not_lt hv), Option.getD_none]
    exact .tup φ [] #[] rfl (fun j x v h => by simp at h)

theorem RelL.get {S : Fz} {φ : Mp} {a : List AV} {v : List Value} (h : RelL S φ a v) {n : Nat} {x : AV} (hx : a[n]? = some x) : ∃ u, v[n]? = some u ∧ Rel S φ x u := by
  have hn := (List.getElem?_eq_some_iff.1 hx).1
  have hv : n < v.length := by rw [← h.1]; exact hn
  exact ⟨v[n], List.getElem?_eq_getElem hv, h.2 n x _ hx (List.getElem?_eq_getElem hv)⟩

/-- what a value's cells are -/
theorem Rel.cells {S : Fz} {φ : Mp} {a : AV} {v : Value} (h : Rel S φ a v) : RelL S φ a.cells v.cells.toList := by
  cases h with
  | agg φ a va ha hra => exact ⟨by simpa [AV.cells, Value.cells] using ha, fun j x u h1 h2 => hra j x u h1 (by simpa [Value.cells] using h2)⟩
  | bool φ b => exact .cons (.bool _ _) .nil
  | int φ k n => exact .cons (.int _ _ _) .nil
  | str φ s => exact .cons (.str _ _) .nil
  | nilp φ => exact .cons (.nilp _) .nil
  | ptr φ o off b z h => exact .cons (.ptr _ _ _ _ _ h) .nil
  | cptr φ cells b off c vs hs h hr => exact .cons (.cptr _ _ _ _ _ _ hs h hr) .nil
  | nils φ => exact .cons (.nils _) .nil
  | cs0 φ esz a cap => exact .cons (.cs0 _ _ _ _) .nil
  | cs φ esz len cells b off cap c vs hs hl hc h hr => exact .cons (.cs _ _ _ _ _ _ _ _ _ hs hl hc h hr) .nil
  | ms φ esz o off len b z cap h hc hz => exact .cons (.ms _ _ _ _ _ _ _ _ h hc hz) .nil
  | fn φ f a b va vb ha hb hra hrb => exact .cons (.fn _ _ _ _ _ _ ha hb hra hrb) .nil
  | yld φ o l z h => exact .cons (.yld _ _ _ _ h) .nil
  | nilf φ => exact .cons (.nilf _) .nil
  | tup φ a va ha hra => exact .cons (.tup _ _ _ ha hra) .nil
  | iface φ t a v h => exact .cons (.iface _ _ _ _ h) .nil
  | nili φ => exact .cons (.nili _) .nil

theorem Rel.one {S : Fz} {φ : Mp} {a : AV} {v : Value} (h : Rel S φ a v) (hs : a.scalar = true) : v.oneCell' = true := by
  cases h <;> first | rfl | simp [AV.scalar] at hs

theorem Rel.agg_iff {S : Fz} {φ : Mp} {a : List AV} {va : Array Value} : Rel S φ (.agg a) (.agg va) ↔ RelL S φ a va.toList :=
  ⟨fun h => by cases h with | agg φ a va ha hra => exact ⟨by simpa using ha, fun j x u h1 h2 => hra j x u h1 (by simpa using h2)⟩,
   fun h => .agg φ a va (by simpa using h.1) (fun j x v h1 h2 => h.2 j x v h1 (by simpa using h2))⟩

theorem Rel.tup_iff {S : Fz} {φ : Mp} {a : List AV} {va : Array Value} : Rel S φ (.tup a) (.tuple va) ↔ RelL S φ a va.toList :=
  ⟨fun h => by cases h with | tup φ a va ha hra => exact ⟨by simpa using ha, fun j x u h1 h2 => hra j x u h1 (by simpa using h2)⟩,
   fun h => .tup φ a va (by simpa using h.1) (fun j x v h1 h2 => h.2 j x v h1 (by simpa using h2))⟩

theorem Rel.undef {S : Fz} {φ : Mp} : Rel S φ .undef Go.undef := Rel.tup_iff.2 .nil

theorem mapM_some {α β : Type} {f : α → Option β} : ∀ {l : List α} {r : List β}, l.mapM f = some r → r.length = l.length ∧ ∀ (j : Nat) x, l[j]? = some x → ∃ y, r[j]? = some y ∧ f x = some y
  | [], r, h => by simp at h; subst h; exact ⟨rfl, fun j x hx => by simp at hx⟩
  | a :: l, r, h => by
    simp only [List.mapM_cons, Option.bind_eq_bind, Option.bind_eq_some_iff, Option.pure_def, Option.some.injEq] at h
    obtain ⟨y, hy, s, hs, rfl⟩ := h
    obtain ⟨h1, h2⟩ := mapM_some hs
    refine ⟨by simp [h1], fun j x hx => ?_⟩
    cases j with
    | zero => simp at hx; subst hx; exact ⟨y, rfl, hy⟩
    | succ j => simp at hx; simpa using h2 j x hx

/-- a constant of the text -/
theorem toAV_rel {S : Fz} {φ : Mp} : ∀ (n : Nat) (v : Value) (a : AV), toAV n v = some a → Rel S φ a v := by
  intro n
  induction n with
  | zero =>
    intro v a h
    cases v with
    | bool b => simp [toAV] at h; subst h; exact .bool _ _
    | int k n => simp [toAV] at h; subst h; exact .int _ _ _
    | string s => simp [toAV] at h; subst h; exact .str _ _
    | pointer p => cases p <;> simp [toAV] at h; subst h; exact .nilp _
    | slice p l c =>
      cases p <;> cases l <;> cases c <;> simp [toAV] at h
      subst h; exact .nils _
    | nilFunc => simp [toAV] at h; subst h; exact .nilf _
    | nilIface => simp [toAV] at h; subst h; exact .nili _
    | _ => simp [toAV] at h
  | succ n ih =>
    intro v a h
    cases v with
    | bool b => simp [toAV] at h; subst h; exact .bool _ _
    | int k n => simp [toAV] at h; subst h; exact .int _ _ _
    | string s => simp [toAV] at h; subst h; exact .str _ _
    | pointer p => cases p <;> simp [toAV] at h; subst h; exact .nilp _
    | slice p l c =>
      cases p <;> cases l <;> cases c <;> simp [toAV] at h
      subst h; exact .nils _
    | nilFunc => simp [toAV] at h; subst h; exact .nilf _
    | nilIface => simp [toAV] at h; subst h; exact .nili _
    | agg c =>
      simp only [toAV, Option.map_eq_some_iff] at h
      obtain ⟨l, hl, rfl⟩ := h
      obtain ⟨h1, h2⟩ := mapM_some hl
      exact Rel.agg_iff.2 ⟨h1, fun j x u hx hu => by obtain ⟨y, hy, hf⟩ := h2 j u hu; rw [hx] at hy; cases hy; exact ih _ _ hf⟩
    | tuple c =>
      simp only [toAV, Option.map_eq_some_iff] at h
      obtain ⟨l, hl, rfl⟩ := h
      obtain ⟨h1, h2⟩ := mapM_some hl
      exact Rel.tup_iff.2 ⟨h1, fun j x u hx hu => by obtain ⟨y, hy, hf⟩ := h2 j u hu; rw [hx] at hy; cases hy; exact ih _ _ hf⟩
    | _ => simp [toAV] at h

end Go.Am
