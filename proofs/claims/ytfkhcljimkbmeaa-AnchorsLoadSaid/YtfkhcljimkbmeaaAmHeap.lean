/-
The abstract heap against the model's world.
-/
import Derived.Test.YtfkhcljimkbmeaaAmRel
namespace Go.Am
open Go
set_option linter.unusedVariables false
set_option linter.unusedSimpArgs false

def exCode : Ex → Option Code
  | .nrm => none
  | .exit id => some (.exit id)
  | .ret => some .ret

/-- a row -/
def ORow (S : Fz) (φ : Mp) (w : World) (c : List AV) (b z : Nat) : Prop :=
  ∃ cs e, w.heap[b]? = some (.cells cs e (0, 0)) ∧ cs.size = z ∧ c.length ≤ z ∧ ∀ (j : Nat) x, c[j]? = some x → ∃ v, cs[j]? = some v ∧ Rel S φ x v

def OR (P : Program) (mode : Nat → Nat → Nat) (S : Fz) (φ : Mp) (w : World) (b z : Nat) : AO → Prop
  | .cells c _ => ORow S φ w c b z
  | .ro c => ORow S φ w c b z
  | .tomb => True
  | .dfr => w.heap[b]? = some (.deferred (some []))
  | .loop st pend fid ts ps as bd d => ∃ l : Loop, w.heap[b]? = some (.loop l) ∧ l.state = st ∧ l.pending = pend.bind exCode ∧ l.fn = fid ∧ RelL S φ ts l.tmps.toList ∧
      l.params.toList = ps ∧ cCode P (mode fid) l.assign = some as ∧ cCode P (mode fid) l.body = some bd ∧ ∃ z, φ d = some (l.defers, z)

/-- may two objects lie in one block? -/
def mayShare : AO → AO → Prop
  | .tomb, _ => True
  | _, .tomb => True
  | .ro _, .ro _ => True
  | .cells c sh, .ro c' => c'.length ≤ c.length ∧ (c' = [] ∨ sh = true)
  | .ro c', .cells c sh => c'.length ≤ c.length ∧ (c' = [] ∨ sh = true)
  | _, _ => False

theorem mayShare_comm {a b : AO} (h : mayShare a b) : mayShare b a := by
  cases a <;> cases b <;> simp_all [mayShare]

structure HR (P : Program) (mode : Nat → Nat → Nat) (S : Fz) (φ : Mp) (B : Nat) (h : List AO) (w : World) : Prop where
  bs : B ≤ w.heap.size
  dom : ∀ o x, φ o = some x → o < h.length
  lt : ∀ o b z, φ o = some (b, z) → b < w.heap.size ∧ B ≤ b
  fro : ∀ b c, S b = some c → ∃ e fr, w.heap[b]? = some (.cells c e fr)
  obj : ∀ (o : Nat) a, h[o]? = some a → a = .tomb ∨ ∃ b z, φ o = some (b, z) ∧ S b = none ∧ OR P mode S φ w b z a
  inj : ∀ (o o' : Nat) a a' b z z', h[o]? = some a → h[o']? = some a' → φ o = some (b, z) → φ o' = some (b, z') → o ≠ o' → mayShare a a'

/-- the frame: what lay below B lies as it lay -/
structure Fx (B : Nat) (w w' : World) : Prop where
  tape : w'.tape = w.tape
  os : w'.os = w.os
  out : w'.output = w.output
  size : w.heap.size ≤ w'.heap.size
  old : ∀ b, b < B → w'.heap[b]? = w.heap[b]?

theorem Fx.refl (B : Nat) (w : World) : Fx B w w := ⟨rfl, rfl, rfl, Nat.le_refl _, fun _ _ => rfl⟩
theorem Fx.trans {B : Nat} {a b c : World} (h : Fx B a b) (h' : Fx B b c) : Fx B a c :=
  ⟨h'.tape.trans h.tape, h'.os.trans h.os, h'.out.trans h.out, Nat.le_trans h.size h'.size, fun x hx => (h'.old x hx).trans (h.old x hx)⟩
theorem Fx.mono {B B' : Nat} {a b : World} (h : Fx B a b) (hb : B' ≤ B) : Fx B' a b :=
  ⟨h.tape, h.os, h.out, h.size, fun x hx => h.old x (Nat.lt_of_lt_of_le hx hb)⟩

structure Post (P : Program) (mode : Nat → Nat → Nat) (S : Fz) (φ : Mp) (B lim : Nat) (h : List AO) (w : World) (pl : Option Nat) (S' : Fz) (φ' : Mp) (h' : List AO) (w' : World) : Prop where
  hr : HR P mode S' φ' B h' w'
  le : Mp.le φ φ'
  sle : ∀ b, b < w.heap.size → S' b = S b
  fx : Fx B w w'
  len : h.length ≤ h'.length
  keep : ∀ o, o < lim → o < h.length → some o ≠ pl → h'[o]? = h[o]?
  none : ∀ o, o < h.length → some o ≠ pl → φ o = Option.none → φ' o = Option.none

variable {P : Program} {mode : Nat → Nat → Nat} {S : Fz} {φ : Mp} {B : Nat} {h : List AO} {w : World}

theorem HR.slt (H : HR P mode S φ B h w) {b : Nat} {c : Array Value} (hs : S b = some c) : b < w.heap.size := by
  obtain ⟨e, fr, he⟩ := H.fro b c hs
  exact (Array.getElem?_eq_some_iff.1 he).1

theorem Post.smono (H : HR P mode S φ B h w) {lim : Nat} {pl : Option Nat} {S' : Fz} {φ' : Mp} {h' : List AO} {w' : World} (q : Post P mode S φ B lim h w pl S' φ' h' w') :
    ∀ b c, S b = some c → S' b = some c := fun b c hs => by rw [q.sle b (H.slt hs)]; exact hs

theorem Post.refl (H : HR P mode S φ B h w) (lim : Nat) (pl : Option Nat) : Post P mode S φ B lim h w pl S φ h w :=
  ⟨H, Mp.le_refl _, fun _ _ => rfl, Fx.refl _ _, Nat.le_refl _, fun _ _ _ _ => rfl, fun _ _ _ h => h⟩

theorem Post.trans {lim : Nat} {S1 S2 : Fz} {φ1 φ2 : Mp} {h1 h2 : List AO} {w1 w2 : World} {pl : Option Nat}
    (q : Post P mode S φ B lim h w pl S1 φ1 h1 w1) (q' : Post P mode S1 φ1 B lim h1 w1 pl S2 φ2 h2 w2) : Post P mode S φ B lim h w pl S2 φ2 h2 w2 :=
  ⟨q'.hr, Mp.le_trans q.le q'.le, fun b hb => (q'.sle b (Nat.lt_of_lt_of_le hb q.fx.size)).trans (q.sle b hb), q.fx.trans q'.fx, Nat.le_trans q.len q'.len,
   fun o ho hl hp => (q'.keep o ho (Nat.lt_of_lt_of_le hl q.len) hp).trans (q.keep o ho hl hp), fun o hl hp hn => q'.none o (Nat.lt_of_lt_of_le hl q.len) hp (q.none o hl hp hn)⟩

theorem Post.wk {lim : Nat} {S1 : Fz} {φ1 : Mp} {h1 : List AO} {w1 : World} (q : Post P mode S φ B lim h w .none S1 φ1 h1 w1) (pl : Option Nat) : Post P mode S φ B lim h w pl S1 φ1 h1 w1 :=
  ⟨q.hr, q.le, q.sle, q.fx, q.len, fun o a b _ => q.keep o a b (by simp), fun o a _ c => q.none o a (by simp) c⟩

theorem Post.rel (H : HR P mode S φ B h w) {lim : Nat} {pl : Option Nat} {S' : Fz} {φ' : Mp} {h' : List AO} {w' : World} (q : Post P mode S φ B lim h w pl S' φ' h' w')
    {a : AV} {v : Value} (r : Rel S φ a v) : Rel S' φ' a v := (r.up q.le).mono (q.smono H) _ (Mp.le_refl _)
theorem Post.relL (H : HR P mode S φ B h w) {lim : Nat} {pl : Option Nat} {S' : Fz} {φ' : Mp} {h' : List AO} {w' : World} (q : Post P mode S φ B lim h w pl S' φ' h' w')
    {a : List AV} {v : List Value} (r : RelL S φ a v) : RelL S' φ' a v := r.mono (q.smono H) q.le

theorem ORow.mono {S' : Fz} {φ' : Mp} {w' : World} {c : List AV} {b z : Nat} (r : ORow S φ w c b z) (hS : ∀ b c, S b = some c → S' b = some c) (hφ : Mp.le φ φ')
    (hw : w'.heap[b]? = w.heap[b]?) : ORow S' φ' w' c b z := by
  obtain ⟨cs, e, h1, h2, h3, h4⟩ := r
  exact ⟨cs, e, hw.trans h1, h2, h3, fun j x hx => by obtain ⟨v, hv, hr⟩ := h4 j x hx; exact ⟨v, hv, (hr.up hφ).mono hS _ (Mp.le_refl _)⟩⟩

theorem OR.mono {S' : Fz} {φ' : Mp} {w' : World} {a : AO} {b z : Nat} (r : OR P mode S φ w b z a) (hS : ∀ b c, S b = some c → S' b = some c) (hφ : Mp.le φ φ')
    (hw : w'.heap[b]? = w.heap[b]?) : OR P mode S' φ' w' b z a := by
  cases a with
  | cells c sh => exact ORow.mono r hS hφ hw
  | ro c => exact ORow.mono r hS hφ hw
  | tomb => trivial
  | dfr => exact hw.trans r
  | loop st pend fid ts ps as bd d =>
    obtain ⟨l, h1, h2, h3, h4, h5, h6, h7, h8, z', h9⟩ := r
    exact ⟨l, hw.trans h1, h2, h3, h4, h5.mono hS hφ, h6, h7, h8, z', hφ _ _ h9⟩

/-- another world with the same heap -/
theorem HR.heap {w' : World} (H : HR P mode S φ B h w) (hw : w'.heap = w.heap) : HR P mode S φ B h w' :=
  ⟨by rw [hw]; exact H.bs, H.dom, fun o b z e => by rw [hw]; exact H.lt o b z e, fun b c hs => by rw [hw]; exact H.fro b c hs,
   fun o a ho => (H.obj o a ho).imp id fun ⟨b, z, h1, h2, h3⟩ => ⟨b, z, h1, h2, h3.mono (fun _ _ h => h) (Mp.le_refl _) (by rw [hw])⟩, H.inj⟩

theorem heap_old (w : World) (o : Obj) {i : Nat} (h : i < w.heap.size) : (w.alloc o).heap[i]? = w.heap[i]? := heap_alloc_old w o h
theorem heap_new (w : World) (o : Obj) : (w.alloc o).heap[w.heap.size]? = some o := heap_alloc_new w o

def Mp.set (φ : Mp) (o : Nat) (x : Nat × Nat) : Mp := fun q => if q = o then some x else φ q
theorem Mp.set_same (φ : Mp) (o : Nat) (x : Nat × Nat) : φ.set o x o = some x := by simp [Mp.set]
theorem Mp.set_other (φ : Mp) {o q : Nat} (x : Nat × Nat) (h : q ≠ o) : φ.set o x q = φ q := by simp [Mp.set, h]
theorem Mp.le_set {φ : Mp} {o : Nat} (x : Nat × Nat) (h : φ o = none) : Mp.le φ (φ.set o x) := fun q y hy => by
  by_cases e : q = o
  · subst e; rw [h] at hy; cases hy
  · rw [Mp.set_other φ x e]; exact hy

/-- where a new object comes to lie -/
structure PlOk (φ : Mp) (h : List AO) (pl : Option Nat) : Prop where
  ok : ∀ i, pl = some i → i < h.length ∧ φ i = none

theorem newObj'_len (pl : Option Nat) (h : List AO) (a : AO) : h.length ≤ (newObj' pl h a).length := by cases pl <;> simp [newObj']
theorem newObj'_get (pl : Option Nat) (h : List AO) (a : AO) (hp : PlOk φ h pl) : (newObj' pl h a)[pl.getD h.length]? = some a := by
  cases pl with
  | none => simp [newObj']
  | some i => have := (hp.ok i rfl).1; simp [newObj', this]
theorem newObj'_other (pl : Option Nat) (h : List AO) (a : AO) {o : Nat} (ho : o ≠ pl.getD h.length) : (newObj' pl h a)[o]? = h[o]? := by
  cases pl with
  | none =>
    simp only [Option.getD_none] at ho
    simp only [newObj']
    by_cases hl : o < h.length
    · rw [List.getElem?_append_left hl]
    · rw [List.getElem?_eq_none (by simp; omega), List.getElem?_eq_none (by omega)]
  | some i => simp only [Option.getD_some] at ho; simp [newObj', List.getElem?_set, Ne.symm ho]
theorem newAt_eq (pl : Option Nat) (h : List AO) (c : List AV) : newAt pl h c = newObj' pl h (.cells c false) := by cases pl <;> rfl

theorem pl_none {pl : Option Nat} (hd : ∀ o x, φ o = some x → o < h.length) (hp : PlOk φ h pl) : φ (pl.getD h.length) = none := by
  cases pl with
  | none =>
    cases e : φ h.length with
    | none => simpa using e
    | some x => have := hd _ _ e; omega
  | some i => exact (hp.ok i rfl).2

theorem pl_lt {pl : Option Nat} (hp : PlOk φ h pl) (a : AO) : pl.getD h.length < (newObj' pl h a).length := by
  cases pl with
  | none => simp [newObj']
  | some i => have := (hp.ok i rfl).1; simpa [newObj'] using this

/-- a new object in a new block -/
theorem HR.newObj {a : AO} (H : HR P mode S φ B h w) (pl : Option Nat) (hp : PlOk φ h pl) (o : Obj) (z lim : Nat)
    (hO : OR P mode S (φ.set (pl.getD h.length) (w.heap.size, z)) (w.alloc o) w.heap.size z a) :
    Post P mode S φ B lim h w pl S (φ.set (pl.getD h.length) (w.heap.size, z)) (newObj' pl h a) (w.alloc o) := by
  have hB := H.bs
  have hn := pl_none H.dom hp
  have hle := Mp.le_set (w.heap.size, z) hn
  have hsnone : S w.heap.size = none := by
    cases e : S w.heap.size with
    | none => rfl
    | some c => have := H.slt e; omega
  refine ⟨⟨by simp; omega, ?_, ?_, ?_, ?_, ?_⟩, hle, fun _ _ => rfl, ⟨rfl, rfl, rfl, by simp, fun b hb => heap_old w o (by have := H.bs; omega)⟩, newObj'_len _ _ _, ?_, ?_⟩
  · intro q x hx
    by_cases e : q = pl.getD h.length
    · subst e; exact pl_lt hp a
    · rw [Mp.set_other _ _ e] at hx; exact Nat.lt_of_lt_of_le (H.dom q x hx) (newObj'_len _ _ _)
  · intro q b z' hx
    by_cases e : q = pl.getD h.length
    · subst e; rw [Mp.set_same] at hx; cases hx; simp; exact hB
    · rw [Mp.set_other _ _ e] at hx; have := H.lt q b z' hx; simp; omega
  · intro b c hs
    obtain ⟨e, fr, he⟩ := H.fro b c hs
    exact ⟨e, fr, by rw [heap_old w o (H.slt hs)]; exact he⟩
  · intro q x hx
    by_cases e : q = pl.getD h.length
    · subst e; rw [newObj'_get _ _ _ hp] at hx; cases hx
      exact .inr ⟨_, _, Mp.set_same _ _ _, hsnone, hO⟩
    · rw [newObj'_other _ _ _ e] at hx
      refine (H.obj q x hx).imp id fun ⟨b, z', h1, h2, h3⟩ => ⟨b, z', by rw [Mp.set_other _ _ e]; exact h1, h2, h3.mono (fun _ _ h => h) hle (heap_old w o (H.lt q b z' h1).1)⟩
  · intro q q' x x' b z1 z2 hx hx' hb hb' hne
    by_cases e : q = pl.getD h.length
    · by_cases e' : q' = pl.getD h.length
      · exact absurd (e.trans e'.symm) hne
      · rw [e, Mp.set_same] at hb; cases hb
        rw [Mp.set_other _ _ e'] at hb'; have := (H.lt q' _ _ hb').1; omega
    · by_cases e' : q' = pl.getD h.length
      · rw [e', Mp.set_same] at hb'; cases hb'
        rw [Mp.set_other _ _ e] at hb; have := (H.lt q _ _ hb).1; omega
      · rw [newObj'_other _ _ _ e] at hx; rw [newObj'_other _ _ _ e'] at hx'
        rw [Mp.set_other _ _ e] at hb; rw [Mp.set_other _ _ e'] at hb'
        exact H.inj q q' x x' b z1 z2 hx hx' hb hb' hne
  · intro q _ hl hpq
    refine newObj'_other _ _ _ ?_
    cases pl with
    | none => simp; omega
    | some i => simp at hpq ⊢; exact hpq
  · intro q hl hpq hnn
    rw [Mp.set_other]
    · exact hnn
    · cases pl with
      | none => simp; omega
      | some i => simp at hpq ⊢; exact hpq

/-- an object that nothing but the heap names any more, or that is no longer written -/
theorem HR.weaken (H : HR P mode S φ B h w) {o : Nat} {a a' : AO} (ho : h[o]? = some a)
    (hor : ∀ b z, OR P mode S φ w b z a → OR P mode S φ w b z a') (hsh : ∀ x, mayShare a x → mayShare a' x) : HR P mode S φ B (h.set o a') w := by
  have hl := (List.getElem?_eq_some_iff.1 ho).1
  refine ⟨H.bs, fun q x hx => by simpa using H.dom q x hx, H.lt, H.fro, ?_, ?_⟩
  · intro q x hx
    by_cases e : q = o
    · subst e
      simp [hl] at hx; subst hx
      rcases H.obj q a ho with rfl | ⟨b, z, h1, h2, h3⟩
      · by_cases ht : a' = .tomb
        · exact .inl ht
        · exfalso
          have h0 := hsh (.cells [] false) (by simp [mayShare])
          have h1 := hsh (.loop .ready none 0 [] [] .skip .skip 0) (by simp [mayShare])
          cases a' <;> simp_all [mayShare]
      · exact .inr ⟨b, z, h1, h2, hor b z h3⟩
    · rw [List.getElem?_set_ne (Ne.symm e)] at hx; exact H.obj q x hx
  · intro q q' x x' b z z' hx hx' hb hb' hne
    by_cases e : q = o
    · subst e
      have e' : q' ≠ q := Ne.symm hne
      rw [List.getElem?_set_ne (Ne.symm e')] at hx'
      simp [hl] at hx; subst hx
      exact hsh x' (H.inj q q' a x' b z z' ho hx' hb hb' hne)
    · rw [List.getElem?_set_ne (Ne.symm e)] at hx
      by_cases e' : q' = o
      · subst e'
        simp [hl] at hx'; subst hx'
        exact mayShare_comm (hsh x (mayShare_comm (H.inj q q' x a b z z' hx ho hb hb' hne)))
      · rw [List.getElem?_set_ne (Ne.symm e')] at hx'
        exact H.inj q q' x x' b z z' hx hx' hb hb' hne

theorem HR.bury (H : HR P mode S φ B h w) {o : Nat} {a : AO} (ho : h[o]? = some a) : HR P mode S φ B (h.set o .tomb) w :=
  H.weaken ho (fun _ _ _ => trivial) (fun x _ => by cases x <;> trivial)

theorem HR.toRo (H : HR P mode S φ B h w) {o : Nat} {c : List AV} {sh : Bool} (ho : h[o]? = some (.cells c sh)) : HR P mode S φ B (h.set o (.ro c)) w :=
  H.weaken ho (fun _ _ h => h) (fun x hx => by cases x <;> simp_all [mayShare])

end Go.Am
