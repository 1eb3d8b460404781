/-
What the abstract machine never came to it never looked at: an object that is not there may be anything.
-/
import Derived.Test.YtfkhcljimkbmeaaAmComp
namespace Go.Am
open Go
set_option linter.unusedVariables false
set_option linter.unusedSimpArgs false

def FrameOk (call : Callee) : Prop := ∀ t args h lim r h', call t args h lim = some (r, h') → ∀ (s : Nat) X, h[s]? = some .tomb → call t args (h.set s X) lim = some (r, h'.set s X) ∧ h'[s]? = some .tomb

theorem get_set {h : List AO} {s o : Nat} {X a : AO} (hs : h[s]? = some .tomb) (ho : h[o]? = some a) (ha : a ≠ .tomb) : (h.set s X)[o]? = some a := by
  have : s ≠ o := by intro e; subst e; rw [hs] at ho; cases ho; exact ha rfl
  rw [List.getElem?_set_ne this]; exact ho

theorem row_set {h : List AO} {s o : Nat} {X : AO} {c : List AV} (hs : h[s]? = some .tomb) (ho : rowAt h o = some c) : rowAt (h.set s X) o = some c := by
  unfold rowAt at ho ⊢
  simp only [Option.bind_eq_some_iff] at ho ⊢
  obtain ⟨a, ha, hc⟩ := ho
  exact ⟨a, get_set hs ha (by intro e; subst e; simp [AO.row?] at hc), hc⟩

theorem rowOf_set {h : List AO} {s : Nat} {X : AO} {x : AV} {c : List AV} (hs : h[s]? = some .tomb) (ho : rowOf h x = some c) : rowOf (h.set s X) x = some c := by
  cases x with
  | ms e o off len =>
    simp only [rowOf] at ho ⊢
    cases hc : rowAt h o with
    | none => rw [hc] at ho; cases ho
    | some c' => rw [hc] at ho; rw [row_set hs hc]; exact ho
  | _ => simp only [rowOf] at ho ⊢; exact ho

theorem view_set {h : List AO} {s : Nat} {X : AO} (hs : h[s]? = some .tomb) {st : Bool} : ∀ (n : Nat) (a a' : AV), view st h n a = some a' → view st (h.set s X) n a = some a' := by
  intro n
  induction n with
  | zero => intro a a' ha; cases a <;> (simp only [view] at ha ⊢; exact ha)
  | succ n ih =>
    intro a a' ha
    have lists : ∀ (l l' : List AV), l.mapM (view st h n) = some l' → l.mapM (view st (h.set s X) n) = some l' := by
      intro l
      induction l with
      | nil => intro l' hl; simpa using hl
      | cons x l ihl =>
        intro l' hl
        simp only [List.mapM_cons, Option.bind_eq_bind, Option.bind_eq_some_iff, Option.pure_def, Option.some.injEq] at hl ⊢
        obtain ⟨y, hy, r, hr, rfl⟩ := hl
        exact ⟨y, ih _ _ hy, r, ihl _ hr, rfl⟩
    cases a with
    | agg c =>
      simp only [view, Option.map_eq_some_iff] at ha ⊢
      obtain ⟨l, hl, rfl⟩ := ha
      exact ⟨l, lists _ _ hl, rfl⟩
    | tup c =>
      simp only [view, Option.map_eq_some_iff] at ha ⊢
      obtain ⟨l, hl, rfl⟩ := ha
      exact ⟨l, lists _ _ hl, rfl⟩
    | ms e o off len =>
      simp only [view] at ha ⊢
      split at ha
      · rename_i x hx
        rw [rowOf_set hs hx]
        simp only [Option.map_eq_some_iff] at ha ⊢
        obtain ⟨l, hl, rfl⟩ := ha
        exact ⟨l, lists _ _ hl, rfl⟩
      · cases ha
    | _ => simp only [view] at ha ⊢; exact ha

theorem views_set {h : List AO} {s : Nat} {X : AO} (hs : h[s]? = some .tomb) {st : Bool} {n : Nat} : ∀ (l l' : List AV), l.mapM (view st h n) = some l' → l.mapM (view st (h.set s X) n) = some l'
  | [], l', hl => by simpa using hl
  | x :: l, l', hl => by
    simp only [List.mapM_cons, Option.bind_eq_bind, Option.bind_eq_some_iff, Option.pure_def, Option.some.injEq] at hl ⊢
    obtain ⟨y, hy, r, hr, rfl⟩ := hl
    exact ⟨y, view_set hs _ _ _ hy, r, views_set hs l r hr, rfl⟩

theorem set_comm' {h : List AO} {s i : Nat} {X Y : AO} (h' : s ≠ i) : (h.set s X).set i Y = (h.set i Y).set s X := (List.set_comm X Y h')

theorem newObj'_set {h : List AO} {s : Nat} {X a : AO} (pl : Option Nat) (hs : h[s]? = some .tomb) (hp : pl ≠ some s) : newObj' pl (h.set s X) a = (newObj' pl h a).set s X ∧ (newObj' pl h a)[s]? = some .tomb := by
  have hl := (List.getElem?_eq_some_iff.1 hs).1
  cases pl with
  | none =>
    simp only [newObj']
    rw [List.set_append_left _ _ hl, List.getElem?_append_left hl]
    exact ⟨rfl, hs⟩
  | some i =>
    have : s ≠ i := by intro e; subst e; exact hp rfl
    simp only [newObj']
    exact ⟨set_comm' this, by rw [List.getElem?_set_ne (Ne.symm this)]; exact hs⟩

theorem newAt_set {h : List AO} {s : Nat} {X : AO} {c : List AV} (pl : Option Nat) (hs : h[s]? = some .tomb) (hp : pl ≠ some s) : newAt pl (h.set s X) c = (newAt pl h c).set s X ∧ (newAt pl h c)[s]? = some .tomb := by
  have h1 : ∀ h, newAt pl h c = newObj' pl h (.cells c false) := fun h => by cases pl <;> rfl
  rw [h1, h1]; exact newObj'_set pl hs hp

theorem exOp_frame {call : Callee} (hcall : FrameOk call) {lim : Nat} {pl : Option Nat} {ρ : Opd → AV} {h : List AO} {op : AOp} {v : AV} {h' : List AO} (hx : exOp call lim pl ρ h op = some (v, h')) {s : Nat} (X : AO) (hs : h[s]? = some .tomb) (hp : pl ≠ some s) :
    exOp call lim pl ρ (h.set s X) op = some (v, h'.set s X) ∧ h'[s]? = some .tomb := by
  have hl := (List.getElem?_eq_some_iff.1 hs).1
  have hlen : (h.set s X).length = h.length := by simp
  cases op with
  | p o =>
    simp only [exOp, Option.map_eq_some_iff, Prod.mk.injEq] at hx ⊢
    obtain ⟨u, hu, rfl, rfl⟩ := hx
    exact ⟨⟨u, hu, rfl, rfl⟩, hs⟩
  | load ag size a =>
    simp only [exOp] at hx ⊢
    split at hx
    · rename_i o off ho
      try simp only [ho]
      split at hx
      · rename_i c hc
        simp only [Option.map_eq_some_iff, Prod.mk.injEq] at hx
        obtain ⟨u, hu, rfl, rfl⟩ := hx
        rw [row_set hs hc]
        exact ⟨by simp [hu], hs⟩
      · cases hx
    · rename_i c ho
      try simp only [ho]
      simp only [Option.map_eq_some_iff, Prod.mk.injEq] at hx ⊢
      obtain ⟨u, hu, rfl, rfl⟩ := hx
      exact ⟨⟨u, hu, rfl, rfl⟩, hs⟩
    · cases hx
  | store size a x =>
    simp only [exOp] at hx ⊢
    split at hx
    · rename_i o off ho
      try simp only [ho]
      split at hx
      · rename_i c hc
        rw [get_set hs hc (by simp)]
        simp only
        split at hx
        · rename_i hcc
          cases hx
          rw [if_pos hcc]
          have : s ≠ o := by intro e; subst e; rw [hs] at hc; cases hc
          rw [set_comm' this]
          exact ⟨rfl, by rw [List.getElem?_set_ne (Ne.symm this)]; exact hs⟩
        · cases hx
      · cases hx
    · cases hx
  | alloc z =>
    simp only [exOp] at hx ⊢
    cases hx
    rw [hlen, (newAt_set (X := X) pl hs hp).1]; exact ⟨rfl, (newAt_set (X := X) pl hs hp).2⟩
  | box x =>
    simp only [exOp] at hx ⊢
    cases hx
    rw [hlen, (newAt_set (X := X) pl hs hp).1]; exact ⟨rfl, (newAt_set (X := X) pl hs hp).2⟩
  | buildSlice e n z ps =>
    simp only [exOp, Option.map_eq_some_iff, Prod.mk.injEq] at hx ⊢
    obtain ⟨c, hc, rfl, rfl⟩ := hx
    exact ⟨⟨c, hc, by rw [hlen], (newAt_set (X := X) pl hs hp).1⟩, (newAt_set (X := X) pl hs hp).2⟩
  | makeSlice e eb z l c =>
    simp only [exOp] at hx ⊢
    split at hx
    · rename_i k1 n1 k2 n2 h1 h2
      try simp only [h1, h2]
      split at hx
      · rename_i hcc
        cases hx
        rw [if_pos hcc, hlen, (newAt_set (X := X) pl hs hp).1]; exact ⟨rfl, (newAt_set (X := X) pl hs hp).2⟩
      · cases hx
    · cases hx
  | append keep e eb a x =>
    simp only [exOp] at hx ⊢
    split at hx
    · rename_i sl n xs h1 h2 h3
      simp only [h1, h2, rowOf_set hs h3]
      split at hx
      · rename_i hxl
        rw [if_pos hxl]
        split at hx
        · rename_i hn
          cases hx
          rw [if_pos hn]; exact ⟨rfl, hs⟩
        · rename_i hn
          rw [if_neg hn]
          split at hx
          · rename_i hcc
            rw [if_pos hcc]
            split at hx
            · rename_i h4
              try simp only [h4]
              cases hx
              rw [hlen, (newAt_set (X := X) pl hs hp).1]; exact ⟨rfl, (newAt_set (X := X) pl hs hp).2⟩
            · rename_i e' o off len h4
              try simp only [h4]
              split at hx
              · rename_i c sh hc
                rw [get_set hs hc (by simp)]
                simp only
                split at hx
                · rename_i hc2
                  cases hx
                  rw [if_pos hc2, hlen]
                  have : s ≠ o := by intro e; subst e; rw [hs] at hc; cases hc
                  rw [set_comm' this]
                  have hs2 : (h.set o (if keep then AO.ro c else .tomb))[s]? = some .tomb := by rw [List.getElem?_set_ne (Ne.symm this)]; exact hs
                  have := newObj'_set (X := X) (a := AO.cells (c.take (len * e) ++ xs) ((keep && len != 0) || sh)) pl hs2 hp
                  rw [this.1]; exact ⟨rfl, this.2⟩
                · cases hx
              · cases hx
            · cases hx
          · cases hx
      · cases hx
    · cases hx
  | appendZ e eb z a x =>
    simp only [exOp] at hx ⊢
    split at hx
    · rename_i n h1 h2
      try simp only [h1, h2]
      split at hx
      · rename_i hcc
        cases hx
        rw [if_pos hcc, hlen, (newAt_set (X := X) pl hs hp).1]; exact ⟨rfl, (newAt_set (X := X) pl hs hp).2⟩
      · cases hx
    · cases hx
  | call mode f as =>
    simp only [exOp] at hx ⊢
    split at hx
    · obtain ⟨g1, g2⟩ := hcall _ _ _ _ _ _ hx s X hs
      exact ⟨g1, g2⟩
    · split at hx
      · rename_i vs hvs
        have hvs' := views_set (X := X) hs _ _ hvs
        rw [hvs']
        simp only
        split at hx
        · rename_i r0 h0 hc0
          simp only [Option.map_eq_some_iff, Prod.mk.injEq] at hx
          obtain ⟨r1, hr1, rfl, rfl⟩ := hx
          exact ⟨by simp [hr1], hs⟩
        · cases hx
      · cases hx
    · split at hx
      · rename_i hp1
        rw [if_pos hp1]
        split at hx
        · rename_i r0 h0 hc0
          cases hx
          rw [hlen]
          exact ⟨by rw [List.set_append_left _ _ hl], by rw [List.getElem?_append_left hl]; exact hs⟩
        · cases hx
      · cases hx
    · split at hx
      · rename_i r0 h0 hc0
        split at hx
        · rename_i hu
          cases hx
          obtain ⟨g1, g2⟩ := hcall _ _ _ _ _ _ hc0 s X hs
          rw [hlen, g1]
          exact ⟨by simp [hu], hs⟩
        · cases hx
      · cases hx
  | callv q f as =>
    simp only [exOp] at hx ⊢
    split at hx
    · rename_i g a b h1
      try simp only [h1]
      cases q
      · exact hcall _ _ _ _ _ _ hx s X hs
      · simp only [if_true] at hx ⊢
        split at hx
        · rename_i r0 h0 hc0
          split at hx
          · rename_i hu
            cases hx
            obtain ⟨g1, g2⟩ := hcall _ _ _ _ _ _ hc0 s X hs
            rw [hlen, g1]
            exact ⟨by simp [hu], hs⟩
          · cases hx
        · cases hx
    · rename_i o h1
      try simp only [h1]
      cases q
      · exact hcall _ _ _ _ _ _ hx s X hs
      · simp at hx
    · cases hx

theorem hide_len (base : Nat) : ∀ (m : List Nat) (h : List AO), (hide base m h).length = h.length
  | [], h => rfl
  | s :: r, h => by simp [hide, hide_len base r h]

theorem hide_get (base : Nat) : ∀ (m : List Nat) (h : List AO) (q : Nat), (hide base m h)[q]? = if q < h.length ∧ (∃ s ∈ m, base + s = q) then some .tomb else h[q]?
  | [], h, q => by simp [hide]
  | s :: r, h, q => by
    simp only [hide, List.getElem?_set, hide_len, hide_get base r h q]
    by_cases e : base + s = q
    · subst e
      by_cases hq : base + s < h.length
      · simp [hq]
      · simp [hq]
    · simp [e]

theorem unhide_len (base : Nat) (h : List AO) : ∀ (m : List Nat) (g : List AO), (unhide base h m g).length = g.length
  | [], g => rfl
  | s :: r, g => by simp [unhide, unhide_len base h r g]

theorem unhide_get (base : Nat) (h : List AO) : ∀ (m : List Nat) (g : List AO) (q : Nat), (unhide base h m g)[q]? = if q < g.length ∧ (∃ s ∈ m, base + s = q) then some (h.getD q .tomb) else g[q]?
  | [], g, q => by simp [unhide]
  | s :: r, g, q => by
    simp only [unhide, List.getElem?_set, unhide_len, unhide_get base h r g q]
    by_cases e : base + s = q
    · subst e
      by_cases hq : base + s < g.length
      · simp [hq]
      · simp [hq]
    · simp [e]

/-- with what was hidden laid open the same is answered -/
theorem exMask_open {call : Callee} (hcall : FrameOk call) {lim base : Nat} {pl : Option Nat} {ρ : Opd → AV} {h : List AO} {op : AOp} : ∀ (m : List Nat) {v : AV} {h' : List AO}, (∀ s ∈ m, base + s < h.length ∧ pl ≠ some (base + s)) →
    exOp call lim pl ρ (hide base m h) op = some (v, h') → exOp call lim pl ρ h op = some (v, unhide base h m h') ∧ ∀ s ∈ m, base + s < h'.length
  | [], v, h', _, hx => ⟨hx, fun s hs => by cases hs⟩
  | s :: r, v, h', hm, hx => by
    have hp := hm s (by simp)
    have htomb : (hide base (s :: r) h)[base + s]? = some .tomb := by rw [hide_get, if_pos ⟨hp.1, s, by simp, rfl⟩]
    obtain ⟨X, hX⟩ : ∃ X, (hide base r h)[base + s]? = some X := ⟨_, List.getElem?_eq_getElem (by rw [hide_len]; exact hp.1)⟩
    obtain ⟨g1, g2⟩ := exOp_frame hcall hx X htomb hp.2
    have hl' : base + s < h'.length := (List.getElem?_eq_some_iff.1 g2).1
    have e1 : (hide base (s :: r) h).set (base + s) X = hide base r h := by
      apply List.ext_getElem?
      intro q
      simp only [hide, List.set_set]
      by_cases e : base + s = q
      · subst e; rw [List.getElem?_set_self (by rw [hide_len]; exact hp.1), hX]
      · rw [List.getElem?_set_ne e]
    rw [e1] at g1
    obtain ⟨k1, k2⟩ := exMask_open hcall r (fun t ht => hm t (by simp [ht])) g1
    refine ⟨?_, fun t ht => ?_⟩
    · rw [k1]
      congr 2
      apply List.ext_getElem?
      intro q
      rw [unhide_get, unhide_get]
      simp only [List.length_set, List.mem_cons, exists_eq_or_imp]
      by_cases e : base + s = q
      · subst e
        simp only [hl', true_or, and_self, if_true]
        by_cases hr : ∃ t ∈ r, base + t = base + s
        · obtain ⟨t, ht, e⟩ := hr
          have : t = s := by omega
          subst this; simp [ht]
        · simp only [hr, if_false]
          rw [List.getElem?_set_self hl']
          rw [hide_get] at hX
          rw [if_neg (by intro hh; exact hr hh.2)] at hX
          simp [hX]
      · simp only [e, false_or]
        rw [List.getElem?_set_ne e]
    · rcases List.mem_cons.1 ht with rfl | ht
      · exact hl'
      · have := k2 t ht; simpa using this

end Go.Am
