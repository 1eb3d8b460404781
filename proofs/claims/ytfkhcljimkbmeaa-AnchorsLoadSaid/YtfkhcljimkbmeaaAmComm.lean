/-
Exchanges of neighbours in a region.
-/
import Derived.Test.YtfkhcljimkbmeaaAmBubble
import Derived.Test.YtfkhcljimkbmeaaAmLen
namespace Go.Am
open Go
set_option linter.unusedVariables false
set_option linter.unusedSimpArgs false

variable {call : Callee} {lim base : Nat} {pl : Option Nat} {ts : List AV} {h : List AO}

theorem exMask_eq {ρ : Opd → AV} {op : AOp} {m : List Nat} : exMask call lim base pl ρ h op m = (exOp call lim pl ρ (hide base m h) op).map fun r => (r.1, unhide base h m r.2) := by
  cases m with
  | nil => simp only [exMask, hide, unhide]; cases exOp call lim pl ρ h op <;> simp
  | cons s m =>
    simp only [exMask]
    cases exOp call lim pl ρ (hide base (s :: m) h) op <;> simp

theorem pex_congr {ρ ρ' : Opd → AV} : ∀ {o : POp}, (∀ x ∈ o.opds, ρ x = ρ' x) → pex ρ o = pex ρ' o
  | .build z parts, hc => by
    have : parts.map (fun (o, s, x) => (o, s, ρ x)) = parts.map (fun (o, s, x) => (o, s, ρ' x)) := List.map_congr_left fun p hp => by
      obtain ⟨o, s, x⟩ := p
      simp only [Prod.mk.injEq, true_and]
      exact hc x (List.mem_map.2 ⟨_, hp, rfl⟩)
    simp only [pex, this]
  | .mkFn f a b, hc => by
    have h1 : a.map ρ = a.map ρ' := List.map_congr_left fun p hp => hc p (by simp [POp.opds, hp])
    have h2 : b.map ρ = b.map ρ' := List.map_congr_left fun p hp => hc p (by simp [POp.opds, hp])
    simp only [pex, h1, h2]
  | .minmax mx x xs, hc => by
    have h2 : xs.map ρ = xs.map ρ' := List.map_congr_left fun p hp => hc p (by simp [POp.opds, hp])
    have h1 := hc x (by simp [POp.opds])
    simp only [pex, h1, h2]
  | .slice a x lo hi, hc => by
    have h1 := hc x (by simp [POp.opds])
    have h2 : lo.map ρ = lo.map ρ' := by cases lo with | none => rfl | some l => simp [hc l (by simp [POp.opds])]
    have h3 : hi.map ρ = hi.map ρ' := by cases hi with | none => rfl | some l => simp [hc l (by simp [POp.opds])]
    simp only [pex, h1, h2, h3]
  | .move x, hc | .nilCheck x, hc | .un _ x, hc | .conv _ x, hc | .fieldAddr _ x, hc | .field _ _ _ x, hc | .extract x _, hc | .lenS x, hc | .capS x, hc => by
    have h1 := hc x (by simp [POp.opds])
    simp only [pex, h1]
  | .pick c a b, hc => by
    have h1 := hc c (by simp [POp.opds])
    have h2 := hc a (by simp [POp.opds])
    have h3 := hc b (by simp [POp.opds])
    simp only [pex, h1, h2, h3]
  | .bin _ x y, hc | .eqB _ x y, hc | .eqS _ _ x y, hc | .idxArr _ _ x y, hc | .idxSl _ x y, hc | .idx _ _ _ x y, hc => by
    have h1 := hc x (by simp [POp.opds])
    have h2 := hc y (by simp [POp.opds])
    simp only [pex, h1, h2]
  | .lenA _, hc => by simp only [pex]
  | .bad, hc => by simp only [pex]

theorem exOp_congr {ρ ρ' : Opd → AV} {op : AOp} (hc : ∀ x ∈ op.opds, ρ x = ρ' x) : exOp call lim pl ρ h op = exOp call lim pl ρ' h op := by
  cases op with
  | p o => simp only [exOp, pex_congr hc]
  | load a s x => have h1 := hc x (by simp [AOp.opds]); simp only [exOp, h1]
  | box x => have h1 := hc x (by simp [AOp.opds]); simp only [exOp, h1]
  | store s a x => have h1 := hc a (by simp [AOp.opds]); have h2 := hc x (by simp [AOp.opds]); simp only [exOp, h1, h2]
  | alloc z => rfl
  | buildSlice e l z parts =>
    have : parts.map (fun (i, x) => (i * e, e, ρ x)) = parts.map (fun (i, x) => (i * e, e, ρ' x)) := List.map_congr_left fun p hp => by
      obtain ⟨o, x⟩ := p
      simp only [Prod.mk.injEq, true_and]
      exact hc x (List.mem_map.2 ⟨_, hp, rfl⟩)
    simp only [exOp, this]
  | makeSlice e b z l c => have h1 := hc l (by simp [AOp.opds]); have h2 := hc c (by simp [AOp.opds]); simp only [exOp, h1, h2]
  | append k e b s x => have h1 := hc s (by simp [AOp.opds]); have h2 := hc x (by simp [AOp.opds]); simp only [exOp, h1, h2]
  | appendZ e b z s x => have h1 := hc s (by simp [AOp.opds]); have h2 := hc x (by simp [AOp.opds]); simp only [exOp, h1, h2]
  | call m f as =>
    have h1 : as.map ρ = as.map ρ' := List.map_congr_left fun p hp => hc p (by simp [AOp.opds, hp])
    simp only [exOp, h1]
  | callv q f as =>
    have h1 : as.map ρ = as.map ρ' := List.map_congr_left fun p hp => hc p (by simp [AOp.opds, hp])
    have h2 := hc f (by simp [AOp.opds])
    simp only [exOp, h1, h2]

theorem ev_set {t : Nat} {v : AV} {x : Opd} (hx : ∀ i ∈ x.tmps, i ≠ t) : Opd.ev (ts.set t v) x = Opd.ev ts x := by
  cases x with
  | c k => rfl
  | t i =>
    have := hx i (by simp [Opd.tmps])
    simp only [Opd.ev, List.getD_eq_getElem?_getD, List.getElem?_set_ne (Ne.symm this)]

/-- what no operand names is not looked at -/
theorem put_looks {o : AOper} {dst : Option Nat} {v : AV} (hd : ∀ d, dst = some d → d ∉ o.looks) :
    exOper call lim base (putT ts dst v) h o = exOper call lim base ts h o ∧ wanted (putT ts dst v) o.guard = wanted ts o.guard := by
  cases dst with
  | none => exact ⟨rfl, rfl⟩
  | some d =>
    have hn := hd d rfl
    have hev : ∀ x ∈ o.op.opds, Opd.ev (putT ts (some d) v) x = Opd.ev ts x := fun x hx => ev_set fun i hi e => by
      subst e; exact hn (by simp only [AOper.looks, List.mem_append, List.mem_flatMap]; exact .inl ⟨x, hx, hi⟩)
    refine ⟨?_, ?_⟩
    · unfold exOper
      split
      · rename_i s size a x hs hop
        have h1 := hev a (by simp [hop, AOp.opds])
        rw [h1]
        split
        · rw [exOp_congr (ρ := Opd.ev (putT ts (some d) v)) (ρ' := Opd.ev ts) (fun y hy => hev y (by rw [hop]; exact hy))]
        · rfl
      · rw [exMask_eq, exMask_eq, exOp_congr hev]
    · cases hg : o.guard with
      | none => rfl
      | some g =>
        obtain ⟨t, w⟩ := g
        have : t ≠ d := by intro e; subst e; exact hn (by simp [AOper.looks, hg])
        simp only [wanted, putT, List.getElem?_set_ne (Ne.symm this)]

/-! masks -/

theorem hide_set_in {m : List Nat} {s : Nat} {X : AO} (hs : s ∈ m) : hide base m (h.set (base + s) X) = hide base m h := by
  apply List.ext_getElem?
  intro q
  rw [hide_get, hide_get]
  simp only [List.length_set]
  by_cases hq : q < h.length ∧ ∃ s ∈ m, base + s = q
  · rw [if_pos hq, if_pos hq]
  · rw [if_neg hq, if_neg hq]
    by_cases e : base + s = q
    · have : ¬ q < h.length := fun hl => hq ⟨hl, s, hs, e⟩
      rw [List.getElem?_eq_none (by simp; omega), List.getElem?_eq_none (by omega)]
    · rw [List.getElem?_set_ne e]

theorem unhide_hide {m : List Nat} : unhide base h m (hide base m h) = h := by
  apply List.ext_getElem?
  intro q
  rw [unhide_get, hide_get, hide_len]
  by_cases hq : q < h.length ∧ ∃ s ∈ m, base + s = q
  · rw [if_pos hq, List.getD_eq_getElem?_getD, List.getElem?_eq_getElem hq.1]; rfl
  · rw [if_neg hq, if_neg hq]

theorem unhide_set_in {m : List Nat} {s : Nat} {X : AO} {g : List AO} (hs : s ∈ m) (hh : base + s < h.length) : unhide base (h.set (base + s) X) m g = (unhide base h m g).set (base + s) X := by
  apply List.ext_getElem?
  intro q
  rw [List.getElem?_set, unhide_get, unhide_get, unhide_len]
  by_cases e : base + s = q
  · subst e
    by_cases hl : base + s < g.length
    · rw [if_pos ⟨hl, s, hs, rfl⟩]; simp [hl, List.getD_eq_getElem?_getD, hh]
    · rw [if_neg (fun c => hl c.1)]; simp [hl]
  · rw [if_neg e, List.getD_eq_getElem?_getD, List.getElem?_set_ne e, ← List.getD_eq_getElem?_getD]

theorem unhide_set_out {m : List Nat} {s : Nat} {X : AO} {g : List AO} (hs : s ∉ m) : unhide base h m (g.set (base + s) X) = (unhide base h m g).set (base + s) X := by
  apply List.ext_getElem?
  intro q
  rw [List.getElem?_set, unhide_get, unhide_get, unhide_len]
  simp only [List.length_set]
  by_cases e : base + s = q
  · subst e
    have : ¬ ∃ s' ∈ m, base + s' = base + s := by
      rintro ⟨s', h1, h2⟩
      have e : s' = s := by omega
      rw [e] at h1
      exact hs h1
    rw [if_neg (fun c => this c.2)]
    simp [List.getElem?_set]
  · rw [if_neg e]
    split
    · rfl
    · rw [List.getElem?_set_ne e]

theorem unhide_at {m : List Nat} {s : Nat} {g : List AO} (hs : s ∈ m) (hh : base + s < h.length) (hg : base + s < g.length) : (unhide base h m g)[base + s]? = h[base + s]? := by
  rw [unhide_get, if_pos ⟨hg, s, hs, rfl⟩, List.getD_eq_getElem?_getD, List.getElem?_eq_getElem hh]; rfl

/-- it makes or writes the object of one place, and looks at nothing else of the heap -/
def IsLocal (o : AOper) (s : Nat) : Prop := o.slot = some s ∧ (o.op.cls = .a ∨ isStore o.op = true)

def fill (p : Nat) (h : List AO) (r : AV × AO) : AV × List AO := (r.1, h.set p r.2)

theorem made_form {op : AOp} (hc : op.cls = .a) (ρ : Opd → AV) (p : Nat) : ∃ c : Option (AV × AO), ∀ h, exOp call lim (some p) ρ h op = c.map (fill p h) := by
  cases op with
  | alloc z => exact ⟨some (.ptr p 0, .cells z false), fun h => by simp [exOp, newAt, fill]⟩
  | box x => exact ⟨some (.ptr p 0, .cells (ρ x).cells false), fun h => by simp [exOp, newAt, fill]⟩
  | buildSlice e l z parts =>
    refine ⟨(fillL (zeros l z) (parts.map fun (i, x) => (i * e, e, ρ x))).map fun c => (.ms e p 0 l, .cells c false), fun h => ?_⟩
    simp only [exOp, Option.map_map]
    rfl
  | makeSlice e b z l c =>
    refine ⟨match ρ l, ρ c with
      | .int _ l, .int _ c => if 0 ≤ l ∧ l ≤ c ∧ b * c ≤ 1099511627776 ∧ 1 ≤ b then some (.ms e p 0 l.toNat, .cells (zeros l.toNat z) false) else none
      | _, _ => none, fun h => ?_⟩
    simp only [exOp]
    split
    · rename_i k1 a1 k2 b1 e1 e2
      simp only [e1, e2]
      split <;> simp [newAt, fill]
    · rename_i hno
      split
      · rename_i e1 e2
        exact (hno _ _ _ _ e1 e2).elim
      · rfl
  | appendZ e b z s x =>
    refine ⟨match ρ s, ρ x with
      | .nils, .int .i64 n => if 1 ≤ n ∧ b * n ≤ 1099511627776 ∧ 1 ≤ b then some (.ms e p 0 n.toNat, .cells (zeros n.toNat z) false) else none
      | _, _ => none, fun h => ?_⟩
    simp only [exOp]
    split
    · rename_i n1 e1 e2
      simp only [e1, e2]
      split <;> simp [newAt, fill]
    · rename_i hno
      split
      · rename_i e1 e2
        exact (hno _ e1 e2).elim
      · rfl
  | call m f as => rcases m with _ | _ | _ | _ | m <;> simp [AOp.cls] at hc
  | p o => simp [AOp.cls] at hc
  | load _ _ _ => simp [AOp.cls] at hc
  | store _ _ _ => simp [AOp.cls] at hc
  | append _ _ _ _ _ => simp [AOp.cls] at hc
  | callv q _ _ => cases q <;> simp [AOp.cls] at hc

theorem masked_form {o : AOper} (hs : isStore o.op = true → o.slot = none) : exOper call lim base ts h o = exMask call lim base (o.slot.map (base + ·)) (Opd.ev ts) h o.op o.mask := by
  unfold exOper
  split
  · rename_i s size a x h1 h2
    have := hs (by rw [h2]; rfl)
    rw [h1] at this; cases this
  · rfl

theorem local_form {o : AOper} {s : Nat} (hl : IsLocal o s) (hm : s ∉ o.mask) : ∃ G : Option AO → Option (AV × AO), ∀ h : List AO, base + s < h.length → exOper call lim base ts h o = (G h[base + s]?).map (fill (base + s) h) := by
  obtain ⟨hs, hc⟩ := hl
  rcases hc with hc | hc
  · obtain ⟨c, hc'⟩ := made_form (call := call) (lim := lim) hc (Opd.ev ts) (base + s)
    refine ⟨fun _ => c, fun h hh => ?_⟩
    rw [masked_form (fun e => by cases hop : o.op <;> simp_all [isStore, AOp.cls]), hs, exMask_eq]
    simp only [Option.map_some, hc', Option.map_map]
    congr 1
    funext r
    simp only [Function.comp, fill, unhide_set_out hm, unhide_hide]
  · cases hop : o.op <;> simp [hop, isStore] at hc
    rename_i size a x
    refine ⟨fun y => match Opd.ev ts a with
      | .ptr p off => if p = base + s then (match y with
        | some (.cells c false) => if (Opd.ev ts x).cells.length = size ∧ off + size ≤ c.length ∧ (Opd.ev ts x).cells.all AV.scalar ∧ lim ≤ p then some (.undef, .cells (splice c off (Opd.ev ts x).cells) false) else none
        | _ => none) else none
      | _ => none, fun h hh => ?_⟩
    simp only [exOper, hs, hop]
    cases hev : Opd.ev ts a <;> simp only [Option.map_none]
    rename_i p off
    split
    · rename_i e
      subst e
      simp only [exOp, hev]
      split
      · split
        · rename_i c hc hcond
          simp only [hc]; rw [if_pos hcond]; rfl
        · rename_i c hc hcond
          simp only [hc]; rw [if_neg hcond]; rfl
      · rename_i hno
        split
        · rename_i c he; exact absurd he (hno c)
        · rfl
    · rfl

/-- X before Y answers as Y before X does -/
def Swaps (X Y : List AO → Option (AV × List AO)) (h : List AO) : Prop :=
  ∀ v h1 u h2, X h = some (v, h1) → Y h1 = some (u, h2) → ∃ h1', Y h = some (u, h1') ∧ X h1' = some (v, h2)

def MaskOk (base : Nat) (o : AOper) (h : List AO) : Prop := ∀ s ∈ o.mask, base + s < h.length ∧ o.makes base ≠ some (base + s)

theorem makes_eq {o : AOper} (hs : isStore o.op = true → o.slot = none) : o.makes base = o.slot.map (base + ·) := by
  unfold AOper.makes AOper.made
  split
  · rename_i s a b c h1 h2
    have := hs (by rw [h2]; rfl)
    rw [h1] at this; cases this
  · rfl

theorem masked_get (hfr : FrameOk call) {o : AOper} (hs : isStore o.op = true → o.slot = none) (hm : MaskOk base o h) {v : AV} {h' : List AO} (hx : exOper call lim base ts h o = some (v, h')) :
    ∃ g, exOp call lim (o.slot.map (base + ·)) (Opd.ev ts) (hide base o.mask h) o.op = some (v, g) ∧ h' = unhide base h o.mask g ∧ ∀ s ∈ o.mask, base + s < g.length := by
  rw [masked_form hs, exMask_eq] at hx
  cases hg : exOp call lim (o.slot.map (base + ·)) (Opd.ev ts) (hide base o.mask h) o.op with
  | none => rw [hg] at hx; cases hx
  | some r =>
    obtain ⟨v', g⟩ := r
    rw [hg] at hx
    simp only [Option.map_some, Option.some.injEq, Prod.mk.injEq] at hx
    obtain ⟨rfl, rfl⟩ := hx
    refine ⟨g, rfl, rfl, (exMask_open hfr o.mask (fun s hs' => ?_) hg).2⟩
    obtain ⟨k1, k2⟩ := hm s hs'
    rw [makes_eq hs] at k2
    exact ⟨k1, k2⟩

theorem local_get {o : AOper} {s : Nat} (hl : IsLocal o s) (hm : s ∉ o.mask) (hh : base + s < h.length) {v : AV} {h' : List AO} (hx : exOper call lim base ts h o = some (v, h')) :
    ∃ X, h' = h.set (base + s) X ∧ ∀ g : List AO, base + s < g.length → g[base + s]? = h[base + s]? → exOper call lim base ts g o = some (v, g.set (base + s) X) := by
  obtain ⟨G, hG⟩ := local_form (call := call) (lim := lim) (base := base) (ts := ts) hl hm
  rw [hG h hh] at hx
  cases hg : G h[base + s]? with
  | none => rw [hg] at hx; cases hx
  | some r =>
    rw [hg] at hx
    simp only [Option.map_some, Option.some.injEq] at hx
    have e1 : r.1 = v := congrArg Prod.fst hx
    have e2 : h.set (base + s) r.2 = h' := congrArg Prod.snd hx
    refine ⟨r.2, e2.symm, fun g hg1 hg2 => ?_⟩
    rw [hG g hg1, hg2, hg, Option.map_some, fill, e1]

theorem swap_ll {x y : AOper} {s t : Nat} (hx : IsLocal x s) (hy : IsLocal y t) (hne : s ≠ t) (mx : s ∉ x.mask) (my : t ∉ y.mask) (hs : base + s < h.length) (ht : base + t < h.length) :
    Swaps (fun h => exOper call lim base ts h x) (fun h => exOper call lim base ts h y) h := by
  intro v h1 u h2 k1 k2
  obtain ⟨X, rfl, gx⟩ := local_get hx mx hs k1
  obtain ⟨Y, rfl, gy⟩ := local_get hy my (by simpa using ht) k2
  refine ⟨h.set (base + t) Y, gy h ht (by rw [List.getElem?_set_ne (by omega)]), ?_⟩
  have := gx (h.set (base + t) Y) (by simpa using hs) (by rw [List.getElem?_set_ne (by omega)])
  rw [List.set_comm _ _ (by omega : base + s ≠ base + t)]
  exact this

theorem swap_lm (hfr : FrameOk call) {x y : AOper} {s : Nat} (hx : IsLocal x s) (mx : s ∉ x.mask) (hs : base + s < h.length) (hy : isStore y.op = true → y.slot = none) (my : MaskOk base y h) (hm : s ∈ y.mask) :
    Swaps (fun h => exOper call lim base ts h x) (fun h => exOper call lim base ts h y) h := by
  intro v h1 u h2 k1 k2
  obtain ⟨X, rfl, gx⟩ := local_get hx mx hs k1
  obtain ⟨g, g1, g2, g3⟩ := masked_get hfr hy (fun q hq => ⟨by simpa using (my q hq).1, (my q hq).2⟩) k2
  rw [hide_set_in hm] at g1
  rw [unhide_set_in hm hs] at g2
  refine ⟨unhide base h y.mask g, ?_, ?_⟩
  · show exOper call lim base ts h y = _
    rw [masked_form hy, exMask_eq, g1]; rfl
  · rw [g2]
    exact gx _ (by rw [unhide_len]; exact g3 s hm) (unhide_at hm hs (g3 s hm))

theorem swap_ml (hfr : FrameOk call) {x y : AOper} {s : Nat} (hx : IsLocal x s) (mx : s ∉ x.mask) (hs : base + s < h.length) (hy : isStore y.op = true → y.slot = none) (my : MaskOk base y h) (hm : s ∈ y.mask) :
    Swaps (fun h => exOper call lim base ts h y) (fun h => exOper call lim base ts h x) h := by
  intro u h1 v h2 k1 k2
  obtain ⟨g, g1, rfl, g3⟩ := masked_get hfr hy my k1
  obtain ⟨X, rfl, gx⟩ := local_get hx mx (by rw [unhide_len]; exact g3 s hm) k2
  refine ⟨h.set (base + s) X, gx h hs (unhide_at hm hs (g3 s hm)).symm, ?_⟩
  show exOper call lim base ts _ y = _
  rw [masked_form hy, exMask_eq, hide_set_in hm, g1, Option.map_some, unhide_set_in hm hs]

/-! what looks at its operands alone -/

theorem pure_form {o : AOper} (hc : o.op.cls = .p) : ∃ c : Option AV, ∀ h, exOper call lim base ts h o = c.map fun v => (v, h) := by
  cases hop : o.op <;> rw [hop] at hc <;> try (simp [AOp.cls] at hc; done)
  · rename_i q
    refine ⟨pex (Opd.ev ts) q, fun h => ?_⟩
    rw [masked_form (by rw [hop]; simp [isStore]), exMask_eq, hop]
    simp only [exOp, Option.map_map]
    congr 1
    funext v
    simp only [Function.comp, unhide_hide]
  · rename_i m f as
    rcases m with _ | _ | _ | _ | m <;> simp [AOp.cls] at hc
  · rename_i q f as
    cases q <;> simp [AOp.cls] at hc

theorem swap_p {x y : AOper} (hc : x.op.cls = .p ∨ y.op.cls = .p) : Swaps (fun h => exOper call lim base ts h x) (fun h => exOper call lim base ts h y) h := by
  intro v h1 u h2 k1 k2
  rcases hc with hc | hc
  · obtain ⟨c, hx⟩ := pure_form (call := call) (lim := lim) (base := base) (ts := ts) hc
    simp only [hx] at k1 ⊢
    cases c with
    | none => cases k1
    | some w => simp at k1; obtain ⟨rfl, rfl⟩ := k1; exact ⟨h2, k2, rfl⟩
  · obtain ⟨c, hx⟩ := pure_form (call := call) (lim := lim) (base := base) (ts := ts) hc
    simp only [hx] at k2 ⊢
    cases c with
    | none => cases k2
    | some w => simp at k2; obtain ⟨rfl, rfl⟩ := k2; exact ⟨h, rfl, k1⟩

/-! what reads -/

theorem reads_heap {op : AOp} (hc : op.cls = .r ∨ op.cls = .q) {ρ : Opd → AV} {v : AV} {h' : List AO} (hx : exOp call lim pl ρ h op = some (v, h')) : h' = h := by
  cases op with
  | load a s x =>
    simp only [exOp] at hx
    split at hx
    · split at hx
      · simp only [Option.map_eq_some_iff] at hx; obtain ⟨_, _, e⟩ := hx; cases e; rfl
      · cases hx
    · simp only [Option.map_eq_some_iff] at hx; obtain ⟨_, _, e⟩ := hx; cases e; rfl
    · cases hx
  | call m f as =>
    rcases m with _ | _ | _ | _ | m <;> simp [AOp.cls] at hc
    · simp only [exOp] at hx
      split at hx
      · split at hx
        · simp only [Option.map_eq_some_iff] at hx; obtain ⟨_, _, e⟩ := hx; cases e; rfl
        · cases hx
      · cases hx
    · simp only [exOp] at hx
      split at hx
      · split at hx
        · cases hx; rfl
        · cases hx
      · cases hx
  | p o => simp [AOp.cls] at hc
  | box _ => simp [AOp.cls] at hc
  | alloc _ => simp [AOp.cls] at hc
  | store _ _ _ => simp [AOp.cls] at hc
  | buildSlice _ _ _ _ => simp [AOp.cls] at hc
  | makeSlice _ _ _ _ _ => simp [AOp.cls] at hc
  | append _ _ _ _ _ => simp [AOp.cls] at hc
  | appendZ _ _ _ _ _ => simp [AOp.cls] at hc
  | callv q f as =>
    cases q
    · simp [AOp.cls] at hc
    · simp only [exOp, if_true] at hx
      split at hx
      · split at hx
        · split at hx
          · cases hx; rfl
          · cases hx
        · cases hx
      · cases hx
      · cases hx

theorem read_heap {o : AOper} (hc : o.op.cls = .r ∨ o.op.cls = .q) {v : AV} {h' : List AO} (hx : exOper call lim base ts h o = some (v, h')) : h' = h := by
  have hs : isStore o.op = true → o.slot = none := fun e => by cases hop : o.op <;> simp_all [isStore, AOp.cls]
  rw [masked_form hs, exMask_eq] at hx
  simp only [Option.map_eq_some_iff] at hx
  obtain ⟨⟨w, g⟩, h1, h2⟩ := hx
  cases h2
  simp only
  rw [reads_heap hc h1, unhide_hide]

theorem swap_rr {x y : AOper} (hx : x.op.cls = .r ∨ x.op.cls = .q) (hy : y.op.cls = .r ∨ y.op.cls = .q) : Swaps (fun h => exOper call lim base ts h x) (fun h => exOper call lim base ts h y) h := by
  intro v h1 u h2 k1 k2
  obtain rfl := read_heap hx k1
  obtain rfl := read_heap hy k2
  exact ⟨_, k2, k1⟩

/-! what reads, where the rows are the same -/

def Rows (h h' : List AO) : Prop := ∀ o c, rowAt h o = some c → rowAt h' o = some c

theorem Rows.rowOf {h h' : List AO} (hr : Rows h h') {x : AV} {c : List AV} (ho : rowOf h x = some c) : rowOf h' x = some c := by
  cases x with
  | ms e o off len =>
    simp only [Go.Am.rowOf] at ho ⊢
    cases hc : rowAt h o with
    | none => rw [hc] at ho; cases ho
    | some c' => rw [hc] at ho; rw [hr _ _ hc]; exact ho
  | _ => simp only [Go.Am.rowOf] at ho ⊢; exact ho

theorem Rows.view {h h' : List AO} (hr : Rows h h') {st : Bool} : ∀ (n : Nat) (a a' : AV), view st h n a = some a' → view st h' n a = some a' := by
  intro n
  induction n with
  | zero => intro a a' ha; cases a <;> (simp only [Go.Am.view] at ha ⊢; exact ha)
  | succ n ih =>
    intro a a' ha
    have lists : ∀ (l l' : List AV), l.mapM (Go.Am.view st h n) = some l' → l.mapM (Go.Am.view st h' n) = some l' := by
      intro l
      induction l with
      | nil => intro l' hl; simpa using hl
      | cons x l ihl =>
        intro l' hl
        simp only [List.mapM_cons, Option.bind_eq_bind, Option.bind_eq_some_iff, Option.pure_def, Option.some.injEq] at hl ⊢
        obtain ⟨y, hy, r, hr, rfl⟩ := hl
        exact ⟨y, ih _ _ hy, r, ihl _ hr, rfl⟩
    cases a with
    | agg c =>
      simp only [Go.Am.view, Option.map_eq_some_iff] at ha ⊢
      obtain ⟨l, hl, rfl⟩ := ha
      exact ⟨l, lists _ _ hl, rfl⟩
    | tup c =>
      simp only [Go.Am.view, Option.map_eq_some_iff] at ha ⊢
      obtain ⟨l, hl, rfl⟩ := ha
      exact ⟨l, lists _ _ hl, rfl⟩
    | ms e o off len =>
      simp only [Go.Am.view] at ha ⊢
      split at ha
      · rename_i x hx
        rw [hr.rowOf hx]
        simp only [Option.map_eq_some_iff] at ha ⊢
        obtain ⟨l, hl, rfl⟩ := ha
        exact ⟨l, lists _ _ hl, rfl⟩
      · cases ha
    | _ => simp only [Go.Am.view] at ha ⊢; exact ha

theorem Rows.views {h h' : List AO} (hr : Rows h h') {st : Bool} {n : Nat} : ∀ (l l' : List AV), l.mapM (Go.Am.view st h n) = some l' → l.mapM (Go.Am.view st h' n) = some l'
  | [], l', hl => by simpa using hl
  | x :: l, l', hl => by
    simp only [List.mapM_cons, Option.bind_eq_bind, Option.bind_eq_some_iff, Option.pure_def, Option.some.injEq] at hl ⊢
    obtain ⟨y, hy, r, hr', rfl⟩ := hl
    exact ⟨y, hr.view _ _ _ hy, r, Rows.views hr l r hr', rfl⟩

theorem reads_mono {op : AOp} (hc : op.cls = .r) {h h' : List AO} (hr : Rows h h') {ρ : Opd → AV} {v : AV} {g : List AO} (hx : exOp call lim pl ρ h op = some (v, g)) : exOp call lim pl ρ h' op = some (v, h') := by
  cases op with
  | load a s x =>
    simp only [exOp] at hx ⊢
    cases hρ : ρ x <;> rw [hρ] at hx <;> simp only at hx ⊢ <;> try (cases hx; done)
    · rename_i o off
      cases hc' : rowAt h o with
      | none => rw [hc'] at hx; cases hx
      | some c =>
        rw [hc'] at hx; rw [hr _ _ hc']
        simp only [Option.map_eq_some_iff] at hx ⊢
        obtain ⟨w, hw, e⟩ := hx
        cases e
        exact ⟨_, hw, rfl⟩
    · simp only [Option.map_eq_some_iff] at hx ⊢
      obtain ⟨w, hw, e⟩ := hx
      cases e
      exact ⟨_, hw, rfl⟩
  | call m f as =>
    rcases m with _ | _ | _ | _ | m <;> simp [AOp.cls] at hc
    simp only [exOp] at hx ⊢
    cases hv : (as.map ρ).mapM (view false h 8) with
    | none => rw [hv] at hx; cases hx
    | some vs =>
      rw [hv] at hx; rw [hr.views _ _ hv]
      simp only at hx ⊢
      cases hcl : call (.fn f) vs [] 0 with
      | none => rw [hcl] at hx; cases hx
      | some q =>
        rw [hcl] at hx
        simp only [Option.map_eq_some_iff] at hx ⊢
        obtain ⟨w, hw, e⟩ := hx
        cases e
        exact ⟨_, hw, rfl⟩
  | p o => simp [AOp.cls] at hc
  | box _ => simp [AOp.cls] at hc
  | alloc _ => simp [AOp.cls] at hc
  | store _ _ _ => simp [AOp.cls] at hc
  | buildSlice _ _ _ _ => simp [AOp.cls] at hc
  | makeSlice _ _ _ _ _ => simp [AOp.cls] at hc
  | append _ _ _ _ _ => simp [AOp.cls] at hc
  | appendZ _ _ _ _ _ => simp [AOp.cls] at hc
  | callv q _ _ => cases q <;> simp [AOp.cls] at hc

theorem tomb_row {h : List AO} {q : Nat} (hq : h[q]? = some .tomb) : rowAt h q = none := by simp [rowAt, hq, AO.row?]

theorem rowAt_congr {h h' : List AO} {q q' : Nat} (hq : h[q]? = h'[q']?) : rowAt h q = rowAt h' q' := by simp [rowAt, hq]

theorem read_mono {o : AOper} (hc : o.op.cls = .r) {h h' : List AO} (hr : ∀ q c, (¬ ∃ s ∈ o.mask, base + s = q) → rowAt h q = some c → rowAt h' q = some c) {v : AV} {g : List AO} (hx : exOper call lim base ts h o = some (v, g)) : exOper call lim base ts h' o = some (v, h') := by
  have hs : isStore o.op = true → o.slot = none := fun e => by cases hop : o.op <;> simp_all [isStore, AOp.cls]
  rw [masked_form hs, exMask_eq] at hx ⊢
  simp only [Option.map_eq_some_iff] at hx ⊢
  obtain ⟨⟨w, g'⟩, h1, h2⟩ := hx
  cases h2
  refine ⟨(w, hide base o.mask h'), reads_mono hc ?_ h1, by simp only [unhide_hide]⟩
  intro q c hq
  by_cases hh : q < h.length ∧ ∃ s ∈ o.mask, base + s = q
  · rw [tomb_row (by rw [hide_get, if_pos hh])] at hq; cases hq
  · rw [rowAt_congr (h' := h) (q' := q) (by rw [hide_get, if_neg hh])] at hq
    have hl : q < h.length := by
      apply Classical.byContradiction
      intro hn
      simp [rowAt, List.getElem?_eq_none (Nat.le_of_not_lt hn)] at hq
    have hno : ¬ ∃ s ∈ o.mask, base + s = q := fun c => hh ⟨hl, c⟩
    rw [rowAt_congr (h' := h') (q' := q) (by rw [hide_get, if_neg (fun c => hno c.2)])]
    exact hr q c hno hq

theorem append_form {esz eb : Nat} {s x : Opd} {p : Nat} {ρ : Opd → AV} {h g : List AO} {v : AV} (hx : exOp call lim (some p) ρ h (.append true esz eb s x) = some (v, g)) : g.length = h.length ∧ ∀ q, q ≠ p → rowAt g q = rowAt h q := by
  simp only [exOp] at hx
  split at hx
  case h_2 => cases hx
  split at hx
  case isFalse => cases hx
  split at hx
  · cases hx; exact ⟨rfl, fun _ _ => rfl⟩
  split at hx
  case isFalse => cases hx
  split at hx
  · cases hx
    exact ⟨by simp [newAt], fun q hq => rowAt_congr (by simp only [newAt]; rw [List.getElem?_set_ne (Ne.symm hq)])⟩
  · split at hx
    · rename_i c sh ho
      split at hx
      · cases hx
        refine ⟨by simp [newObj'], fun q hq => ?_⟩
        simp only [newObj', Option.getD_some, if_true]
        rename_i o _ _ _ _ _
        by_cases e : q = o
        · subst e
          have hl := (List.getElem?_eq_some_iff.1 ho).1
          simp only [rowAt]
          rw [List.getElem?_set_ne (Ne.symm hq), List.getElem?_set_self hl, ho]
          rfl
        · exact rowAt_congr (by rw [List.getElem?_set_ne (Ne.symm hq), List.getElem?_set_ne (Ne.symm e)])
      · cases hx
    · cases hx
  · cases hx

theorem append_rows {o : AOper} {esz eb : Nat} {a b : Opd} (hop : o.op = .append true esz eb a b) {s : Nat} (hs : o.slot = some s) {v : AV} {g : List AO} (hx : exOper call lim base ts h o = some (v, g)) : ∀ q, q ≠ base + s → rowAt g q = rowAt h q := by
  have hst : isStore o.op = true → o.slot = none := fun e => by rw [hop] at e; simp [isStore] at e
  rw [masked_form hst, exMask_eq, hop, hs] at hx
  simp only [Option.map_eq_some_iff, Option.map_some] at hx
  obtain ⟨⟨w, g'⟩, h1, h2⟩ := hx
  cases h2
  obtain ⟨k1, k2⟩ := append_form h1
  rw [hide_len] at k1
  intro q hq
  by_cases hh : q < h.length ∧ ∃ s ∈ o.mask, base + s = q
  · refine rowAt_congr ?_
    simp only
    rw [unhide_get, if_pos ⟨by rw [k1]; exact hh.1, hh.2⟩, List.getD_eq_getElem?_getD, List.getElem?_eq_getElem hh.1]; rfl
  · have e1 : rowAt (unhide base h o.mask g') q = rowAt g' q := rowAt_congr (by rw [unhide_get, if_neg (by rw [k1]; exact hh)])
    have e2 : rowAt (hide base o.mask h) q = rowAt h q := rowAt_congr (by rw [hide_get, if_neg hh])
    rw [e1, k2 q hq, e2]

theorem swap_xr {x y : AOper} {esz eb : Nat} {a b : Opd} (hop : x.op = .append true esz eb a b) {s : Nat} (hs : x.slot = some s) (hy : y.op.cls = .r) (hm : s ∈ y.mask) : Swaps (fun h => exOper call lim base ts h x) (fun h => exOper call lim base ts h y) h := by
  intro v h1 u h2 k1 k2
  obtain rfl := read_heap (.inl hy) k2
  refine ⟨h, read_mono hy (fun q c hq hc => ?_) k2, k1⟩
  rw [← append_rows hop hs k1 q (fun e => hq ⟨s, hm, e.symm⟩)]; exact hc

theorem swap_rx {x y : AOper} {esz eb : Nat} {a b : Opd} (hop : y.op = .append true esz eb a b) {s : Nat} (hs : y.slot = some s) (hx : x.op.cls = .r) (hm : s ∈ x.mask) : Swaps (fun h => exOper call lim base ts h x) (fun h => exOper call lim base ts h y) h := by
  intro v h1 u h2 k1 k2
  obtain rfl := read_heap (.inl hx) k1
  refine ⟨h2, k2, read_mono hx (fun q c hq hc => ?_) k1⟩
  rw [append_rows hop hs k2 q (fun e => hq ⟨s, hm, e.symm⟩)]; exact hc

theorem swap_rk {x y : AOper} (hx : x.op.cls = .r) (hy : y.op.cls = .k) (hs : y.slot = none) : Swaps (fun h => exOper call lim base ts h x) (fun h => exOper call lim base ts h y) h := by
  intro v h1 u h2 k1 k2
  obtain rfl := read_heap (.inl hx) k1
  refine ⟨h2, k2, read_mono hx (fun q c hq hc => ?_) k1⟩
  have hold : ∀ q, q < h1.length → h2[q]? = h1[q]? := by
    intro q hq
    simp only at k2
    rw [masked_form (fun _ => hs), exMask_eq, hs] at k2
    simp only [Option.map_eq_some_iff, Option.map_none] at k2
    obtain ⟨⟨w, g⟩, e1, e2⟩ := k2
    cases e2
    have : ∃ new, g = hide base y.mask h1 ++ new := by
      cases hop : y.op <;> rw [hop] at hy <;> try (simp [AOp.cls] at hy; done)
      case callv q _ _ => cases q <;> simp [AOp.cls] at hy
      rename_i m f as
      rcases m with _ | _ | _ | _ | m <;> simp [AOp.cls] at hy
      rw [hop] at e1
      simp only [exOp] at e1
      split at e1
      · split at e1
        · cases e1; exact ⟨_, rfl⟩
        · cases e1
      · cases e1
    obtain ⟨new, rfl⟩ := this
    simp only
    rw [unhide_get]
    split
    · rw [List.getD_eq_getElem?_getD, List.getElem?_eq_getElem hq]; rfl
    · rename_i hn
      rw [List.getElem?_append_left (by rw [hide_len]; exact hq), hide_get, if_neg]
      intro hh
      exact hn ⟨by simp [hide_len]; omega, hh.2⟩
  have hl : q < h1.length := by
    apply Classical.byContradiction
    intro hn
    simp [rowAt, List.getElem?_eq_none (Nat.le_of_not_lt hn)] at hc
  rw [rowAt_congr (hold q hl)]; exact hc

end Go.Am
