/-
Regions of open order: each order answers as the order of the text does.
-/
import Derived.Test.YtfkhcljimkbmeaaAmComm
namespace Go.Am
open Go
set_option linter.unusedVariables false
set_option linter.unusedSimpArgs false

variable {P : Program} {call : Callee} {lim base : Nat} {ts : List AV} {h : List AO}

/-! what is drawn is what was compiled -/

def Same (a d : AOper) : Prop := d.dst = a.dst ∧ d.guard = a.guard ∧ d.op.kept = a.op.kept

theorem kept_kept (o : AOp) : o.kept.kept = o.kept := by cases o <;> rfl

theorem slotsOf_get {as : List AOper} {i : Nat} {d : AOper} (hd : (slotsOf as)[i]? = some d) : ∃ a, as[i]? = some a ∧ Same a d := by
  unfold slotsOf at hd
  simp only [List.getElem?_map, List.getElem?_zipIdx, Option.map_map, Option.map_eq_some_iff, Function.comp] at hd
  obtain ⟨a, ha, e⟩ := hd
  refine ⟨a, ha, ?_⟩
  split at e
  · split at e
    · subst e; exact ⟨rfl, rfl, rfl⟩
    · subst e; exact ⟨rfl, rfl, rfl⟩
  · split at e
    · subst e; exact ⟨rfl, rfl, kept_kept _⟩
    · subst e; exact ⟨rfl, rfl, rfl⟩

theorem masksOf_get {cl : List (List Nat)} {as : List AOper} {i : Nat} {d : AOper} (hd : (masksOf cl as)[i]? = some d) : ∃ a, as[i]? = some a ∧ Same a d := by
  unfold masksOf at hd
  simp only [List.getElem?_map, List.getElem?_zipIdx, Option.map_map, Option.map_eq_some_iff, Function.comp] at hd
  obtain ⟨a, ha, e⟩ := hd
  refine ⟨a, ha, ?_⟩
  split at e <;> (subst e; exact ⟨rfl, rfl, rfl⟩)

theorem relaxOf_get {cl : List (List Nat)} {as : List AOper} {i : Nat} {d : AOper} (hd : (relaxOf cl as)[i]? = some d) : ∃ a, as[i]? = some a ∧ Same a d := by
  unfold relaxOf at hd
  simp only [List.getElem?_map, List.getElem?_zipIdx, Option.map_map, Option.map_eq_some_iff, Function.comp] at hd
  obtain ⟨a, ha, e⟩ := hd
  refine ⟨a, ha, ?_⟩
  split at e
  · rename_i hop
    split at e
    · subst e; exact ⟨rfl, rfl, by simp only [hop, AOp.kept]⟩
    · subst e; exact ⟨rfl, rfl, rfl⟩
  · subst e; exact ⟨rfl, rfl, rfl⟩

theorem drawn_get {ops : List Oper} {as : List AOper} {i : Nat} {d : AOper} (hd : (drawn ops as)[i]? = some d) : ∃ a, as[i]? = some a ∧ Same a d := by
  obtain ⟨a, ha, e1, e2, e3⟩ := relaxOf_get hd
  obtain ⟨b, hb, f1, f2, f3⟩ := masksOf_get ha
  obtain ⟨c, hc, g1, g2, g3⟩ := slotsOf_get hb
  exact ⟨c, hc, e1.trans (f1.trans g1), e2.trans (f2.trans g2), e3.trans (f3.trans g3)⟩

theorem drawn_len (ops : List Oper) (as : List AOper) : (drawn ops as).length = as.length := by simp [drawn, relaxOf, masksOf, slotsOf]

/-! neighbours -/

structure ShapeOk (base : Nat) (h : List AO) (o : AOper) : Prop where
  out : ∀ s, o.slot = some s → s ∉ o.mask
  lt : ∀ s, o.slot = some s → base + s < h.length
  kind : ∀ s, o.slot = some s → o.op.cls = .a ∨ o.op.cls = .x ∨ isStore o.op = true

theorem x_noStore {o : AOper} (hc : o.op.cls = .x) : isStore o.op = true → o.slot = none := fun e => by cases hop : o.op <;> simp_all [isStore, AOp.cls]

theorem x_append {op : AOp} (hc : op.cls = .x) (hk : op.keeps = true) : ∃ esz eb a b, op = .append true esz eb a b := by
  cases op with
  | append k e b s x => simp only [AOp.keeps] at hk; subst hk; exact ⟨_, _, _, _, rfl⟩
  | call m f as => rcases m with _ | _ | _ | _ | m <;> simp [AOp.cls] at hc
  | p o => simp [AOp.cls] at hc
  | load _ _ _ => simp [AOp.cls] at hc
  | store _ _ _ => simp [AOp.cls] at hc
  | alloc _ => simp [AOp.cls] at hc
  | box _ => simp [AOp.cls] at hc
  | buildSlice _ _ _ _ => simp [AOp.cls] at hc
  | makeSlice _ _ _ _ _ => simp [AOp.cls] at hc
  | appendZ _ _ _ _ _ => simp [AOp.cls] at hc
  | callv q _ _ => cases q <;> simp [AOp.cls] at hc

theorem ShapeOk.loc {o : AOper} (sh : ShapeOk base h o) {s : Nat} (hs : o.slot = some s) (hx : o.op.cls ≠ .x) : IsLocal o s := by
  refine ⟨hs, ?_⟩
  rcases sh.kind s hs with k | k | k
  · exact .inl k
  · exact absurd k hx
  · exact .inr k

theorem swap_heap (hfr : FrameOk call) {x y : AOper} (sx : ShapeOk base h x) (sy : ShapeOk base h y) (mx : MaskOk base x h) (my : MaskOk base y h) (hsw : swapOk x y = true) :
    Swaps (fun h => exOper call lim base ts h x) (fun h => exOper call lim base ts h y) h := by
  simp only [swapOk, Bool.and_eq_true, Bool.or_eq_true] at hsw
  obtain ⟨_, c3⟩ := hsw
  by_cases hp : x.op.cls = .p ∨ y.op.cls = .p
  · exact swap_p hp
  have c4 := c3.resolve_left (fun e => hp (by rcases e with e | e <;> simp at e <;> simp [e]))
  cases hxs : x.slot with
  | some s =>
    cases hys : y.slot with
    | some t =>
      rw [hxs, hys] at c4
      simp only [Bool.and_eq_true, Bool.or_eq_true, bne_iff_ne, ne_eq, List.contains_eq_mem, decide_eq_true_eq] at c4
      obtain ⟨⟨h1, h2⟩, h3⟩ := c4
      by_cases hxx : x.op.cls = .x
      · obtain ⟨h4, h5⟩ := h2.resolve_left (fun c => c hxx)
        exact swap_ml hfr (sy.loc hys h4) (sy.out t hys) (sy.lt t hys) (x_noStore hxx) mx h5
      · by_cases hyx : y.op.cls = .x
        · exact swap_lm hfr (sx.loc hxs hxx) (sx.out s hxs) (sx.lt s hxs) (x_noStore hyx) my (h3.resolve_left (fun c => c hyx))
        · exact swap_ll (sx.loc hxs hxx) (sy.loc hys hyx) h1 (sx.out s hxs) (sy.out t hys) (sx.lt s hxs) (sy.lt t hys)
    | none =>
      rw [hxs, hys] at c4
      simp only [Bool.and_eq_true, Bool.or_eq_true, bne_iff_ne, ne_eq, beq_iff_eq, List.contains_eq_mem, decide_eq_true_eq] at c4
      obtain ⟨h1, h2⟩ := c4
      by_cases hxx : x.op.cls = .x
      · obtain ⟨h3, h4⟩ := h2.resolve_left (fun c => c hxx)
        obtain ⟨esz, eb, a, b, hop⟩ := x_append hxx h4
        exact swap_xr hop hxs h3 h1
      · exact swap_lm hfr (sx.loc hxs hxx) (sx.out s hxs) (sx.lt s hxs) (fun _ => hys) my h1
  | none =>
    cases hys : y.slot with
    | some t =>
      rw [hxs, hys] at c4
      simp only [Bool.and_eq_true, Bool.or_eq_true, bne_iff_ne, ne_eq, beq_iff_eq, List.contains_eq_mem, decide_eq_true_eq] at c4
      obtain ⟨h1, h2⟩ := c4
      by_cases hyx : y.op.cls = .x
      · obtain ⟨h3, h4⟩ := h2.resolve_left (fun c => c hyx)
        obtain ⟨esz, eb, a, b, hop⟩ := x_append hyx h4
        exact swap_rx hop hys h3 h1
      · exact swap_ml hfr (sy.loc hys hyx) (sy.out t hys) (sy.lt t hys) (fun _ => hxs) mx h1
    | none =>
      rw [hxs, hys] at c4
      simp only [Bool.and_eq_true, Bool.or_eq_true, beq_iff_eq] at c4
      rcases c4 with ⟨h1, h2⟩ | ⟨h1, h2⟩
      · exact swap_rr h1 h2
      · exact swap_rk h1 h2 hys

/-- an operation with its guard -/
def exG (call : Callee) (lim base : Nat) (ts : List AV) (h : List AO) (o : AOper) : Option (AV × List AO) :=
  if wanted ts o.guard then exOper call lim base ts h o else some (.undef, h)

theorem stepOp_eq {o : AOper} : stepOp call lim base o ts h = (exG call lim base ts h o).map fun r => (putT ts o.dst r.1, r.2) := by
  unfold stepOp exG
  split
  · cases exOper call lim base ts h o <;> rfl
  · rfl

theorem swap_exG {x y : AOper} (hs : Swaps (fun h => exOper call lim base ts h x) (fun h => exOper call lim base ts h y) h) : Swaps (fun h => exG call lim base ts h x) (fun h => exG call lim base ts h y) h := by
  intro v h1 u h2 k1 k2
  simp only [exG] at k1 k2 ⊢
  by_cases hx : wanted ts x.guard = true
  · by_cases hy : wanted ts y.guard = true
    · simp only [hx, hy, if_true] at k1 k2 ⊢; exact hs v h1 u h2 k1 k2
    · simp only [hx, hy, if_true] at k1 k2 ⊢
      cases k2; exact ⟨_, rfl, k1⟩
  · simp only [hx] at k1 k2 ⊢
    cases k1; exact ⟨_, k2, rfl⟩

theorem exG_put {o : AOper} {dst : Option Nat} {v : AV} (hd : ∀ d, dst = some d → d ∉ o.looks) : exG call lim base (putT ts dst v) h o = exG call lim base ts h o := by
  obtain ⟨e1, e2⟩ := put_looks (call := call) (lim := lim) (base := base) (ts := ts) (h := h) (v := v) hd
  simp only [exG, e1, e2]

theorem swap_step {x y : AOper} (hs : Swaps (fun h => exOper call lim base ts h x) (fun h => exOper call lim base ts h y) h) (hsw : swapOk x y = true) {s1 s2 : List AV × List AO}
    (k1 : stepOp call lim base x ts h = some s1) (k2 : stepOp call lim base y s1.1 s1.2 = some s2) : ∃ s1', stepOp call lim base y ts h = some s1' ∧ stepOp call lim base x s1'.1 s1'.2 = some s2 := by
  simp only [swapOk, Bool.and_eq_true] at hsw
  obtain ⟨⟨c1, c2⟩, _⟩ := hsw
  have d1 : ∀ d, x.dst = some d → d ∉ y.looks := fun d e => by rw [e] at c1; simp at c1; exact c1.1
  have d2 : ∀ d, y.dst = some d → d ∉ x.looks := fun d e => by rw [e] at c2; simp at c2; exact c2
  have d3 : ∀ d, x.dst = some d → y.dst ≠ some d := fun d e => by rw [e] at c1; simp at c1; exact c1.2
  rw [stepOp_eq] at k1 k2
  simp only [Option.map_eq_some_iff] at k1 k2
  obtain ⟨⟨v, h1⟩, k1, rfl⟩ := k1
  obtain ⟨⟨u, h2⟩, k2, rfl⟩ := k2
  simp only at k2
  rw [exG_put d1] at k2
  obtain ⟨h1', j1, j2⟩ := swap_exG hs v h1 u h2 k1 k2
  refine ⟨(putT ts y.dst u, h1'), by rw [stepOp_eq]; simp only at j1; rw [j1]; rfl, ?_⟩
  rw [stepOp_eq]
  simp only
  rw [exG_put d2]
  simp only at j2
  rw [j2]
  simp only [Option.map_some, Option.some.injEq, Prod.mk.injEq, and_true]
  cases hx : x.dst with
  | none => rfl
  | some d =>
    cases hy : y.dst with
    | none => rfl
    | some d' =>
      have : d ≠ d' := fun e => d3 d hx (by rw [hy, e])
      exact (List.set_comm _ _ this).symm

def stepAt (call : Callee) (lim base : Nat) (as : List AOper) (i : Nat) (s : List AV × List AO) : Option (List AV × List AO) :=
  match as[i]? with
  | some o => stepOp call lim base o s.1 s.2
  | none => some s

theorem evIx_runL {as : List AOper} : ∀ (L : List Nat) (ts : List AV) (h : List AO), evIx call lim base as L ts h = runL (stepAt call lim base as) L (ts, h)
  | [], ts, h => rfl
  | i :: L, ts, h => by
    simp only [evIx, runL, stepAt]
    cases as[i]? with
    | none => exact evIx_runL L ts h
    | some o =>
      simp only
      cases stepOp call lim base o ts h with
      | none => rfl
      | some s => exact evIx_runL L s.1 s.2

theorem drawOk (m : Nat → Nat) (hfr : FrameOk call) (hlen : LenOk call) : DrawOk P m call := by
  intro ops l hl hok hso
  obtain ⟨hll, hops⟩ := cOpers_spec _ _ hl
  have hll' : l.length = ops.size := by simpa using hll
  refine ⟨by rw [drawn_len, hll'], fun i o ao ho hao => ?_, ?_⟩
  · obtain ⟨a, ha, e1, e2, e3⟩ := drawn_get hao
    obtain ⟨⟨g1, g2, g3⟩, _⟩ := hops i o a (by simpa using ho) ha
    exact ⟨e1.trans g1, by rw [e2]; exact g2, by rw [e3]; exact g3⟩
  intro lim base ts h ts' h' hb htomb hx t
  obtain ⟨as, has⟩ : ∃ as, as = drawn ops.toList l := ⟨_, rfl⟩
  rw [← has] at hok hso hx ⊢
  obtain ⟨k, hk⟩ : ∃ k, k = slotCount l := ⟨_, rfl⟩
  rw [← hk] at hso hb htomb
  have hal : as.length = ops.size := by rw [has, drawn_len, hll']
  simp only [okDraw, Bool.and_eq_true, List.all_eq_true] at hok
  obtain ⟨⟨heb, hsh⟩, hall⟩ := hok
  have hfit := slotsFit_of (base := base) hso
  have hmem : ∀ (i : Nat) o, as[i]? = some o → (o, i) ∈ as.zipIdx := fun i o hi => by rw [List.mem_zipIdx_iff_getElem?]; exact hi
  have shape : ∀ (i : Nat) o, as[i]? = some o → ∀ g : List AO, base + k ≤ g.length → ShapeOk base g o ∧ MaskOk base o g := by
    intro i o hi g hg
    unfold shapeOk at hsh
    rw [List.all_eq_true] at hsh
    have hs := hsh o (List.mem_of_getElem? hi)
    have hs' : ∀ s, o.slot = some s → (s ∉ o.mask ∧ (o.op.cls = .a ∨ o.op.cls = .x ∨ isStore o.op = true)) ∧ s < k := by
      intro s e
      rw [e] at hs
      simp only [Bool.and_eq_true, Bool.not_eq_true', Bool.or_eq_true, beq_iff_eq, List.any_eq_true, List.contains_eq_mem, decide_eq_false_iff_not] at hs
      obtain ⟨⟨g1, g2⟩, x, hxm, hxe⟩ := hs
      refine ⟨⟨g1, by rcases g2 with (g2 | g2) | g2 <;> simp [g2]⟩, ?_⟩
      obtain ⟨j, hj⟩ := List.getElem?_of_mem hxm
      have := (hfit.lt j x (base + s) hj (by simp [AOper.makes, hxe])).2
      omega
    exact ⟨⟨fun s e => (hs' s e).1.1, fun s e => by have := (hs' s e).2; omega, fun s e => (hs' s e).1.2⟩, fun s hsm => ⟨by have := (hfit.mask i o hi s hsm).1; omega, (hfit.mask i o hi s hsm).2⟩⟩
  refine ⟨(linearise_ok heb t).1, ?_⟩
  have hrange : evIx call lim base as (List.range ops.size) ts h = some (ts', h') := by
    have := evIx_range (call := call) (lim := lim) (base := base) as [] as ts h rfl
    simp only [List.length_nil, Nat.zero_add, List.map_id'] at this
    rw [← hal, this]; exact hx
  rw [evIx_runL] at hrange ⊢
  refine runL_sorted (Inv := fun _ s => base + k ≤ s.2.length) (ok := fun b a => b ∉ (closure ops.toList).getD a []) ?_ (fun _ _ _ _ h => h) ?_ _ (List.range ops.size) _ _ ?_ List.pairwise_lt_range (linearise_perm heb t) (by simp only; omega) hrange
  · intro a L s s' hi hst
    unfold stepAt at hst
    split at hst
    · exact Nat.le_trans hi (stepOp_len hlen hst)
    · cases hst; exact hi
  · intro b a L s s1 s2 hi hlt hno k1 k2
    unfold stepAt at k1 k2 ⊢
    cases hbx : as[b]? with
    | none => rw [hbx] at k1; cases k1; exact ⟨s2, k2, rfl⟩
    | some x =>
      rw [hbx] at k1
      cases hay : as[a]? with
      | none => rw [hay] at k2; cases k2; exact ⟨s, rfl, k1⟩
      | some y =>
        rw [hay] at k2
        simp only at k1 k2 ⊢
        have hsw : swapOk x y = true := by
          have := hall (x, b) (hmem b x hbx) (y, a) (hmem a y hay)
          simp only [Bool.or_eq_true, Bool.not_eq_true', decide_eq_false_iff_not, List.contains_eq_mem, decide_eq_true_eq] at this
          rcases this with (h1 | h1) | h1
          · exact absurd hlt h1
          · exact absurd h1 hno
          · exact h1
        obtain ⟨sx, mx⟩ := shape b x hbx s.2 hi
        obtain ⟨sy, my⟩ := shape a y hay s.2 hi
        exact swap_step (swap_heap hfr sx sy mx my hsw) hsw k1 k2
  · refine List.Pairwise.imp ?_ (linearise_pairwise heb t)
    intro a b hh _
    exact hh

end Go.Am
