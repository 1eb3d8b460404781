/-
All truths of a net, as the specification lists them.
-/
import Derived.Test.YtpflneddfhifkaaSn
namespace Go.Proofs.Ytpflneddfhifkaa.S
open Go Go.Am Go.Proofs.Ytpflneddfhifkaa.T
set_option maxRecDepth 100000
set_option linter.unusedSimpArgs false
set_option linter.unusedVariables false

/-! what is in a span, and all lists of grips that begin with some -/
def vals (s : Spn) : List Int := (List.range (s.hi - s.lo + 1).toNat).map fun (i : Nat) => s.lo + (i : Int)
theorem mem_vals {s : Spn} {x : Int} : x ∈ vals s ↔ s.lo ≤ x ∧ x ≤ s.hi := by
  simp only [vals, List.mem_map, List.mem_range]
  constructor
  · rintro ⟨i, hi, rfl⟩; omega
  · intro h; exact ⟨(x - s.lo).toNat, by omega, by omega⟩
theorem vals_len {s : Spn} : (vals s).length = (s.hi - s.lo + 1).toNat := by simp [vals]
def exts (n : Net) : Nat → List Int → List (List Int)
  | 0, F => [F]
  | d + 1, F => (vals (n.grips.getD F.length default)).flatMap fun x => exts n d (F ++ [x])
theorem exts_len {n : Net} (hv : n.valid = true) : ∀ {d : Nat} {F : List Int}, F.length + d = n.grips.length → (exts n d F).length ≤ 10 ^ d ∧ exts n d F ≠ []
  | 0, F, h => by simp [exts]
  | d + 1, F, h => by
    have g := (netB hv).g _ (getD_mem (l := n.grips) (i := F.length) (by omega))
    have ih := fun x => exts_len hv (d := d) (F := F ++ [x]) (by simp; omega)
    have hl : (vals (n.grips.getD F.length default)).length ≤ 10 := by rw [vals_len]; omega
    rw [exts]
    constructor
    · have : ∀ l : List Int, (l.flatMap fun x => exts n d (F ++ [x])).length ≤ l.length * 10 ^ d := by
        intro l
        induction l with
        | nil => simp
        | cons a l il =>
          have := (ih a).1
          simp only [List.flatMap_cons, List.length_append, List.length_cons, Nat.succ_mul]; omega
      have h1 := this (vals (n.grips.getD F.length default))
      have h2 := Nat.mul_le_mul_right (10 ^ d) hl
      have e : 10 ^ (d + 1) = 10 * 10 ^ d := by rw [Nat.pow_succ, Nat.mul_comm]
      omega
    · intro e
      rw [List.flatMap_eq_nil_iff] at e
      exact (ih (n.grips.getD F.length default).lo).2 (e _ (mem_vals.2 (by omega)))
theorem mem_exts {n : Net} : ∀ {d : Nat} {F G : List Int}, G ∈ exts n d F ↔ ∃ T, G = F ++ T ∧ T.length = d ∧ ∀ i, i < d → (n.grips.getD (F.length + i) default).lo ≤ T.getD i default ∧ T.getD i default ≤ (n.grips.getD (F.length + i) default).hi
  | 0, F, G => by
    simp only [exts, List.mem_singleton]
    constructor
    · rintro rfl; exact ⟨[], by simp, rfl, fun i hi => by omega⟩
    · rintro ⟨T, rfl, h, _⟩; rw [List.eq_nil_of_length_eq_zero h, List.append_nil]
  | d + 1, F, G => by
    simp only [exts, List.mem_flatMap]
    constructor
    · rintro ⟨x, hx, h⟩
      obtain ⟨T, rfl, h1, h2⟩ := mem_exts.1 h
      refine ⟨x :: T, by simp, by simp [h1], fun i hi => ?_⟩
      cases i with
      | zero => simpa using mem_vals.1 hx
      | succ i =>
        have := h2 i (by omega)
        simp only [List.length_append, List.length_singleton, Nat.add_assoc, Nat.add_comm 1 i] at this
        simpa using this
    · rintro ⟨T, rfl, h1, h2⟩
      match T, h1 with
      | x :: T, h1 =>
        refine ⟨x, mem_vals.2 (by simpa using h2 0 (by omega)), mem_exts.2 ⟨T, by simp, by simpa using h1, fun i hi => ?_⟩⟩
        have := h2 (i + 1) (by omega)
        simp only [List.length_append, List.length_singleton, Nat.add_assoc, Nat.add_comm 1 i]
        simpa using this

/-! a list of lists that is being made -/
def OutLL (b : Nat) (h : List AO) (v : AV) (L : List (List Int)) : Prop := (L = [] ∧ v = .nils) ∨ (L ≠ [] ∧ ∃ o vs, b ≤ o ∧ v = .ms 1 o 0 L.length ∧ h[o]? = some (.cells vs false) ∧ vs.length = L.length ∧ ∀ i, i < L.length → RdS h (vs.getD i .undef) (L.getD i []))
theorem OutLL.fr {b : Nat} {h h' : List AO} {v : AV} {L : List (List Int)} (H : OutLL b h v L) (F : Fr h h') : OutLL b h' v L := by
  rcases H with h1 | ⟨hne, o, vs, ho, rfl, hc, hl, hr⟩
  · exact .inl h1
  · exact .inr ⟨hne, o, vs, ho, rfl, F.at hc, hl, fun i hi => (hr i hi).fr F⟩
theorem OutLL.len {b : Nat} {h : List AO} {v : AV} {L : List (List Int)} (H : OutLL b h v L) : lenV v = some (I L.length) := by
  rcases H with ⟨rfl, rfl⟩ | ⟨hne, o, vs, ho, rfl, hc, hl, hr⟩ <;> rfl

/-! appends in a region of open order -/
noncomputable def appG (keep : Bool) (lim p esz eb : Nat) (h : List AO) (s x : AV) : Option (AV × List AO) := exOp (fun _ _ _ _ => none) lim (some p) (fun o => match o with | .t 0 => s | _ => x) h (.append keep esz eb (.t 0) (.t 1))
theorem exOp_gapp {call : Am.Callee} {keep : Bool} {lim p esz eb : Nat} {ρ : Opd → AV} {h : List AO} {a x : Opd} : exOp call lim (some p) ρ h (.append keep esz eb a x) = appG keep lim p esz eb h (ρ a) (ρ x) := id rfl
theorem appG_zero {keep : Bool} {lim p esz eb sl : Nat} {h : List AO} {s x : AV} (hs : lenOf s = some sl) (hx : lenOf x = some 0) (hr : Am.rowOf h x = some []) : appG keep lim p esz eb h s x = some (s, h) := by
  simp only [appG, exOp, hs, hx, hr, List.length_nil, Nat.zero_mul, if_true]
theorem appG_nil {keep : Bool} {lim p esz eb n : Nat} {h : List AO} {x : AV} {xs : List AV} (hn : n ≠ 0) (hx : lenOf x = some n) (hr : Am.rowOf h x = some xs) (hl : xs.length = n * esz) (hs : xs.all AV.scalar = true) (hb : n * eb ≤ 1099511627776) (heb : 1 ≤ eb) :
    appG keep lim p esz eb h .nils x = some (.ms esz p 0 n, h.set p (.cells xs false)) := by
  simp only [appG, exOp, lenOf_nils, hx, hr, hl, hn, hs, hb, heb, Nat.zero_add, if_true, if_false, and_self, newAt, Option.getD_some]
theorem appG_ms {keep : Bool} {lim p esz eb n o len : Nat} {h : List AO} {x : AV} {c xs : List AV} (hn : n ≠ 0) (ho : h[o]? = some (.cells c false)) (hc : len * esz = c.length) (hx : lenOf x = some n) (hr : Am.rowOf h x = some xs) (hl : xs.length = n * esz) (hs : xs.all AV.scalar = true)
    (hb : (len + n) * eb ≤ 1099511627776) (heb : 1 ≤ eb) (hlim : lim ≤ o) :
    appG keep lim p esz eb h (.ms esz o 0 len) x = some (.ms esz p 0 (len + n), (h.set o (if keep then .ro c else .tomb)).set p (.cells (c ++ xs) (keep && len != 0))) := by
  simp only [appG, exOp, lenOf_ms, hx, hr, hl, hn, hs, hb, heb, ho, hc, hlim, if_true, if_false, and_self, true_and, true_or, newObj', Option.getD_some, List.take_length, Bool.or_false]

theorem GO_mcall0 {X : Cx} {base : Nat} {k : List KF} {ts : List AV} {h : List AO} {mk : List Nat} {r : List AOper} {d : Option Nat} {f : Nat} {args : List Opd} {m : List Nat} :
    GO X base (⟨d, .call 0 f args, none, none, m⟩ :: r) k ts h mk = GX X base ((R X.E (.fn f) (args.map (Opd.ev ts)) (hide base m h) X.lim).map fun y => (y.1, unhide base h m y.2)) d r k ts mk := by
  rw [GO_slot]
  congr 1
  show exMask (R X.E) X.lim base none (Opd.ev ts) h (.call 0 f args) m = _
  rw [exMask_eq]; rfl
theorem GO_mapp {X : Cx} {base : Nat} {k : List KF} {ts : List AV} {h : List AO} {mk : List Nat} {r : List AOper} {d : Option Nat} {kp : Bool} {e eb s : Nat} {a x : Opd} {m : List Nat} :
    GO X base (⟨d, .append kp e eb a x, none, some s, m⟩ :: r) k ts h mk = GX X base ((appG kp X.lim (base + s) e eb (hide base m h) (a.ev ts) (x.ev ts)).map fun y => (y.1, unhide base h m y.2)) d r k ts mk := by
  rw [GO_slot]
  congr 1
  show exMask (R X.E) X.lim base (some (base + s)) (Opd.ev ts) h (.append kp e eb a x) m = _
  rw [exMask_eq]; rfl
theorem unhN {b : Nat} {h g : List AO} : unhide b h [] g = g := id rfl
theorem unhC {b s : Nat} {r : List Nat} {h g : List AO} : unhide b h (s :: r) g = (unhide b h r g).set (b + s) (h.getD (b + s) .tomb) := id rfl
/-- the first append: a copy of the list so far -/
theorem app_one {lim : Nat} {h : List AO} {fv : AV} {F : List Int} (hF : RdS h fv F) (hb : F.length ≤ 1000) (hlim : lim ≤ h.length) : ∃ q x0 x1, q < 2 ∧ appG true lim (h.length + 1) 1 8 (h ++ [.cells [] false, .tomb, .tomb, .tomb, .tomb]) (.ms 1 h.length 0 0) fv = some (.ms 1 (h.length + q) 0 F.length, h ++ [x0, x1, .tomb, .tomb, .tomb]) ∧
    [x0, x1][q]? = some (.cells (F.flatMap fun n => [I n]) false) := by
  by_cases hz : F = []
  · subst hz
    refine ⟨0, .cells [] false, .tomb, by omega, ?_, rfl⟩
    have hr := (hF.fr (Fr.app h [.cells [] false, .tomb, .tomb, .tomb, .tomb])).row
    rw [appG_zero (sl := 0) rfl hr.1 hr.2]
    rfl
  · have hr := (hF.fr (Fr.app h [.cells [] false, .tomb, .tomb, .tomb, .tomb])).row
    have hn : F.length ≠ 0 := fun e => hz (List.eq_nil_of_length_eq_zero e)
    refine ⟨1, .ro [], .cells (F.flatMap fun n => [I n]) false, by omega, ?_, rfl⟩
    rw [appG_ms (c := []) hn atA0 rfl hr.1 hr.2 (by rw [flat1]; omega) (flat_sc F) (by omega) (by omega) hlim, setT0, setT]
    simp
theorem app_two {lim : Nat} {h : List AO} {F : List Int} {q : Nat} {x0 x1 : AO} {y : Int} (hq : q < 2) (hx : [x0, x1][q]? = some (.cells (F.flatMap fun n => [I n]) false)) (hb : F.length ≤ 1000) (hlim : lim ≤ h.length) :
    ∃ y0 y1 sh, appG true lim (h.length + 3) 1 8 (h ++ [x0, x1, .cells [I y] false, .tomb, .tomb]) (.ms 1 (h.length + q) 0 F.length) (.ms 1 (h.length + 2) 0 1) = some (.ms 1 (h.length + 3) 0 (F.length + 1), h ++ [y0, y1, .cells [I y] false, .cells ((F ++ [y]).flatMap fun n => [I n]) sh, .tomb]) := by
  have hr : Am.rowOf (h ++ [x0, x1, .cells [I y] false, .tomb, .tomb]) (.ms 1 (h.length + 2) 0 1) = some [I y] := by
    simp only [rowOf_ms, Am.rowAt, atT]; rfl
  have ho : (h ++ [x0, x1, .cells [I y] false, .tomb, .tomb])[h.length + q]? = some (.cells (F.flatMap fun n => [I n]) false) := by
    rw [atT]
    match q, hq with
    | 0, _ => exact hx
    | 1, _ => exact hx
  have key := appG_ms (keep := true) (lim := lim) (p := h.length + 3) (esz := 1) (eb := 8) (n := 1) (len := F.length) (x := .ms 1 (h.length + 2) 0 1) (xs := [I y]) (by omega) ho (by rw [flat1]; omega) rfl hr rfl rfl (by omega) (by omega) (by omega)
  rw [key, setT, setT]
  match q, hq with
  | 0, _ => exact ⟨_, _, _, by simp only [set0, setS, List.flatMap_append]; rfl⟩
  | 1, _ => exact ⟨_, _, _, by simp only [set0, setS, List.flatMap_append]; rfl⟩

/-- the last append: the lists of one grip behind those so far -/
theorem app_ll {lim b p : Nat} {h : List AO} {v x : AV} {L M : List (List Int)} (hL : OutLL b h v L) (hM : OutLL b h x M) (hMn : M ≠ []) (hp : h[p]? = some .tomb) (hbp : b ≤ p) (hlim : lim ≤ b) (hlen : L.length + M.length ≤ 100000) :
    ∃ h', appG false lim p 1 24 h v x = some (.ms 1 p 0 (L.length + M.length), h') ∧ h.length = h'.length ∧ (∀ j, j < b → h'[j]? = h[j]?) ∧ OutLL b h' (.ms 1 p 0 (L.length + M.length)) (L ++ M) := by
  rcases hM with ⟨rfl, _⟩ | ⟨_, o2, vs2, ho2, rfl, hc2, hl2, hr2⟩
  · exact absurd rfl hMn
  have hn : M.length ≠ 0 := fun e => hMn (List.eq_nil_of_length_eq_zero e)
  have hrow : Am.rowOf h (.ms 1 o2 0 M.length) = some vs2 := by
    simp only [rowOf_ms, Am.rowAt, hc2, Option.bind_some, AO.row?, List.drop_zero, Nat.mul_one, ← hl2, List.take_length, if_true]
  have hsc : ∀ {vs : List AV} {K : List (List Int)}, vs.length = K.length → (∀ i, i < K.length → RdS h (vs.getD i .undef) (K.getD i [])) → vs.all AV.scalar = true := by
    intro vs K hl hr
    rw [List.all_eq_true]
    intro y hy
    obtain ⟨i, hi, rfl⟩ := List.mem_iff_getElem.1 hy
    have := (hr i (by omega)).len.2.2
    simpa [List.getD_eq_getElem?_getD, hi] using this
  have hpl := (List.getElem?_eq_some_iff.1 hp).1
  -- what a list of numbers is, is no list of lists
  have keep : ∀ {k : Nat} {y : AO} {u : AV} {l : List Int}, RdS h u l → (h[k]? = some .tomb ∨ ∃ vs : List AV, h[k]? = some (.cells vs false) ∧ ∃ z, vs.head? = some z ∧ ∀ i, z ≠ I i) → RdS (h.set k y) u l := by
    rintro k y u l (h1 | ⟨hne, o, sh, rfl, hc⟩) hk
    · exact .inl h1
    · refine .inr ⟨hne, o, sh, rfl, ?_⟩
      rw [List.getElem?_set_ne, hc]
      rintro rfl
      rcases hk with hk | ⟨vs, hk, z, hz, hzi⟩
      · rw [hk] at hc; cases hc
      · rw [hk] at hc
        simp only [Option.some.injEq, AO.cells.injEq] at hc
        obtain ⟨rfl, _⟩ := hc
        match l, hne with
        | i :: l, _ => simp at hz; exact hzi i hz.symm
  rcases hL with ⟨rfl, rfl⟩ | ⟨hne, o, vs, ho, rfl, hc, hl, hr⟩
  · refine ⟨h.set p (.cells vs2 false), ?_, by simp, fun j hj => by rw [List.getElem?_set_ne (by omega)], .inr ⟨by simpa using hMn, p, vs2, hbp, ?_, by simp [hpl], by simpa using hl2, fun i hi => ?_⟩⟩
    · rw [appG_nil hn rfl hrow (by omega) (hsc hl2 hr2) (by simp at hlen; omega) (by omega)]
      simp
    · simp
    · simp only [List.nil_append] at hi ⊢
      exact keep (hr2 i hi) (.inl hp)
  · have hnL : L.length ≠ 0 := fun e => hne (List.eq_nil_of_length_eq_zero e)
    have hop : o ≠ p := by rintro rfl; rw [hc] at hp; cases hp
    have hz : ∃ z, vs.head? = some z ∧ ∀ i, z ≠ I i := by
      match vs, hl with
      | [], hl => simp at hl; omega
      | z :: vs, hl =>
        refine ⟨z, rfl, fun i e => ?_⟩
        have := hr 0 (by omega)
        simp only [get0] at this
        subst e
        rcases this with ⟨_, h⟩ | ⟨_, _, _, h, _⟩ <;> cases h
    obtain ⟨z, hz1, hz2⟩ := hz
    have k2 : ∀ {u : AV} {l : List Int}, RdS h u l → RdS ((h.set o .tomb).set p (.cells (vs ++ vs2) false)) u l := by
      intro u l hu
      have h1 := keep (k := o) (y := .tomb) hu (.inr ⟨vs, hc, z, hz1, hz2⟩)
      rcases h1 with h1 | ⟨hne', o', sh, rfl, hc'⟩
      · exact .inl h1
      · refine .inr ⟨hne', o', sh, rfl, ?_⟩
        rw [List.getElem?_set_ne, hc']
        rintro rfl
        rw [List.getElem?_set_ne hop, hp] at hc'; cases hc'
    refine ⟨(h.set o .tomb).set p (.cells (vs ++ vs2) false), ?_, by simp, fun j hj => by rw [List.getElem?_set_ne (by omega), List.getElem?_set_ne (by omega)], .inr ⟨by simp [hne], p, vs ++ vs2, hbp, by simp, by simp [hpl], by simp [hl, hl2], fun i hi => ?_⟩⟩
    · rw [appG_ms (c := vs) hn hc (by omega) rfl hrow (by omega) (hsc hl2 hr2) (by omega) (by omega) (by omega)]
      rfl
    · simp only [List.getD_eq_getElem?_getD]
      by_cases h1 : i < L.length
      · rw [List.getElem?_append_left (by omega), List.getElem?_append_left h1, ← List.getD_eq_getElem?_getD, ← List.getD_eq_getElem?_getD]
        exact k2 (hr i h1)
      · rw [List.getElem?_append_right (by omega), List.getElem?_append_right (by omega), ← List.getD_eq_getElem?_getD, ← List.getD_eq_getElem?_getD, hl]
        exact k2 (hr2 (i - L.length) (by simp at hi; omega))
end Go.Proofs.Ytpflneddfhifkaa.S
