/-
A region, in whatever order.
-/
import Derived.Test.YtfkhcljimkbmeaaAmRun
namespace Go.Am
open Go
set_option linter.unusedVariables false
set_option linter.unusedSimpArgs false

variable {P : Program} {mode : Nat → Nat → Nat} {S : Fz} {φ : Mp} {B : Nat} {h : List AO} {w : World} {m : Nat → Nat}

/-- the operations of these numbers, one after the other -/
def evIx (call : Callee) (lim base : Nat) (as : List AOper) : List Nat → List AV → List AO → Option (List AV × List AO)
  | [], ts, h => some (ts, h)
  | i :: r, ts, h => match as[i]? with
    | some o => match stepOp call lim base o ts h with
      | some (ts', h') => evIx call lim base as r ts' h'
      | none => none
    | none => evIx call lim base as r ts h

structure SlotsFit (k base : Nat) (as : List AOper) : Prop where
  mask : ∀ (i : Nat) o, as[i]? = some o → ∀ s ∈ o.mask, s < k ∧ o.makes base ≠ some (base + s)
  lt : ∀ (i : Nat) o p, as[i]? = some o → o.makes base = some p → base ≤ p ∧ p < base + k
  apart : ∀ (i j : Nat) o x p, as[i]? = some o → as[j]? = some x → o.makes base = some p → x.makes base = some p → i = j

theorem Post.then {S1 S2 : Fz} {φ1 φ2 : Mp} {h1 h2 : List AO} {w1 w2 : World} {lim : Nat} {pl : Option Nat} (q : Post P mode S φ B lim h w Option.none S1 φ1 h1 w1) (q' : Post P mode S1 φ1 B lim h1 w1 pl S2 φ2 h2 w2) (hp : ∀ i, pl = some i → h.length ≤ i) :
    Post P mode S φ B lim h w Option.none S2 φ2 h2 w2 := by
  have ne : ∀ o, o < h.length → some o ≠ pl := fun o ho e => by have := hp o e.symm; omega
  exact ⟨q'.hr, Mp.le_trans q.le q'.le, fun b hb => (q'.sle b (Nat.lt_of_lt_of_le hb q.fx.size)).trans (q.sle b hb), q.fx.trans q'.fx, Nat.le_trans q.len q'.len,
    fun o ho hl _ => (q'.keep o ho (Nat.lt_of_lt_of_le hl q.len) (ne o hl)).trans (q.keep o ho hl (by simp)), fun o hl _ hn => q'.none o (Nat.lt_of_lt_of_le hl q.len) (ne o hl) (q.none o hl (by simp) hn)⟩

/-- one operation, carried out -/
theorem stepOp_snd {call : Callee} (hcall : CallSnd P mode call) (hfr : FrameOk call) {ops : Array Oper} {lim base k : Nat} {o : Oper} {ao : AOper} (hc : COp P m ops o ao) {i : Nat} (ho : ops[i]? = some o)
    (H : HR P mode S φ B h w) (hlim : lim ≤ h.length) {ts : List AV} {a : Act} (hr : RelL S φ ts a.tmps.toList) (hmask : ∀ s ∈ ao.mask, base + s < h.length ∧ ao.makes base ≠ some (base + s)) (hpl : PlOk φ h (ao.makes base))
    {ts' : List AV} {h' : List AO} (hx : stepOp call lim base ao ts h = some (ts', h')) {b : Frame} {kk : List Item} {cs : List Frame} {rest : List Nat} :
    ∃ S' φ' w' a', Steps P (lone (b.atR a (.inRegion ops (i :: rest) :: kk)) cs w) (lone (b.atR a' (.inRegion ops rest :: kk)) cs w') ∧ Post P mode S φ B lim h w (ao.makes base) S' φ' h' w' ∧ RelL S' φ' ts' a'.tmps.toList ∧ a'.defers = a.defers := by
  unfold stepOp at hx
  have hw := wanted_eq (P := P) hc hr
  split at hx
  · rename_i hwt
    split at hx
    · rename_i v h1 he
      cases hx
      have hop := exOper_open hfr hmask he
      cases hcop : cOp P m o.op with
      | none =>
        exfalso
        have := hc.op
        rw [hcop] at this
        simp only [Option.getD_none] at this
        have hb := kept_p this.symm
        rw [hb] at hop
        simp [exOp, pex] at hop
      | some a0 =>
        have hk : a0.kept = ao.op.kept := by have := hc.op; rw [hcop] at this; exact this
        have hd : ∀ c, o.op ≠ .defer c := by intro c e; rw [e] at hcop; simp [cOp] at hcop
        have hrun := exOp_snd hcall H (fun x y hxy => opd_act hr hxy) (fun f => rfl) hlim (ao.makes base) hpl hcop hk hop
        obtain ⟨u, w', ⟨S', φ', hru, hpost⟩, hst⟩ := op_steps (P := P) (b := b) (k := kk) (cs := cs) (rest := rest) ho (by rw [hw]; exact hwt) hd hrun
        refine ⟨S', φ', w', a.put o.dst u, hst, hpost, ?_, ?_⟩
        · rw [hc.dst]; exact put_rel (hpost.relL H hr) hru o.dst
        · cases o.dst <;> rfl
    · cases hx
  · rename_i hwt
    cases hx
    have hwf : Region.wanted o (yielded ops a.tmps) = false := by rw [hw]; simpa using hwt
    refine ⟨S, φ, w, a.put o.dst undef, ?_, Post.refl H lim _, ?_, ?_⟩
    · have := stepR_op_skip (P := P) (b := b) (a := a) (k := kk) (cs := cs) (w := w) (ops := ops) (i := i) (rest := rest) (by rw [ho]; simpa using hwf)
      rw [ho] at this
      exact .one this
    · rw [hc.dst]; exact put_rel hr Rel.undef o.dst
    · cases o.dst <;> rfl

theorem evIx_snd {call : Callee} (hcall : CallSnd P mode call) (hfr : FrameOk call) {ops : Array Oper} {as : List AOper} {lim k : Nat} (hlen : as.length = ops.size) (hops : ∀ (i : Nat) o ao, ops[i]? = some o → as[i]? = some ao → COp P m ops o ao)
    {S0 : Fz} {φ0 : Mp} {h0 : List AO} {w0 : World} (hlim : lim ≤ h0.length) (hsl : SlotsFit k h0.length as) {b : Frame} {kk : List Item} {cs : List Frame} :
    ∀ (L : List Nat) (S : Fz) (φ : Mp) (h : List AO) (w : World) (ts : List AV) (a : Act) (ts' : List AV) (h' : List AO), L.Nodup → Post P mode S0 φ0 B lim h0 w0 none S φ h w → h0.length + k ≤ h.length →
      (∀ i ∈ L, ∀ o p, as[i]? = some o → o.makes h0.length = some p → φ p = none) → RelL S φ ts a.tmps.toList → evIx call lim h0.length as L ts h = some (ts', h') →
      ∃ S' φ' w' a', Steps P (lone (b.atR a (.inRegion ops L :: kk)) cs w) (lone (b.atR a' kk) cs w') ∧ Post P mode S0 φ0 B lim h0 w0 none S' φ' h' w' ∧ RelL S' φ' ts' a'.tmps.toList ∧ a'.defers = a.defers
  | [], S, φ, h, w, ts, a, ts', h', _, hp, _, _, hr, hx => by
    simp only [evIx] at hx
    cases hx
    exact ⟨S, φ, w, a, .one stepR_region_end, hp, hr, rfl⟩
  | i :: L, S, φ, h, w, ts, a, ts', h', hnd, hp, hkl, hnone, hr, hx => by
    simp only [evIx] at hx
    have hnd' := List.nodup_cons.1 hnd
    cases hi : as[i]? with
    | none =>
      rw [hi] at hx
      have hio : ops[i]? = none := by
        rw [List.getElem?_eq_none_iff] at hi
        rw [Array.getElem?_eq_none_iff]; omega
      obtain ⟨S', φ', w', a', h1, h2, h3, h4⟩ := evIx_snd hcall hfr hlen hops hlim hsl L S φ h w ts a ts' h' hnd'.2 hp hkl (fun j hj => hnone j (by simp [hj])) hr hx
      refine ⟨S', φ', w', a', .head ?_ h1, h2, h3, h4⟩
      have := stepR_op_skip (P := P) (b := b) (a := a) (k := kk) (cs := cs) (w := w) (ops := ops) (i := i) (rest := L) (by rw [hio]; rfl)
      rw [hio] at this
      exact this
    | some ao =>
      rw [hi] at hx
      simp only at hx
      have hil := (List.getElem?_eq_some_iff.1 hi).1
      obtain ⟨o, ho⟩ : ∃ o, ops[i]? = some o := ⟨_, Array.getElem?_eq_getElem (by omega)⟩
      split at hx
      · rename_i t1 h1 he
        have hpl : PlOk φ h (ao.makes h0.length) := ⟨fun p hpe => ⟨by have := hsl.lt i ao p hi hpe; omega, hnone i (by simp) ao p hi hpe⟩⟩
        obtain ⟨S1, φ1, w1, a1, g1, g2, g3, g4⟩ := stepOp_snd hcall hfr (k := k) (hops i o ao ho hi) ho hp.hr (Nat.le_trans hlim hp.len) hr (fun s hs => ⟨by have := (hsl.mask i ao hi s hs).1; omega, (hsl.mask i ao hi s hs).2⟩) hpl he (b := b) (kk := kk) (cs := cs) (rest := L)
        have hp2 := hp.then g2 (fun p hpe => (hsl.lt i ao p hi hpe).1)
        obtain ⟨S', φ', w', a', k1, k2, k3, k4⟩ := evIx_snd hcall hfr hlen hops hlim hsl L S1 φ1 h1 w1 t1 a1 ts' h' hnd'.2 hp2 (Nat.le_trans hkl g2.len) (fun j hj x p hx hpe => by
          have hn := hnone j (by simp [hj]) x p hx hpe
          refine g2.none p (by have := hsl.lt j x p hx hpe; omega) ?_ hn
          intro e
          have := hsl.apart i j ao x p hi hx e.symm hpe
          subst this; exact hnd'.1 hj) g3 hx
        exact ⟨S', φ', w', a', Steps.trans g1 k1, k2, k3, k4.trans g4⟩
      · cases hx

theorem tombs_post (H : HR P mode S φ B h w) (k lim : Nat) : Post P mode S φ B lim h w none S φ (h ++ List.replicate k .tomb) w := by
  have key : ∀ (o : Nat) a, (h ++ List.replicate k AO.tomb)[o]? = some a → h[o]? = some a ∨ a = .tomb := by
    intro o a ha
    by_cases ho : o < h.length
    · rw [List.getElem?_append_left ho] at ha; exact .inl ha
    · rw [List.getElem?_append_right (by omega), List.getElem?_replicate] at ha
      split at ha
      · cases ha; exact .inr rfl
      · cases ha
  refine ⟨⟨H.bs, fun o x hx => by have := H.dom o x hx; simp; omega, H.lt, H.fro, ?_, ?_⟩, Mp.le_refl _, fun _ _ => rfl, Fx.refl _ _, by simp, fun o _ ho _ => List.getElem?_append_left ho, fun _ _ _ hn => hn⟩
  · intro o a ha
    rcases key o a ha with h1 | rfl
    · exact H.obj o a h1
    · exact .inl rfl
  · intro o o' a a' b z z' ha ha' hb hb' hne
    rcases key o a ha with h1 | rfl
    · rcases key o' a' ha' with h2 | rfl
      · exact H.inj o o' a a' b z z' h1 h2 hb hb' hne
      · cases a <;> trivial
    · trivial

theorem evIx_range {call : Callee} {lim base : Nat} (as : List AOper) : ∀ (pre rest : List AOper) (ts : List AV) (h : List AO), as = pre ++ rest → evIx call lim base as ((List.range rest.length).map (pre.length + ·)) ts h = evOps call lim base rest ts h
  | pre, [], ts, h, _ => rfl
  | pre, o :: rest, ts, h, e => by
    have e1 : (List.range (o :: rest).length).map (pre.length + ·) = pre.length :: (List.range rest.length).map ((pre ++ [o]).length + ·) := by
      rw [List.length_cons, List.range_succ_eq_map, List.map_cons, List.map_map]
      simp only [Nat.add_zero, List.cons.injEq, true_and]
      apply List.map_congr_left
      intro x _
      simp; omega
    have e2 : as[pre.length]? = some o := by rw [e, List.getElem?_append_right (Nat.le_refl _)]; simp
    rw [e1]
    simp only [evIx, evOps, e2]
    cases stepOp call lim base o ts h with
    | none => rfl
    | some y =>
      obtain ⟨t1, h1⟩ := y
      exact evIx_range as (pre ++ [o]) rest t1 h1 (by rw [e]; simp)

end Go.Am
