/-
Operations in a region, step by step.
-/
import Derived.Test.YtfkhcljimkbmeaaAmCall
import Derived.Test.YtfkhcljimkbmeaaAmFrame2
namespace Go.Am
open Go
set_option linter.unusedVariables false
set_option linter.unusedSimpArgs false

variable {P : Program} {mode : Nat → Nat → Nat} {S : Fz} {φ : Mp} {B : Nat} {h : List AO} {w : World} {m : Nat → Nat}

theorem opd_act {ts : List AV} {a : Act} (h : RelL S φ ts a.tmps.toList) {x : Operand} {y : Opd} (hc : cOpd x = some y) : Rel S φ (y.ev ts) (a.eval x) := by
  cases x with
  | tmp t =>
    simp only [cOpd, Option.some.injEq] at hc
    subst hc
    have := h.getD t
    simp only [Opd.ev, Act.eval]
    simpa [Array.getD_eq_getD_getElem?, List.getD_eq_getElem?_getD] using this
  | const v =>
    simp only [cOpd, Option.map_eq_some_iff] at hc
    obtain ⟨a', ha, rfl⟩ := hc
    exact toAV_rel 2 v a' ha
  | func f =>
    simp only [cOpd, Option.some.injEq] at hc
    subst hc
    exact .fn _ _ _ _ _ _ rfl rfl (fun j x v h => by simp at h) (fun j x v h => by simp at h)
  | global g => simp [cOpd] at hc

theorem put_rel {ts : List AV} {a : Act} (h : RelL S φ ts a.tmps.toList) {v : AV} {u : Value} (hv : Rel S φ v u) (dst : Option Nat) : RelL S φ (putT ts dst v) (a.put dst u).tmps.toList := by
  cases dst with
  | none => simpa [putT, Act.put] using h
  | some d => simpa [putT, Act.put] using h.set d hv

theorem step_start {b : Frame} {a : Act} {k : List Item} {cs : List Frame} {ops : Array Oper} {i : Nat} {rest : List Nat} {o : Oper} {nx : Next} (ho : ops[i]? = some o) (hw : Region.wanted o (yielded ops a.tmps) = true)
    (hd : ∀ c, o.op ≠ .defer c) (hrun : (execOp a.eval o).run P w = .ok nx w) (hs : isStart nx = true) :
    step P (lone (b.atR a (.inRegion ops (i :: rest) :: k)) cs w) = .next (lone (startFr P nx) (b.atR a (.inRegion ops (i :: rest) :: k) :: cs) w) := by
  apply step_lone_go
  rw [stepGR_op ho hw, Oper.semAt_eq _ _ _ hd]
  cases nx <;> simp [isStart] at hs
  · simp [stepG.apply, Sem.runT_eq, hrun, GStep.bare_after, startFr, Frame.atR, Result.andThen]
  · simp [stepG.apply, Sem.runT_eq, hrun, GStep.bare_after, startFr, Frame.atR, Result.andThen]

theorem step_value {b : Frame} {a : Act} {k : List Item} {cs : List Frame} {ops : Array Oper} {i : Nat} {rest : List Nat} {o : Oper} {v : Value} {w' : World} (ho : ops[i]? = some o) (hw : Region.wanted o (yielded ops a.tmps) = true)
    (hd : ∀ c, o.op ≠ .defer c) (hrun : (execOp a.eval o).run P w = .ok (.value v) w' ∨ ((execOp a.eval o).run P w = .ok .skip w' ∧ v = undef)) :
    step P (lone (b.atR a (.inRegion ops (i :: rest) :: k)) cs w) = .next (lone (b.atR (a.put o.dst v) (.inRegion ops rest :: k)) cs w') := by
  have hf := Frame.finish_atR b a ops i rest k v
  have e1 : (ops[i]?).bind (·.dst) = o.dst := by rw [ho]; rfl
  rw [e1] at hf
  rw [← hf]
  apply step_lone_go
  rw [stepGR_op ho hw, Oper.semAt_eq _ _ _ hd]
  rcases hrun with hrun | ⟨hrun, rfl⟩
  · simp [stepG.apply, Sem.runT_eq, hrun, GStep.bare_after, Result.andThen, Frame.atR]
  · simp [stepG.apply, Sem.runT_eq, hrun, GStep.bare_after, Result.andThen, Frame.atR]

theorem op_steps {b : Frame} {a : Act} {k : List Item} {cs : List Frame} {ops : Array Oper} {i : Nat} {rest : List Nat} {o : Oper} {Q : Value → World → Prop} (ho : ops[i]? = some o) (hw : Region.wanted o (yielded ops a.tmps) = true)
    (hd : ∀ c, o.op ≠ .defer c) (h : OpRun P (execOp a.eval o) w Q) :
    ∃ v w', Q v w' ∧ Steps P (lone (b.atR a (.inRegion ops (i :: rest) :: k)) cs w) (lone (b.atR (a.put o.dst v) (.inRegion ops rest :: k)) cs w') := by
  rcases h with ⟨v, w', h1, h2⟩ | ⟨w', h1, h2⟩ | ⟨nx, h1, h2, h3⟩
  · exact ⟨v, w', h2, .one (step_value ho hw hd (.inl h1))⟩
  · exact ⟨undef, w', h2, .one (step_value ho hw hd (.inr ⟨h1, rfl⟩))⟩
  · obtain ⟨v, w', hq, hs⟩ := h3 (b.atR a (.inRegion ops (i :: rest) :: k)) cs
    have hf := Frame.finish_atR b a ops i rest k v
    have e1 : (ops[i]?).bind (·.dst) = o.dst := by rw [ho]; rfl
    rw [e1] at hf
    rw [hf] at hs
    exact ⟨v, w', hq, .head (step_start ho hw hd h1 h2) hs⟩

/-- the abstract operation of an operation -/
structure COp (P : Program) (m : Nat → Nat) (ops : Array Oper) (o : Oper) (ao : AOper) : Prop where
  dst : ao.dst = o.dst
  guard : cGuard ops o.guard = some ao.guard
  op : ((cOp P m o.op).getD (.p .bad)).kept = ao.op.kept

theorem wanted_eq {ops : Array Oper} {o : Oper} {ao : AOper} (hc : COp P m ops o ao) {ts : List AV} {a : Act} (hr : RelL S φ ts a.tmps.toList) : Region.wanted o (yielded ops a.tmps) = wanted ts ao.guard := by
  have hg := hc.guard
  unfold Region.wanted
  cases h1 : o.guard with
  | none => rw [h1] at hg; simp only [cGuard, Option.some.injEq] at hg; rw [← hg]; rfl
  | some jw =>
    obtain ⟨j, want⟩ := jw
    rw [h1] at hg
    simp only [cGuard] at hg
    split at hg
    · rename_i d hd
      simp only [Option.some.injEq] at hg
      rw [← hg]
      simp only [wanted, yielded, hd, Option.bind_some]
      by_cases hdl : d < ts.length
      · obtain ⟨u, hu, hru⟩ := hr.get (List.getElem?_eq_getElem hdl)
        have hu' : a.tmps[d]? = some u := by simpa using hu
        rw [hu', List.getElem?_eq_getElem hdl]
        generalize ts[d] = x at hru
        cases hru <;> first | rfl | (rename_i q; cases q <;> cases want <;> rfl) | simp
      · have h1 : ts.length ≤ d := Nat.le_of_not_lt hdl
        have h3 : ts.length = a.tmps.size := by simpa using hr.1
        have h2 : a.tmps.size ≤ d := Nat.le_trans (Nat.le_of_eq h3.symm) h1
        rw [List.getElem?_eq_none h1, Array.getElem?_eq_none h2]
        rfl
    · cases hg

def AOper.makes (o : AOper) (base : Nat) : Option Nat := o.made.map (base + ·)

theorem exOper_open {call : Callee} (hcall : FrameOk call) {lim base : Nat} {ts : List AV} {h : List AO} {o : AOper} {v : AV} {h' : List AO} (hm : ∀ s ∈ o.mask, base + s < h.length ∧ o.makes base ≠ some (base + s))
    (hx : exOper call lim base ts h o = some (v, h')) : exOp call lim (o.makes base) (Opd.ev ts) h o.op = some (v, h') := by
  unfold exOper at hx
  unfold AOper.makes at hm ⊢
  split at hx
  · rename_i s size x y ho hop
    have e0 : o.made = none := by unfold AOper.made; rw [ho, hop]
    rw [e0, hop]
    split at hx
    · split at hx
      · exact hx
      · cases hx
    · cases hx
  · rename_i sl op hn
    have e1 : o.made = o.slot := by
      unfold AOper.made
      split
      · rename_i s x y z h1 h2; exact absurd h2 (hn s x y z h1)
      · rfl
    rw [e1] at hm ⊢
    cases hmask : o.mask with
    | nil => rw [hmask] at hx; simpa only [exMask] using hx
    | cons s r =>
      rw [hmask] at hx hm
      simp only [exMask] at hx
      split at hx
      · rename_i v0 h0 h1
        cases hx
        exact (exMask_open hcall (s :: r) hm h1).1
      · cases hx

end Go.Am
