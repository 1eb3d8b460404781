/-
The heap of the abstract machine never gets shorter.
-/
import Derived.Test.YtfkhcljimkbmeaaAmFrame2
namespace Go.Am
open Go
set_option linter.unusedVariables false
set_option linter.unusedSimpArgs false

def LenOk (call : Callee) : Prop := ∀ t args h lim r h', call t args h lim = some (r, h') → h.length ≤ h'.length

def SpecLen (spec : Nat → List AV → List AO → Nat → Option (AV × List AO)) : Prop := ∀ f args h lim r h', spec f args h lim = some (r, h') → h.length ≤ h'.length

theorem newObj'_len (pl : Option Nat) (h : List AO) (c : AO) : h.length ≤ (newObj' pl h c).length := by
  cases pl <;> simp [newObj']

theorem newAt_len (pl : Option Nat) (h : List AO) (c : List AV) : h.length ≤ (newAt pl h c).length := by
  cases pl <;> simp [newAt]

theorem exOp_len {call : Callee} (hcall : LenOk call) {lim : Nat} {pl : Option Nat} {ρ : Opd → AV} {h : List AO} {op : AOp} {v : AV} {h' : List AO} (hx : exOp call lim pl ρ h op = some (v, h')) : h.length ≤ h'.length := by
  cases op with
  | p o =>
    simp only [exOp, Option.map_eq_some_iff] at hx
    obtain ⟨_, _, e⟩ := hx; cases e; exact Nat.le_refl _
  | load a s x =>
    simp only [exOp] at hx
    split at hx
    · split at hx
      · simp only [Option.map_eq_some_iff] at hx; obtain ⟨_, _, e⟩ := hx; cases e; exact Nat.le_refl _
      · cases hx
    · simp only [Option.map_eq_some_iff] at hx; obtain ⟨_, _, e⟩ := hx; cases e; exact Nat.le_refl _
    · cases hx
  | store s a x =>
    simp only [exOp] at hx
    split at hx
    · split at hx
      · split at hx
        · cases hx; simp
        · cases hx
      · cases hx
    · cases hx
  | alloc z => simp only [exOp] at hx; cases hx; exact newAt_len _ _ _
  | box x => simp only [exOp] at hx; cases hx; exact newAt_len _ _ _
  | buildSlice e l z parts =>
    simp only [exOp, Option.map_eq_some_iff] at hx
    obtain ⟨_, _, e⟩ := hx; cases e; exact newAt_len _ _ _
  | makeSlice e b z l c =>
    simp only [exOp] at hx
    split at hx
    · split at hx
      · cases hx; exact newAt_len _ _ _
      · cases hx
    · cases hx
  | append k e b s x =>
    simp only [exOp] at hx
    split at hx
    case h_2 => cases hx
    split at hx
    case isFalse => cases hx
    split at hx
    · cases hx; exact Nat.le_refl _
    split at hx
    case isFalse => cases hx
    split at hx
    · cases hx; exact newAt_len _ _ _
    · split at hx
      · split at hx
        · cases hx
          exact Nat.le_trans (by simp) (newObj'_len _ _ _)
        · cases hx
      · cases hx
    · cases hx
  | appendZ e b z s x =>
    simp only [exOp] at hx
    split at hx
    · split at hx
      · cases hx; exact newAt_len _ _ _
      · cases hx
    · cases hx
  | call m f as =>
    simp only [exOp] at hx
    split at hx
    · exact hcall _ _ _ _ _ _ hx
    · split at hx
      · split at hx
        · simp only [Option.map_eq_some_iff] at hx; obtain ⟨_, _, e⟩ := hx; cases e; exact Nat.le_refl _
        · cases hx
      · cases hx
    · split at hx
      · split at hx
        · cases hx; simp
        · cases hx
      · cases hx
    · split at hx
      · split at hx
        · cases hx; exact Nat.le_refl _
        · cases hx
      · cases hx
  | callv q f as =>
    simp only [exOp] at hx
    split at hx
    · cases q
      · exact hcall _ _ _ _ _ _ hx
      · simp only [if_true] at hx
        split at hx
        · split at hx
          · cases hx; exact Nat.le_refl _
          · cases hx
        · cases hx
    · cases q
      · exact hcall _ _ _ _ _ _ hx
      · simp at hx
    · cases hx

theorem exMask_len {call : Callee} (hcall : LenOk call) {lim base : Nat} {pl : Option Nat} {ρ : Opd → AV} {h : List AO} {op : AOp} {m : List Nat} {v : AV} {h' : List AO} (hx : exMask call lim base pl ρ h op m = some (v, h')) : h.length ≤ h'.length := by
  unfold exMask at hx
  split at hx
  · exact exOp_len hcall hx
  · split at hx
    · rename_i v1 g hg
      cases hx
      have := exOp_len hcall hg
      rw [hide_len] at this
      rw [unhide_len]; exact this
    · cases hx

theorem exOper_len {call : Callee} (hcall : LenOk call) {lim base : Nat} {ts : List AV} {h : List AO} {o : AOper} {v : AV} {h' : List AO} (hx : exOper call lim base ts h o = some (v, h')) : h.length ≤ h'.length := by
  unfold exOper at hx
  split at hx
  · split at hx
    · split at hx
      · exact exOp_len hcall hx
      · cases hx
    · cases hx
  · exact exMask_len hcall hx

theorem stepOp_len {call : Callee} (hcall : LenOk call) {lim base : Nat} {ts : List AV} {h : List AO} {o : AOper} {ts' : List AV} {h' : List AO} (hx : stepOp call lim base o ts h = some (ts', h')) : h.length ≤ h'.length := by
  unfold stepOp at hx
  split at hx
  · split at hx
    · rename_i v g hg
      cases hx
      exact exOper_len hcall hg
    · cases hx
  · cases hx; exact Nat.le_refl _

theorem evOps_len {call : Callee} (hcall : LenOk call) {lim base : Nat} : ∀ (os : List AOper) (ts : List AV) (h : List AO) (ts' : List AV) (h' : List AO), evOps call lim base os ts h = some (ts', h') → h.length ≤ h'.length
  | [], ts, h, ts', h', hx => by simp only [evOps] at hx; cases hx; exact Nat.le_refl _
  | o :: os, ts, h, ts', h', hx => by
    simp only [evOps] at hx
    split at hx
    · rename_i ts1 h1 h1e
      exact Nat.le_trans (stepOp_len hcall h1e) (evOps_len hcall os _ _ _ _ hx)
    · cases hx

theorem iter_len {f : St → Option (Ex × St)} (hf : ∀ st ex st', f st = some (ex, st') → st.heap.length ≤ st'.heap.length) : ∀ (n : Nat) (st : St) (ex : Ex) (st' : St), iter f n st = some (ex, st') → st.heap.length ≤ st'.heap.length
  | 0, st, ex, st', hx => by simp [iter] at hx
  | n + 1, st, ex, st', hx => by
    simp only [iter] at hx
    split at hx
    · rename_i s1 h1
      exact Nat.le_trans (hf _ _ _ h1) (iter_len hf n _ _ _ hx)
    · exact hf _ _ _ hx

theorem evCode_len {call : Callee} (hcall : LenOk call) {lim n : Nat} {rnd : Option Nat} {fid : Nat} : ∀ (c : ACode) (st : St) (ex : Ex) (st' : St), evCode call lim n rnd fid c st = some (ex, st') → st.heap.length ≤ st'.heap.length := by
  intro c
  induction c with
  | skip => intro st ex st' hx; simp only [evCode] at hx; cases hx; exact Nat.le_refl _
  | exit id => intro st ex st' hx; simp only [evCode] at hx; cases hx; exact Nat.le_refl _
  | ret => intro st ex st' hx; simp only [evCode] at hx; cases hx; exact Nat.le_refl _
  | region k ops =>
    intro st ex st' hx
    simp only [evCode] at hx
    split at hx
    · rename_i ts h h1
      cases hx
      have := evOps_len hcall _ _ _ _ _ h1
      exact Nat.le_trans (by simp) this
    · cases hx
  | seq a b iha ihb =>
    intro st ex st' hx
    simp only [evCode] at hx
    split at hx
    · rename_i s1 h1
      exact Nat.le_trans (iha _ _ _ h1) (ihb _ _ _ hx)
    · exact iha _ _ _ hx
  | cond c a b iha ihb =>
    intro st ex st' hx
    simp only [evCode] at hx
    split at hx
    · exact iha _ _ _ hx
    · exact ihb _ _ _ hx
    · cases hx
  | block id c ih =>
    intro st ex st' hx
    simp only [evCode] at hx
    split at hx
    · rename_i id' s1 h1
      split at hx <;> (cases hx; exact ih _ _ _ h1)
    · exact ih _ _ _ hx
  | loop c ih =>
    intro st ex st' hx
    simp only [evCode] at hx
    exact iter_len ih _ _ _ _ hx
  | scope c ih => intro st ex st' hx; simp only [evCode] at hx; exact ih _ _ _ hx
  | rangeFunc f ps as bd iha ihb =>
    intro st ex st' hx
    simp only [evCode] at hx
    split at hx
    · cases hx
    · split at hx
      · split at hx
        · rename_i r0 h3 hc
          have h1 := hcall _ _ _ _ _ _ hc
          simp at h1
          split at hx
          · cases hx; simp; omega
          · cases hx; simp; omega
          · cases hx
        · cases hx
      · cases hx

theorem takeMarks_len : ∀ (ms : List Nat) (h h' : List AO), takeMarks ms h = some h' → h.length ≤ h'.length
  | [], h, h', hx => by simp only [takeMarks] at hx; cases hx; exact Nat.le_refl _
  | m :: ms, h, h', hx => by
    simp only [takeMarks] at hx
    split at hx
    · have := takeMarks_len ms _ _ hx
      simpa using this
    · cases hx

theorem finish_len {lim : Nat} {rs : List ARes} {st : St} {r : AV} {h' : List AO} (hx : finish lim rs st = some (r, h')) : st.heap.length ≤ h'.length := by
  unfold finish at hx
  split at hx
  · cases hx
  · rename_i h1 he
    split at he
    · have := takeMarks_len _ _ _ he
      split at hx
      · cases hx; exact this
      · cases hx; exact this
      · cases hx
    · cases he

theorem callN_len {E : Env} (hE : SpecLen E.spec) : ∀ n, LenOk (callN E n)
  | 0 => fun t args h lim r h' hx => by simp [callN] at hx
  | n + 1 => by
    intro t args h lim r h' hx
    have ih := callN_len hE n
    cases t with
    | fn f =>
      simp only [callN] at hx
      split at hx
      · rename_i y hsp; cases hx; exact hE _ _ _ _ _ _ hsp
      · split at hx
        · cases hx
        · split at hx
          · rename_i s1 h1; exact Nat.le_trans (evCode_len ih _ _ _ _ h1) (finish_len hx)
          · rename_i s1 h1; exact Nat.le_trans (evCode_len ih _ _ _ _ h1) (finish_len hx)
          · cases hx
    | rnd o =>
      simp only [callN] at hx
      split at hx
      · split at hx
        · split at hx
          · rename_i s1 h1
            split at hx
            · split at hx
              · rename_i ex s2 h2
                split at hx
                · cases hx
                  have e1 := evCode_len ih _ _ _ _ h1
                  have e2 := evCode_len ih _ _ _ _ h2
                  simp at e1 e2 ⊢; omega
                · cases hx
              · cases hx
            · cases hx
          · cases hx
        · cases hx
      · cases hx

end Go.Am
