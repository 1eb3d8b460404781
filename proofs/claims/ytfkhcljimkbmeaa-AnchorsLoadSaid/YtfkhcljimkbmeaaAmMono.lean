/-
More fuel answers no less.
-/
import Derived.Test.YtfkhcljimkbmeaaAmDen
namespace Go.Am
open Go
set_option linter.unusedVariables false
set_option linter.unusedSimpArgs false

def Less (c d : Callee) : Prop := ∀ t a h l x, c t a h l = some x → d t a h l = some x

variable {c d : Callee}

theorem exOp_le (hl : Less c d) {lim : Nat} {pl : Option Nat} {ρ : Opd → AV} {h : List AO} {op : AOp} {y : AV × List AO} (hx : exOp c lim pl ρ h op = some y) : exOp d lim pl ρ h op = some y := by
  cases op with
  | call mode f args =>
    simp only [exOp] at hx ⊢
    split at hx
    · exact hl _ _ _ _ _ hx
    · split at hx
      · split at hx
        · rename_i hc
          simp only [hl _ _ _ _ _ hc]; exact hx
        · cases hx
      · cases hx
    · split at hx
      · rename_i hp
        split at hx
        · rename_i hc
          simp only [hl _ _ _ _ _ hc, hp, if_true]; exact hx
        · cases hx
      · cases hx
    · split at hx
      · rename_i hc
        simp only [hl _ _ _ _ _ hc]; exact hx
      · cases hx
  | callv q f args =>
    simp only [exOp] at hx ⊢
    cases hf : ρ f with
    | fn g first captured =>
      rw [hf] at hx
      cases q
      · exact hl _ _ _ _ _ hx
      · simp only [if_true] at hx ⊢
        split at hx
        · rename_i hc
          simp only [hl _ _ _ _ _ hc]; exact hx
        · cases hx
    | yld o =>
      rw [hf] at hx
      cases q
      · exact hl _ _ _ _ _ hx
      · cases hx
    | _ => rw [hf] at hx; cases hx
  | _ => exact hx

theorem exMask_le (hl : Less c d) {lim base : Nat} {pl : Option Nat} {ρ : Opd → AV} {h : List AO} {op : AOp} {m : List Nat} {y : AV × List AO} (hx : exMask c lim base pl ρ h op m = some y) : exMask d lim base pl ρ h op m = some y := by
  unfold exMask at hx ⊢
  split at hx
  · exact exOp_le hl hx
  · split at hx
    · rename_i hc
      simp only [exOp_le hl hc]; exact hx
    · cases hx

theorem exOper_le (hl : Less c d) {lim base : Nat} {ts : List AV} {h : List AO} {o : AOper} {y : AV × List AO} (hx : exOper c lim base ts h o = some y) : exOper d lim base ts h o = some y := by
  unfold exOper at hx ⊢
  split at hx
  · split at hx
    · split at hx
      · rename_i hb
        rw [if_pos hb]; exact exOp_le hl hx
      · cases hx
    · cases hx
  · exact exMask_le hl hx

theorem stepOp_le (hl : Less c d) {lim base : Nat} {ts : List AV} {h : List AO} {o : AOper} {y : List AV × List AO} (hx : stepOp c lim base o ts h = some y) : stepOp d lim base o ts h = some y := by
  unfold stepOp at hx ⊢
  split at hx
  · rename_i hw
    split at hx
    · rename_i hc
      simp only [hw, if_true, exOper_le hl hc]; exact hx
    · cases hx
  · rename_i hw
    simp only [hw]; exact hx

theorem evOps_le (hl : Less c d) {lim base : Nat} : ∀ {ops : List AOper} {ts : List AV} {h : List AO} {y : List AV × List AO}, evOps c lim base ops ts h = some y → evOps d lim base ops ts h = some y
  | [], ts, h, y, hx => hx
  | o :: r, ts, h, y, hx => by
    simp only [evOps] at hx ⊢
    split at hx
    · rename_i hc
      simp only [stepOp_le hl hc]; exact evOps_le hl hx
    · cases hx

theorem iter_le {f g : St → Option (Ex × St)} (hg : ∀ s x, f s = some x → g s = some x) : ∀ {n m : Nat} {s : St} {x : Ex × St}, n ≤ m → iter f n s = some x → iter g m s = some x
  | 0, _, _, _, _, hx => by simp [iter] at hx
  | n + 1, 0, _, _, hl, _ => by omega
  | n + 1, m + 1, s, x, hl, hx => by
    simp only [iter] at hx ⊢
    cases hs : f s with
    | none => rw [hs] at hx; cases hx
    | some y =>
      rw [hs] at hx
      rw [hg _ _ hs]
      obtain ⟨ex, s'⟩ := y
      cases ex with
      | nrm => exact iter_le hg (by omega) hx
      | exit i => exact hx
      | ret => exact hx

theorem evCode_le (hl : Less c d) {lim n m : Nat} (hn : n ≤ m) {rnd : Option Nat} {fid : Nat} : ∀ {a : ACode} {s : St} {x : Ex × St}, evCode c lim n rnd fid a s = some x → evCode d lim m rnd fid a s = some x := by
  intro a
  induction a with
  | skip => intro s x hx; exact hx
  | exit id => intro s x hx; exact hx
  | ret => intro s x hx; exact hx
  | region k ops =>
    intro s x hx
    simp only [evCode] at hx ⊢
    split at hx
    · rename_i hc
      simp only [evOps_le hl hc]; exact hx
    · cases hx
  | seq a b iha ihb =>
    intro s x hx
    simp only [evCode] at hx ⊢
    cases ha : evCode c lim n rnd fid a s with
    | none => rw [ha] at hx; cases hx
    | some y =>
      obtain ⟨ex, s1⟩ := y
      rw [ha] at hx
      rw [iha ha]
      cases ex with
      | nrm => exact ihb hx
      | exit i => exact hx
      | ret => exact hx
  | cond o a b iha ihb =>
    intro s x hx
    simp only [evCode] at hx ⊢
    cases hc : Opd.ev s.tmps o with
    | bool v =>
      rw [hc] at hx
      cases v
      · exact ihb hx
      · exact iha hx
    | _ => rw [hc] at hx; cases hx
  | block id a ih =>
    intro s x hx
    simp only [evCode] at hx ⊢
    cases hc : evCode c lim n rnd fid a s with
    | none => rw [hc] at hx; cases hx
    | some y => rw [hc] at hx; rw [ih hc]; exact hx
  | loop a ih =>
    intro s x hx
    simp only [evCode] at hx ⊢
    exact iter_le (fun s x => ih) hn hx
  | scope a ih => intro s x hx; simp only [evCode] at hx ⊢; exact ih hx
  | rangeFunc f ps as bd _ _ =>
    intro s x hx
    simp only [evCode] at hx ⊢
    cases rnd with
    | some _ => cases hx
    | none =>
      simp only at hx ⊢
      cases hf : Opd.ev s.tmps f with
      | fn g first captured =>
        rw [hf] at hx
        simp only at hx ⊢
        split at hx
        · rename_i r h3 hc
          simp only [hl _ _ _ _ _ hc]; exact hx
        · cases hx
      | _ => rw [hf] at hx; cases hx

theorem callN_le (E : Env) : ∀ {n m : Nat}, n ≤ m → Less (callN E n) (callN E m)
  | 0, _, _, t, a, h, l, x, hx => by simp [callN] at hx
  | n + 1, 0, hn, _, _, _, _, _, _ => by omega
  | n + 1, m + 1, hn, t, a, h, l, x, hx => by
    have ih := callN_le E (show n ≤ m by omega)
    cases t with
    | fn f =>
      simp only [callN] at hx ⊢
      cases hsp : E.spec f a h l with
      | some y => rw [hsp] at hx; exact hx
      | none =>
        rw [hsp] at hx
        simp only at hx ⊢
        cases hfn : E.fn f with
        | none => rw [hfn] at hx; exact hx
        | some fn =>
          rw [hfn] at hx
          simp only at hx ⊢
          cases hb : evCode (callN E n) l n none f fn.body ⟨a ++ List.replicate (fn.ntmps - a.length) .undef, h, []⟩ with
          | none => rw [hb] at hx; cases hx
          | some y => rw [hb] at hx; rw [evCode_le ih (by omega) hb]; exact hx
    | rnd o =>
      simp only [callN] at hx ⊢
      split at hx
      · rename_i st pend fid ts ps as bd dd ho
        split at hx
        · rename_i hc
          rw [if_pos hc]
          split at hx
          · rename_i s1 h1
            rw [evCode_le ih (by omega) h1]
            simp only
            split at hx
            · rename_i pend1 fid1 ts1 ps1 as1 bd1 d1 ho1
              skip
              split at hx
              · rename_i ex s2 h2
                rw [evCode_le ih (by omega) h2]
                exact hx
              · cases hx
            · cases hx
          · cases hx
        · cases hx
      · cases hx

theorem R_run {E : Env} {n : Nat} {t : Tgt} {a : List AV} {h : List AO} {l : Nat} {x : AV × List AO} (hx : callN E n t a h l = some x) : R E t a h l = some x :=
  R_some.2 ⟨n, fun m hm => callN_le E hm _ _ _ _ _ hx⟩

theorem R_res {E : Env} {n : Nat} {t : Tgt} {a : List AV} {h : List AO} {l : Nat} {v : AV} (hx : (callN E n t a h l).map (·.1) = some v) : ∃ h', R E t a h l = some (v, h') := by
  cases e : callN E n t a h l with
  | none => rw [e] at hx; cases hx
  | some y => rw [e] at hx; cases hx; exact ⟨y.2, R_run e⟩

end Go.Am
