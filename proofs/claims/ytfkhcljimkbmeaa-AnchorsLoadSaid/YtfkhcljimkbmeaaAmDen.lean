/-
What the abstract machine comes to in the end, whatever its fuel: a function of code and state, without fuel.
-/
import Derived.Test.YtfkhcljimkbmeaaAmFn
namespace Go.Am
open Go
set_option linter.unusedVariables false
set_option linter.unusedSimpArgs false

variable {E : Env} {α β γ : Type}

/-- what a call comes to, if there is fuel enough -/
def Evt (E : Env) (t : Tgt) (a : List AV) (h : List AO) (lim : Nat) (x : AV × List AO) : Prop := ∃ N, ∀ n, N ≤ n → callN E n t a h lim = some x

theorem Evt.unique {t : Tgt} {a : List AV} {h : List AO} {lim : Nat} {x y : AV × List AO} (h1 : Evt E t a h lim x) (h2 : Evt E t a h lim y) : x = y := by
  obtain ⟨N, k1⟩ := h1
  obtain ⟨M, k2⟩ := h2
  have := (k1 (max N M) (Nat.le_max_left _ _)).symm.trans (k2 (max N M) (Nat.le_max_right _ _))
  simpa using this

open Classical in
noncomputable def R (E : Env) : Callee := fun t a h lim => if hx : ∃ x, Evt E t a h lim x then some hx.choose else none

theorem R_some {t : Tgt} {a : List AV} {h : List AO} {lim : Nat} {x : AV × List AO} : R E t a h lim = some x ↔ Evt E t a h lim x := by
  unfold R
  split
  · rename_i hx
    constructor
    · intro e; cases e; exact hx.choose_spec
    · intro e; rw [hx.choose_spec.unique e]
  · rename_i hx
    constructor
    · intro e; cases e
    · intro e; exact absurd ⟨x, e⟩ hx

/-- rounds, as many as there are -/
theorem iter_mono {f : St → Option (Ex × St)} : ∀ {n m : Nat} {s : St} {x : Ex × St}, n ≤ m → iter f n s = some x → iter f m s = some x
  | 0, _, _, _, _, hx => by simp [iter] at hx
  | n + 1, 0, _, _, hl, _ => by omega
  | n + 1, m + 1, s, x, hl, hx => by
    simp only [iter] at hx ⊢
    split at hx
    · exact iter_mono (by omega) hx
    · exact hx

open Classical in
noncomputable def lp (f : St → Option (Ex × St)) (s : St) : Option (Ex × St) := if hx : ∃ x n, iter f n s = some x then some hx.choose else none

theorem lp_some {f : St → Option (Ex × St)} {s : St} {x : Ex × St} : lp f s = some x ↔ ∃ n, iter f n s = some x := by
  unfold lp
  split
  · rename_i hx
    constructor
    · intro e; cases e; exact hx.choose_spec
    · rintro ⟨n, e⟩
      obtain ⟨m, e'⟩ := hx.choose_spec
      have a := iter_mono (Nat.le_max_left n m) e
      have b := iter_mono (Nat.le_max_right n m) e'
      rw [a] at b
      simp only [Option.some.injEq] at b
      exact congrArg some b.symm
  · rename_i hx
    constructor
    · intro e; cases e
    · rintro ⟨n, e⟩; exact absurd ⟨x, n, e⟩ hx

noncomputable def den (E : Env) (lim : Nat) (rnd : Option Nat) (fid : Nat) : ACode → St → Option (Ex × St)
  | .skip, s => some (.nrm, s)
  | .region k ops, s => match evOps (R E) lim s.heap.length ops s.tmps (s.heap ++ List.replicate k .tomb) with
    | some (ts, h) => some (.nrm, { s with tmps := ts, heap := h })
    | none => none
  | .seq a b, s => match den E lim rnd fid a s with
    | some (.nrm, s') => den E lim rnd fid b s'
    | r => r
  | .cond c a b, s => match c.ev s.tmps with
    | .bool true => den E lim rnd fid a s
    | .bool false => den E lim rnd fid b s
    | _ => none
  | .block id c, s => match den E lim rnd fid c s with
    | some (.exit id', s') => if id' = id then some (.nrm, s') else some (.exit id', s')
    | r => r
  | .loop c, s => lp (den E lim rnd fid c) s
  | .scope c, s => den E lim rnd fid c s
  | .exit id, s => some (.exit id, s)
  | .ret, s => some (.ret, s)
  | .rangeFunc f params assign body, s =>
    match rnd with
    | some _ => none
    | none =>
      let d := s.heap.length
      let l := d + 1
      match f.ev s.tmps with
      | .fn g first captured =>
        match R E (.fn g) (first ++ [.yld l] ++ captured) (s.heap ++ [.dfr, .loop .ready none fid s.tmps params assign body d]) lim with
        | some (_, h3) =>
          match h3[l]? with
          | some (.loop .ready pend fid ts ps as bd d') => some (pend.getD .nrm, { s with heap := h3.set l (.loop .exhausted pend fid ts ps as bd d'), marks := d :: s.marks })
          | some (.loop .done pend fid ts ps as bd d') => some (pend.getD .nrm, { s with heap := h3.set l (.loop .exhausted pend fid ts ps as bd d'), marks := d :: s.marks })
          | _ => none
        | none => none
      | _ => none

/-- from some fuel on -/
def Ev (f : Nat → Option α) (x : α) : Prop := ∃ N, ∀ n, N ≤ n → f n = some x

theorem Ev.const (x : α) : Ev (fun _ => some x) x := ⟨0, fun _ _ => rfl⟩
theorem Ev.of {f : Nat → Option α} {x : α} (h : ∀ n, f n = some x) : Ev f x := ⟨0, fun n _ => h n⟩
theorem Ev.bind {f : Nat → Option α} {x : α} (h : Ev f x) {g : Nat → Option β} {y : β} (k : Ev g y) {r : Nat → Option γ} {z : γ} (hh : ∀ n, f n = some x → g n = some y → r n = some z) : Ev r z := by
  obtain ⟨N, h⟩ := h
  obtain ⟨M, k⟩ := k
  exact ⟨max N M, fun n hn => hh n (h n (by omega)) (k n (by omega))⟩
theorem Ev.map {f : Nat → Option α} {x : α} (h : Ev f x) {r : Nat → Option β} {z : β} (hh : ∀ n, f n = some x → r n = some z) : Ev r z := by
  obtain ⟨N, h⟩ := h
  exact ⟨N, fun n hn => hh n (h n hn)⟩

theorem R_ev {t : Tgt} {a : List AV} {h : List AO} {lim : Nat} {x : AV × List AO} (e : R E t a h lim = some x) : Ev (fun n => callN E n t a h lim) x := R_some.1 e

theorem exOp_ev {lim : Nat} {pl : Option Nat} {ρ : Opd → AV} {h : List AO} {op : AOp} {y : AV × List AO} (hx : exOp (R E) lim pl ρ h op = some y) : Ev (fun n => exOp (callN E n) lim pl ρ h op) y := by
  cases op with
  | call mode f args =>
    simp only [exOp] at hx ⊢
    split at hx
    · exact R_ev hx
    · split at hx
      · split at hx
        · rename_i hc
          exact (R_ev hc).map fun n e => by simp only [e]; exact hx
        · cases hx
      · cases hx
    · split at hx
      · rename_i hp
        split at hx
        · rename_i hc
          exact (R_ev hc).map fun n e => by simp only [e, hp, if_true]; exact hx
        · cases hx
      · cases hx
    · split at hx
      · rename_i hc
        exact (R_ev hc).map fun n e => by simp only [e]; exact hx
      · cases hx
  | callv q f args =>
    simp only [exOp] at hx ⊢
    split at hx
    · split at hx
      · split at hx
        · rename_i hc
          exact (R_ev hc).map fun n e => by simp only [*, if_true]
        · cases hx
      · rename_i hq
        exact (R_ev hx).map fun n e => by simp only [hq]; first | exact e | skip
    · split at hx
      · cases hx
      · rename_i hq
        exact (R_ev hx).map fun n e => by simp only [hq]; first | exact e | skip
    · cases hx
  | _ => exact .of fun n => hx

theorem exMask_ev {lim base : Nat} {pl : Option Nat} {ρ : Opd → AV} {h : List AO} {op : AOp} {m : List Nat} {y : AV × List AO} (hx : exMask (R E) lim base pl ρ h op m = some y) : Ev (fun n => exMask (callN E n) lim base pl ρ h op m) y := by
  unfold exMask at hx ⊢
  split at hx
  · exact exOp_ev hx
  · split at hx
    · rename_i hc
      exact (exOp_ev hc).map fun n e => by simp only [e]; exact hx
    · cases hx

theorem exOper_ev {lim base : Nat} {ts : List AV} {h : List AO} {o : AOper} {y : AV × List AO} (hx : exOper (R E) lim base ts h o = some y) : Ev (fun n => exOper (callN E n) lim base ts h o) y := by
  unfold exOper at hx ⊢
  split at hx
  · split at hx
    · split at hx
      · rename_i hb
        exact (exOp_ev hx).map fun n e => by rw [if_pos hb]; exact e
      · cases hx
    · cases hx
  · exact exMask_ev hx

theorem stepOp_ev {lim base : Nat} {ts : List AV} {h : List AO} {o : AOper} {y : List AV × List AO} (hx : stepOp (R E) lim base o ts h = some y) : Ev (fun n => stepOp (callN E n) lim base o ts h) y := by
  unfold stepOp at hx ⊢
  split at hx
  · rename_i hw
    split at hx
    · rename_i hc
      exact (exOper_ev hc).map fun n e => by simp only [hw, if_true, e]; exact hx
    · cases hx
  · rename_i hw
    exact .of fun n => by simp only [hw]; exact hx

theorem evOps_ev {lim base : Nat} : ∀ {ops : List AOper} {ts : List AV} {h : List AO} {y : List AV × List AO}, evOps (R E) lim base ops ts h = some y → Ev (fun n => evOps (callN E n) lim base ops ts h) y
  | [], ts, h, y, hx => .of fun n => hx
  | o :: r, ts, h, y, hx => by
    simp only [evOps] at hx ⊢
    split at hx
    · rename_i hc
      exact (stepOp_ev hc).bind (evOps_ev hx) fun n e1 e2 => by simp only [e1]; exact e2
    · cases hx

theorem iter_ev {f : Nat → St → Option (Ex × St)} {g : St → Option (Ex × St)} (hg : ∀ s x, g s = some x → Ev (fun n => f n s) x) : ∀ {k : Nat} {s : St} {x : Ex × St}, iter g k s = some x → Ev (fun n => iter (f n) n s) x
  | 0, _, _, hx => by simp [iter] at hx
  | k + 1, s, x, hx => by
    simp only [iter] at hx
    split at hx
    · rename_i s' hc
      obtain ⟨N, h1⟩ := hg _ _ hc
      have key : ∀ (k : Nat) (s : St) (x : Ex × St), iter g k s = some x → ∃ N, ∀ n, N ≤ n → ∀ m, k ≤ m → iter (f n) m s = some x := by
        intro k
        induction k with
        | zero => intro s x hx; simp [iter] at hx
        | succ k ih =>
          intro s x hx
          simp only [iter] at hx
          split at hx
          · rename_i s1 hc1
            obtain ⟨N1, k1⟩ := hg _ _ hc1
            obtain ⟨N2, k2⟩ := ih _ _ hx
            refine ⟨max N1 N2, fun n hn m hm => ?_⟩
            obtain ⟨m', rfl⟩ : ∃ m', m = m' + 1 := ⟨m - 1, by omega⟩
            simp only [iter, k1 n (by omega)]
            exact k2 n (by omega) m' (by omega)
          · rename_i hne
            cases hgs : g s with
            | none => rw [hgs] at hx; cases hx
            | some y =>
              obtain ⟨N1, k1⟩ := hg _ _ hgs
              rw [hgs] at hx; cases hx
              refine ⟨N1, fun n hn m hm => ?_⟩
              obtain ⟨m', rfl⟩ : ∃ m', m = m' + 1 := ⟨m - 1, by omega⟩
              simp only [iter, k1 n hn]
              obtain ⟨ex, s2⟩ := x
              cases ex with
              | nrm => exact absurd hgs (hne s2)
              | exit i => rfl
              | ret => rfl
      obtain ⟨N2, h2⟩ := key k _ _ hx
      refine ⟨max (max N N2) (k + 1), fun n hn => ?_⟩
      obtain ⟨m', rfl⟩ : ∃ m', n = m' + 1 := ⟨n - 1, by omega⟩
      simp only [iter, h1 (m' + 1) (by omega)]
      exact h2 (m' + 1) (by omega) m' (by omega)
    · rename_i hne
      cases hgs : g s with
      | none => rw [hgs] at hx; cases hx
      | some y =>
        obtain ⟨N1, k1⟩ := hg _ _ hgs
        rw [hgs] at hx; cases hx
        refine ⟨N1 + 1, fun n hn => ?_⟩
        obtain ⟨m', rfl⟩ : ∃ m', n = m' + 1 := ⟨n - 1, by omega⟩
        simp only [iter, k1 (m' + 1) (by omega)]
        obtain ⟨ex, s2⟩ := x
        cases ex with
        | nrm => exact absurd hgs (hne s2)
        | exit i => rfl
        | ret => rfl

theorem den_ev {lim : Nat} {rnd : Option Nat} {fid : Nat} : ∀ {c : ACode} {s : St} {x : Ex × St}, den E lim rnd fid c s = some x → Ev (fun n => evCode (callN E n) lim n rnd fid c s) x := by
  intro c
  induction c with
  | skip => intro s x hx; exact .of fun n => hx
  | exit id => intro s x hx; exact .of fun n => hx
  | ret => intro s x hx; exact .of fun n => hx
  | region k ops =>
    intro s x hx
    simp only [den] at hx
    simp only [evCode]
    split at hx
    · rename_i hc
      exact (evOps_ev hc).map fun n e => by simp only [e]; exact hx
    · cases hx
  | seq a b iha ihb =>
    intro s x hx
    simp only [den] at hx
    simp only [evCode]
    cases ha : den E lim rnd fid a s with
    | none => rw [ha] at hx; cases hx
    | some y =>
      obtain ⟨ex, s1⟩ := y
      rw [ha] at hx
      cases ex with
      | nrm => exact (iha ha).bind (ihb hx) fun n e1 e2 => by simp only [e1]; exact e2
      | exit i => cases hx; exact (iha ha).map fun n e1 => by simp only [e1]
      | ret => cases hx; exact (iha ha).map fun n e1 => by simp only [e1]
  | cond c a b iha ihb =>
    intro s x hx
    simp only [den] at hx
    simp only [evCode]
    split at hx
    · rename_i hc; simp only [hc]; exact iha hx
    · rename_i hc; simp only [hc]; exact ihb hx
    · cases hx
  | block id c ih =>
    intro s x hx
    simp only [den] at hx
    simp only [evCode]
    cases hc : den E lim rnd fid c s with
    | none => rw [hc] at hx; cases hx
    | some y =>
      rw [hc] at hx
      exact (ih hc).map fun n e => by simp only [e]; exact hx
  | loop c ih =>
    intro s x hx
    simp only [den] at hx
    simp only [evCode]
    obtain ⟨k, hk⟩ := lp_some.1 hx
    exact iter_ev (f := fun n => evCode (callN E n) lim n rnd fid c) (fun s x => ih) hk
  | scope c ih => intro s x hx; simp only [den] at hx; simp only [evCode]; exact ih hx
  | rangeFunc f ps as bd _ _ =>
    intro s x hx
    simp only [den] at hx
    simp only [evCode]
    split at hx
    · cases hx
    · split at hx
      · rename_i g first captured hf
        simp only [hf]
        split at hx
        · rename_i r h3 hc
          exact (R_ev hc).map fun n e => by simp only [e]; exact hx
        · cases hx
      · cases hx

/-- a call of a function, by its body -/
theorem R_fn {f : Nat} {fn : AFn} {args : List AV} {h : List AO} {lim : Nat} (hs : E.spec f args h lim = none) (hf : E.fn f = some fn) {ex : Ex} {s : St}
    (hd : den E lim none f fn.body ⟨args ++ List.replicate (fn.ntmps - args.length) .undef, h, []⟩ = some (ex, s)) (hex : ex = .nrm ∨ ex = .ret) {x : AV × List AO} (hr : finish lim fn.results s = some x) : R E (.fn f) args h lim = some x := by
  rw [R_some]
  obtain ⟨N, hN⟩ := den_ev hd
  refine ⟨N + 1, fun n hn => ?_⟩
  obtain ⟨m, rfl⟩ : ∃ m, n = m + 1 := ⟨n - 1, by omega⟩
  simp only [callN, hs, hf, hN m (by omega)]
  rcases hex with rfl | rfl <;> exact hr

end Go.Am
