/-
Rules by which the code of the abstract machine is run in a proof: a goal 'G ..' says that the code, and what comes behind it, ends as wanted.
-/
import Derived.Test.YtfkhcljimkbmeaaAmDen
namespace Go.Am
open Go
set_option linter.unusedVariables false
set_option linter.unusedSimpArgs false

/-- what comes behind the code -/
inductive KF where
  | seq (b : ACode)
  | block (id : Nat)

/-- where the code runs, and what is wanted of its end -/
structure Cx where
  E : Env
  lim : Nat
  rnd : Option Nat
  fid : Nat
  Q : Ex → St → Prop

def unw (X : Cx) : Ex → List KF → St → Prop
  | ex, [], s => X.Q ex s
  | .nrm, .seq b :: k, s => match den X.E X.lim X.rnd X.fid b s with
    | some (ex, s') => unw X ex k s'
    | none => False
  | ex, .seq _ :: k, s => unw X ex k s
  | .exit i, .block j :: k, s => if i = j then unw X .nrm k s else unw X (.exit i) k s
  | ex, .block _ :: k, s => unw X ex k s

def unwO (X : Cx) (o : Option (Ex × St)) (k : List KF) : Prop :=
  match o with
  | some (ex, s') => unw X ex k s'
  | none => False

def G (X : Cx) (c : ACode) (k : List KF) (ts : List AV) (h : List AO) (mk : List Nat) : Prop := unwO X (den X.E X.lim X.rnd X.fid c ⟨ts, h, mk⟩) k

/-- operations, and what comes behind them -/
def GO (X : Cx) (base : Nat) (ops : List AOper) (k : List KF) (ts : List AV) (h : List AO) (mk : List Nat) : Prop :=
  match evOps (R X.E) X.lim base ops ts h with
  | some (ts', h') => unw X .nrm k ⟨ts', h', mk⟩
  | none => False

def GX (X : Cx) (base : Nat) (o : Option (AV × List AO)) (d : Option Nat) (r : List AOper) (k : List KF) (ts : List AV) (mk : List Nat) : Prop :=
  match o with
  | some (v, h) => GO X base r k (putT ts d v) h mk
  | none => False

/-- a value is there, and the heap is as it was -/
def GP (X : Cx) (base : Nat) (o : Option AV) (d : Option Nat) (r : List AOper) (k : List KF) (ts : List AV) (h : List AO) (mk : List Nat) : Prop :=
  match o with
  | some v => GO X base r k (putT ts d v) h mk
  | none => False

def GC (X : Cx) (v : AV) (a b : ACode) (k : List KF) (ts : List AV) (h : List AO) (mk : List Nat) : Prop :=
  match v with
  | .bool true => G X a k ts h mk
  | .bool false => G X b k ts h mk
  | _ => False

def GG (X : Cx) (base : Nat) (v : AV) (w : Bool) (o : AOper) (r : List AOper) (k : List KF) (ts : List AV) (h : List AO) (mk : List Nat) : Prop :=
  match v with
  | .bool b => if b == w then GO X base (o :: r) k ts h mk else GO X base r k (putT ts o.dst .undef) h mk
  | _ => GO X base r k (putT ts o.dst .undef) h mk

section
variable {X : Cx} {base : Nat} {k : List KF} {ts : List AV} {h : List AO} {mk : List Nat} {a b c : ACode} {r : List AOper} {d : Option Nat}

theorem G_seq : G X (.seq a b) k ts h mk = G X a (.seq b :: k) ts h mk := by
  simp only [G, den]
  cases den X.E X.lim X.rnd X.fid a ⟨ts, h, mk⟩ with
  | none => rfl
  | some y => obtain ⟨ex, s⟩ := y; cases ex <;> rfl
theorem G_skip_nil : G X .skip [] ts h mk = X.Q .nrm ⟨ts, h, mk⟩ := id rfl
theorem G_skip_seq : G X .skip (.seq b :: k) ts h mk = G X b k ts h mk := id rfl
theorem G_skip_block {i : Nat} : G X .skip (.block i :: k) ts h mk = G X .skip k ts h mk := id rfl
theorem G_ret_nil : G X .ret [] ts h mk = X.Q .ret ⟨ts, h, mk⟩ := id rfl
theorem G_ret_seq : G X .ret (.seq b :: k) ts h mk = G X .ret k ts h mk := id rfl
theorem G_ret_block {i : Nat} : G X .ret (.block i :: k) ts h mk = G X .ret k ts h mk := id rfl
theorem G_exit_nil {i : Nat} : G X (.exit i) [] ts h mk = X.Q (.exit i) ⟨ts, h, mk⟩ := id rfl
theorem G_exit_seq {i : Nat} : G X (.exit i) (.seq b :: k) ts h mk = G X (.exit i) k ts h mk := id rfl
theorem G_exit_block {i j : Nat} : G X (.exit i) (.block j :: k) ts h mk = if i = j then G X .skip k ts h mk else G X (.exit i) k ts h mk := id rfl
theorem G_exit_same {i : Nat} : G X (.exit i) (.block i :: k) ts h mk = G X .skip k ts h mk := by rw [G_exit_block, if_pos rfl]
theorem G_block {i : Nat} : G X (.block i c) k ts h mk = G X c (.block i :: k) ts h mk := by
  simp only [G, den]
  cases den X.E X.lim X.rnd X.fid c ⟨ts, h, mk⟩ with
  | none => rfl
  | some y =>
    obtain ⟨ex, s⟩ := y
    cases ex with
    | nrm => rfl
    | ret => rfl
    | exit j => by_cases e : j = i <;> simp [e, unwO, unw]
theorem G_scope : G X (.scope c) k ts h mk = G X c k ts h mk := id rfl
theorem G_cond {o : Opd} : G X (.cond o a b) k ts h mk = GC X (o.ev ts) a b k ts h mk := by
  simp only [G, den, GC]
  cases Opd.ev ts o with
  | bool v => cases v <;> rfl
  | _ => rfl
theorem G_region0 {ops : List AOper} : G X (.region 0 ops) k ts h mk = GO X h.length ops k ts h mk := by
  simp only [G, den, GO, List.replicate_zero, List.append_nil]
  cases evOps (R X.E) X.lim h.length ops ts h with
  | none => rfl
  | some y => rfl
theorem G_region {n : Nat} {ops : List AOper} : G X (.region n ops) k ts h mk = GO X h.length ops k ts (h ++ List.replicate n .tomb) mk := by
  simp only [G, den, GO]
  cases evOps (R X.E) X.lim h.length ops ts (h ++ List.replicate n .tomb) with
  | none => rfl
  | some y => rfl

theorem GC_true : GC X (.bool true) a b k ts h mk = G X a k ts h mk := id rfl
theorem GC_false : GC X (.bool false) a b k ts h mk = G X b k ts h mk := id rfl
theorem GC_split {v : Bool} (h1 : v = true → G X a k ts h mk) (h2 : v = false → G X b k ts h mk) : GC X (.bool v) a b k ts h mk := by
  cases v
  · exact h2 rfl
  · exact h1 rfl
theorem GC_splitd {p : Prop} [Decidable p] (h1 : p → G X a k ts h mk) (h2 : ¬ p → G X b k ts h mk) : GC X (.bool (decide p)) a b k ts h mk :=
  GC_split (fun hp => h1 (of_decide_eq_true hp)) (fun hp => h2 (of_decide_eq_false hp))

theorem GO_nil : GO X base [] k ts h mk = G X .skip k ts h mk := id rfl
theorem GO_cons {op : AOp} : GO X base (⟨d, op, none, none, []⟩ :: r) k ts h mk = GX X base (exOp (R X.E) X.lim none (Opd.ev ts) h op) d r k ts mk := by
  simp only [GO, evOps, stepOp, wanted, if_true, exOper, exMask, GX, Option.map_none]
  cases exOp (R X.E) X.lim none (Opd.ev ts) h op with
  | none => rfl
  | some y => rfl
theorem GO_slot {op : AOp} {sl : Option Nat} {m : List Nat} : GO X base (⟨d, op, none, sl, m⟩ :: r) k ts h mk = GX X base (exOper (R X.E) X.lim base ts h ⟨d, op, none, sl, m⟩) d r k ts mk := by
  simp only [GO, evOps, stepOp, wanted, if_true, GX]
  cases exOper (R X.E) X.lim base ts h ⟨d, op, none, sl, m⟩ with
  | none => rfl
  | some y => rfl
theorem GO_p {o : POp} {m : List Nat} : GO X base (⟨d, .p o, none, none, []⟩ :: r) k ts h mk = GP X base (pex (Opd.ev ts) o) d r k ts h mk := by
  rw [GO_cons]
  simp only [exOp, GX, GP]
  cases pex (Opd.ev ts) o <;> rfl
theorem GO_guard {op : AOp} {t : Nat} {w : Bool} {sl : Option Nat} {m : List Nat} : GO X base (⟨d, op, some (t, w), sl, m⟩ :: r) k ts h mk = GG X base (ts.getD t .undef) w ⟨d, op, none, sl, m⟩ r k ts h mk := by
  have e : exOper (R X.E) X.lim base ts h ⟨d, op, some (t, w), sl, m⟩ = exOper (R X.E) X.lim base ts h ⟨d, op, none, sl, m⟩ := by
    unfold exOper; rfl
  simp only [GO, evOps, stepOp, wanted, GG, e, if_true, List.getD_eq_getElem?_getD]
  cases ts[t]? with
  | none => rfl
  | some v =>
    cases v <;> first | rfl | skip
    rename_i b
    simp only [Option.getD_some]
    by_cases hb : (b == w) = true <;> simp only [hb, if_true, if_false, Bool.false_eq_true] <;> rfl

theorem GG_yes {v : Bool} {o : AOper} : GG X base (.bool v) v o r k ts h mk = GO X base (o :: r) k ts h mk := by simp [GG]
theorem GG_no1 {op : AOp} {sl : Option Nat} {m : List Nat} {x : Option (Nat × Bool)} : GG X base (.bool false) true ⟨d, op, x, sl, m⟩ r k ts h mk = GO X base r k (putT ts d .undef) h mk := id rfl
theorem GG_no2 {op : AOp} {sl : Option Nat} {m : List Nat} {x : Option (Nat × Bool)} : GG X base (.bool true) false ⟨d, op, x, sl, m⟩ r k ts h mk = GO X base r k (putT ts d .undef) h mk := id rfl
theorem GG_split {v w : Bool} {o : AOper} (h1 : v = w → GO X base (o :: r) k ts h mk) (h2 : v = (!w) → GO X base r k (putT ts o.dst .undef) h mk) : GG X base (.bool v) w o r k ts h mk := by
  simp only [GG]
  cases v <;> cases w <;> simp_all

theorem GX_some {v : AV} {n : Nat} : GX X base (some (v, h)) (some n) r k ts mk = GO X base r k (ts.set n v) h mk := id rfl
theorem GX_some0 {v : AV} : GX X base (some (v, h)) none r k ts mk = GO X base r k ts h mk := id rfl
theorem GX_none : GX X base none d r k ts mk = False := id rfl
theorem GX_map {o : Option AV} : GX X base (o.map fun v => (v, h)) d r k ts mk = GP X base o d r k ts h mk := by cases o <;> rfl
theorem GP_some {v : AV} {n : Nat} : GP X base (some v) (some n) r k ts h mk = GO X base r k (ts.set n v) h mk := id rfl
theorem GP_none : GP X base none d r k ts h mk = False := id rfl
theorem putT_some {n : Nat} {v : AV} : putT ts (some n) v = ts.set n v := id rfl
theorem putT_none {v : AV} : putT ts none v = ts := id rfl
end

/-! the parts of operations that look at values: by their form -/

theorem ev_t {ts : List AV} {i : Nat} : Opd.ev ts (.t i) = ts.getD i .undef := id rfl
theorem ev_c {ts : List AV} {v : AV} : Opd.ev ts (.c v) = v := id rfl

/-- what a function's end is, in words of its result -/
def Done (lim : Nat) (rs : List ARes) (P : AV → List AO → Prop) (ex : Ex) (s : St) : Prop := (ex = .nrm ∨ ex = .ret) ∧ ∃ x, finish lim rs s = some x ∧ P x.1 x.2

/-- a call on a heap of its own: what is handed back reads so -/
noncomputable def Iso (E : Env) (f : Nat) (vs : List AV) (st : Bool) : Option AV :=
  match R E (.fn f) vs [] 0 with
  | some (r, h') => view st h' 8 r
  | none => none

/-- a call that may only read -/
noncomputable def Ro (E : Env) (f : Nat) (vs : List AV) (h : List AO) : Option AV :=
  match R E (.fn f) vs h h.length with
  | some (r, _) => if r.under h.length then some r else none
  | none => none

section
variable {E : Env} {lim : Nat} {pl : Option Nat} {ρ : Opd → AV} {h : List AO}

theorem exOp_p {o : POp} : exOp (R E) lim pl ρ h (.p o) = (pex ρ o).map fun v => (v, h) := id rfl
theorem exOp_call1 {f : Nat} {args : List Opd} : exOp (R E) lim pl ρ h (.call 1 f args) =
    match (args.map ρ).mapM (view false h 8) with
    | some vs => (Iso E f vs (!AV.pureV.go (args.map ρ))).map fun v => (v, h)
    | none => none := by
  simp only [exOp, Iso]
  cases (args.map ρ).mapM (view false h 8) with
  | none => rfl
  | some vs =>
    simp only
    cases R E (.fn f) vs [] 0 with
    | none => rfl
    | some y => rfl
theorem exOp_call3 {f : Nat} {args : List Opd} : exOp (R E) lim pl ρ h (.call 3 f args) = (Ro E f (args.map ρ) h).map fun v => (v, h) := by
  simp only [exOp, Ro]
  cases R E (.fn f) (args.map ρ) h h.length with
  | none => rfl
  | some y => simp only; split <;> rfl
theorem exOp_call0 {f : Nat} {args : List Opd} : exOp (R E) lim pl ρ h (.call 0 f args) = R E (.fn f) (args.map ρ) h lim := id rfl
theorem exOp_callv1 {f : Opd} {args : List Opd} : exOp (R E) lim pl ρ h (.callv true f args) = match ρ f with
    | .fn g first captured => (Ro E g (first ++ args.map ρ ++ captured) h).map fun v => (v, h)
    | _ => none := by
  simp only [exOp]
  cases hf : ρ f with
  | fn g a b =>
    simp only [Ro, if_true]
    cases R E (.fn g) (a ++ List.map ρ args ++ b) h h.length with
    | none => rfl
    | some y => simp only; split <;> rfl
  | _ => rfl
theorem exOp_callv0 {f : Opd} {args : List Opd} : exOp (R E) lim pl ρ h (.callv false f args) = match ρ f with
    | .fn g first captured => R E (.fn g) (first ++ args.map ρ ++ captured) h lim
    | .yld o => R E (.rnd o) (args.map ρ) h lim
    | _ => none := by
  simp only [exOp]
  cases ρ f <;> rfl
end

/-! from the run of a body to what a call comes to -/
section
variable {E : Env} {f : Nat} {fn : AFn}

theorem R_of {vs : List AV} {h : List AO} {lim : Nat} (P : AV → List AO → Prop) (hs : E.spec f vs h lim = none) (hf : E.fn f = some fn)
    (hg : G ⟨E, lim, none, f, Done lim fn.results P⟩ fn.body [] (vs ++ List.replicate (fn.ntmps - vs.length) .undef) h []) : ∃ r h', R E (.fn f) vs h lim = some (r, h') ∧ P r h' := by
  simp only [G, unwO] at hg
  split at hg
  · rename_i ex s hd
    obtain ⟨hex, x, hx, hp⟩ := hg
    exact ⟨x.1, x.2, R_fn hs hf hd hex hx, hp⟩
  · exact hg.elim

theorem Iso_of {vs : List AV} {st : Bool} {v : AV} (hs : E.spec f vs [] 0 = none) (hf : E.fn f = some fn)
    (hg : G ⟨E, 0, none, f, Done 0 fn.results fun r h' => view st h' 8 r = some v⟩ fn.body [] (vs ++ List.replicate (fn.ntmps - vs.length) .undef) [] []) : Iso E f vs st = some v := by
  obtain ⟨r, h', h1, h2⟩ := R_of _ hs hf hg
  simp only [Iso, h1, h2]

theorem Ro_of {vs : List AV} {h : List AO} {v : AV} (hs : E.spec f vs h h.length = none) (hf : E.fn f = some fn)
    (hg : G ⟨E, h.length, none, f, Done h.length fn.results fun r h' => r = v ∧ v.under h.length = true⟩ fn.body [] (vs ++ List.replicate (fn.ntmps - vs.length) .undef) h []) : Ro E f vs h = some v := by
  obtain ⟨r, h', h1, rfl, h2⟩ := R_of _ hs hf hg
  simp only [Ro, h1, h2, if_true]
end

/-! loops -/
section
variable {X : Cx} {k : List KF} {c : ACode} {ts : List AV} {h : List AO} {mk : List Nat}

theorem lp_unfold {f : St → Option (Ex × St)} {s : St} : lp f s = match f s with
    | some (.nrm, s') => lp f s'
    | r => r := by
  have key : ∀ x, lp f s = some x ↔ (match f s with | some (.nrm, s') => lp f s' | r => r) = some x := by
    intro x
    rw [lp_some]
    cases hs : f s with
    | none =>
      constructor
      · rintro ⟨n, hn⟩
        cases n with
        | zero => simp [iter] at hn
        | succ n => simp only [iter, hs] at hn; cases hn
      · intro hx; cases hx
    | some y =>
      obtain ⟨ex, s'⟩ := y
      have fin : ∀ e2, e2 ≠ Ex.nrm → f s = some (e2, s') → ((∃ n, iter f n s = some x) ↔ some (e2, s') = some x) := by
        intro e2 he hs
        constructor
        · rintro ⟨n, hn⟩
          cases n with
          | zero => simp [iter] at hn
          | succ n => simp only [iter, hs] at hn; cases e2 <;> first | exact absurd rfl he | exact hn
        · intro hx
          refine ⟨1, ?_⟩
          simp only [iter, hs]
          cases e2 <;> first | exact absurd rfl he | exact hx
      cases ex with
      | nrm =>
        constructor
        · rintro ⟨n, hn⟩
          cases n with
          | zero => simp [iter] at hn
          | succ n => simp only [iter, hs] at hn; exact lp_some.2 ⟨n, hn⟩
        · intro hx
          obtain ⟨n, hn⟩ := lp_some.1 hx
          exact ⟨n + 1, by simp only [iter, hs]; exact hn⟩
      | exit i => exact fin _ (by simp) hs
      | ret => exact fin _ (by simp) hs
  cases h1 : lp f s with
  | none =>
    cases h2 : (match f s with | some (.nrm, s') => lp f s' | r => r) with
    | none => rfl
    | some y => have := (key y).2 h2; rw [h1] at this; cases this
  | some x => exact ((key x).1 h1).symm

/-- one round: it goes on, or it leaves -/
theorem G_loop : G X (.loop c) k ts h mk = G X c (.seq (.loop c) :: k) ts h mk := by
  simp only [G, den]
  rw [lp_unfold]
  cases den X.E X.lim X.rnd X.fid c ⟨ts, h, mk⟩ with
  | none => rfl
  | some y => obtain ⟨ex, s⟩ := y; cases ex <;> rfl

/-- a loop by a measure: each round ends in the same relation, with less to go, or is what is wanted -/
theorem G_loop_ind (I : Nat → List AV → List AO → List Nat → Prop) (step : ∀ n ts h mk, (∀ m ts h mk, m < n → I m ts h mk → G X (.loop c) k ts h mk) → I n ts h mk → G X c (.seq (.loop c) :: k) ts h mk) :
    ∀ n ts h mk, I n ts h mk → G X (.loop c) k ts h mk := by
  intro n
  induction n using Nat.strongRecOn with
  | ind n ih =>
    intro ts h mk hi
    rw [G_loop]
    exact step n ts h mk (fun m ts h mk hm hi => ih m hm ts h mk hi) hi

/-- what is wanted may be weakened in the middle: the code up to here comes to 'I', and from there on -/
theorem G_cut {a : ACode} (I : List AV → List AO → List Nat → Prop) (h1 : G { X with Q := fun ex s => ex = .nrm ∧ I s.tmps s.heap s.marks } a [] ts h mk)
    (h2 : ∀ ts h mk, I ts h mk → G X .skip k ts h mk) : G X a k ts h mk := by
  simp only [G] at h1 ⊢
  cases hd : den X.E X.lim X.rnd X.fid a ⟨ts, h, mk⟩ with
  | none => rw [hd] at h1; exact h1.elim
  | some y =>
    obtain ⟨ex, s⟩ := y
    rw [hd] at h1
    simp only [unwO, unw] at h1
    obtain ⟨rfl, hi⟩ := h1
    exact h2 _ _ _ hi
end

/-- a list of places, written out -/
def lit (ts : List AV) : Nat → Nat → List AV
  | _, 0 => []
  | i, n + 1 => ts.getD i .undef :: lit ts (i + 1) n

theorem lit_eq : ∀ (n i : Nat) (ts : List AV), ts.length = i + n → ts.drop i = lit ts i n
  | 0, i, ts, h => by simp [lit]; omega
  | n + 1, i, ts, h => by
    have hi : i < ts.length := by omega
    rw [lit, ← lit_eq n (i + 1) ts (by omega), List.drop_eq_getElem_cons hi]
    simp [List.getD_eq_getElem?_getD, hi]

theorem lit_all {n : Nat} {ts : List AV} (h : ts.length = n) : ts = lit ts 0 n := by
  have := lit_eq n 0 ts (by omega)
  simpa using this

end Go.Am
