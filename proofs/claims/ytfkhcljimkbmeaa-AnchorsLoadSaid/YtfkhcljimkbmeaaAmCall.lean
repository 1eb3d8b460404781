/-
Calls, by each mode.
-/
import Derived.Test.YtfkhcljimkbmeaaAmView
import Derived.AtR
import Derived.RangeFuncIn
namespace Go.Am
open Go
set_option linter.unusedVariables false
set_option linter.unusedSimpArgs false

variable {P : Program} {mode : Nat → Nat → Nat} {S : Fz} {φ : Mp} {B : Nat} {h : List AO} {w : World} {ρ : Operand → Value} {τ : Opd → AV} {m : Nat → Nat}

def startFr (P : Program) : Next → Frame
  | .enter f args => Frame.enter P f args .normal
  | .round l f tmps as bd => Frame.round l f tmps as bd .normal
  | _ => default

def isStart : Next → Bool
  | .enter .. | .round .. => true
  | _ => false

/-- what is begun so hands a value back to whoever called -/
def Runs (P : Program) (nx : Next) (w : World) (Q : Value → World → Prop) : Prop :=
  ∀ c cs, ∃ v w', Q v w' ∧ Steps P (lone (startFr P nx) (c :: cs) w) (lone (c.finish v) cs w')

def OpRun (P : Program) (s : Sem Next) (w : World) (Q : Value → World → Prop) : Prop :=
  (∃ v w', s.run P w = .ok (.value v) w' ∧ Q v w') ∨ (∃ w', s.run P w = .ok .skip w' ∧ Q undef w') ∨ (∃ nx, s.run P w = .ok nx w ∧ isStart nx = true ∧ Runs P nx w Q)

/-- a value and a world that fit an answer -/
def Fits (P : Program) (mode : Nat → Nat → Nat) (S : Fz) (φ : Mp) (B lim : Nat) (h : List AO) (w : World) (pl : Option Nat) (r : AV) (h' : List AO) (v : Value) (w' : World) : Prop :=
  ∃ S' φ', Rel S' φ' r v ∧ Post P mode S φ B lim h w pl S' φ' h' w'

/-- what the abstract machine says of a call is so -/
def CallSnd (P : Program) (mode : Nat → Nat → Nat) (call : Callee) : Prop :=
  ∀ t args h lim r h', call t args h lim = some (r, h') → lim ≤ h.length → ∀ S φ B w vals, HR P mode S φ B h w → RelL S φ args vals →
    match t with
    | .fn f => (∀ w, (callFunc f vals.toArray).run P w = .ok (.enter f vals.toArray) w) ∧ Runs P (.enter f vals.toArray) w (Fits P mode S φ B lim h w none r h')
    | .rnd o => ∀ l z, φ o = some (l, z) → ∃ nx, (Instr.yield l vals.toArray).run P w = .ok nx w ∧ isStart nx = true ∧ Runs P nx w (Fits P mode S φ B lim h w none r h')

theorem Runs.mono {nx : Next} {Q Q' : Value → World → Prop} (h : Runs P nx w Q) (hq : ∀ v w', Q v w' → Q' v w') : Runs P nx w Q' :=
  fun c cs => let ⟨v, w', q, s⟩ := h c cs; ⟨v, w', hq _ _ q, s⟩

def frozenAll (w : World) : Fz := fun b => match w.heap[b]? with
  | some (.cells c _ _) => some c
  | _ => none

theorem HR.empty (S : Fz) (w : World) (hS : ∀ b c, S b = some c → ∃ e fr, w.heap[b]? = some (.cells c e fr)) : HR P mode S Mp.no w.heap.size [] w :=
  ⟨Nat.le_refl _, fun o x hx => (by cases hx), fun o b z hx => (by cases hx), hS, fun o a ha => (by simp at ha), fun o o' a a' b z z' ha => (by simp at ha)⟩

theorem frozenAll_fro (w : World) : ∀ b c, frozenAll w b = some c → ∃ e fr, w.heap[b]? = some (.cells c e fr) := by
  intro b c hb
  unfold frozenAll at hb
  split at hb
  · rename_i c' e fr he; cases hb; exact ⟨e, fr, he⟩
  · cases hb

theorem frozenAll_of {w : World} {b : Nat} {c : Array Value} {e : TypeId} {fr : Nat × Nat} (h : w.heap[b]? = some (.cells c e fr)) : frozenAll w b = some c := by simp [frozenAll, h]

/-- the frozen blocks behind a call whose own memory is given up -/
def frozenFrom (S : Fz) (n : Nat) (w' : World) : Fz := fun b => if b < n then S b else frozenAll w' b

theorem HR.later (H : HR P mode S φ B h w) {w' : World} (fx : Fx w.heap.size w w') : HR P mode (frozenFrom S w.heap.size w') φ B h w' := by
  have hsub : ∀ b c, S b = some c → frozenFrom S w.heap.size w' b = some c := fun b c hs => by simp [frozenFrom, H.slt hs, hs]
  refine ⟨Nat.le_trans H.bs fx.size, H.dom, fun o b z hx => ⟨Nat.lt_of_lt_of_le (H.lt o b z hx).1 fx.size, (H.lt o b z hx).2⟩, ?_, ?_, H.inj⟩
  · intro b c hs
    unfold frozenFrom at hs
    split at hs
    · rename_i hb
      obtain ⟨e, fr, he⟩ := H.fro b c hs
      exact ⟨e, fr, (fx.old b hb).trans he⟩
    · exact frozenAll_fro w' b c hs
  · intro o a ho
    rcases H.obj o a ho with rfl | ⟨b, z, h1, h2, h3⟩
    · exact .inl rfl
    · have hb := (H.lt o b z h1).1
      exact .inr ⟨b, z, h1, by simp [frozenFrom, hb, h2], h3.mono hsub (Mp.le_refl _) (fx.old b hb)⟩

theorem mode1_snd {call : Callee} (hcall : CallSnd P mode call) (H : HR P mode S φ B h w) {f : Nat} {as vs : List AV} {vals : List Value} (ras : RelL S φ as vals) (hvs : as.mapM (view false h 8) = some vs)
    {r r' : AV} {h' : List AO} {lim : Nat} {pl : Option Nat} (hc : call (.fn f) vs [] 0 = some (r, h')) (hr : view (!AV.pureV.go as) h' 8 r = some r') :
    (∀ w, (callFunc f vals.toArray).run P w = .ok (.enter f vals.toArray) w) ∧ Runs P (.enter f vals.toArray) w (Fits P mode S φ B lim h w pl r' h) := by
  obtain ⟨hm1, hm2⟩ := mapM_some hvs
  -- the frozen blocks that the callee is shown
  obtain ⟨S1, hfro, hrel, hS1⟩ : ∃ S1 : Fz, (∀ b c, S1 b = some c → ∃ e fr, w.heap[b]? = some (.cells c e fr)) ∧ RelL S1 Mp.no vs vals ∧ (AV.pureV.go as = true → S1 = S) := by
    by_cases hp : AV.pureV.go as = true
    · refine ⟨S, H.fro, ⟨by rw [hm1]; exact ras.1, fun j x u hx hu => ?_⟩, fun _ => rfl⟩
      have hj : j < as.length := by have := (List.getElem?_eq_some_iff.1 hx).1; omega
      obtain ⟨y, hy, hf⟩ := hm2 j _ (List.getElem?_eq_getElem hj)
      rw [hx] at hy; cases hy
      exact view_pure 8 _ _ u (pureGo hp j _ (List.getElem?_eq_getElem hj)) hf (ras.2 j _ u (List.getElem?_eq_getElem hj) hu)
    · refine ⟨frozenAll w, frozenAll_fro w, ⟨by rw [hm1]; exact ras.1, fun j x u hx hu => ?_⟩, fun h0 => absurd h0 hp⟩
      have hj : j < as.length := by have := (List.getElem?_eq_some_iff.1 hx).1; omega
      obtain ⟨y, hy, hf⟩ := hm2 j _ (List.getElem?_eq_getElem hj)
      rw [hx] at hy; cases hy
      exact view_rel H (fun o b z cs e fr _ hb => frozenAll_of hb) (fun _ b c hs => by obtain ⟨e, fr, he⟩ := H.fro b c hs; exact frozenAll_of he) 8 _ _ u hf (ras.2 j _ u (List.getElem?_eq_getElem hj) hu)
  obtain ⟨hf, hrun⟩ := hcall (.fn f) vs [] 0 r h' hc (Nat.zero_le _) S1 Mp.no w.heap.size w vals (HR.empty S1 w hfro) hrel
  refine ⟨hf, hrun.mono ?_⟩
  rintro v w' ⟨S', φ', hrv, hpost⟩
  have hH := H.later hpost.fx
  refine ⟨frozenFrom S w.heap.size w', φ, ?_, ⟨hH, Mp.le_refl _, fun b hb => by simp [frozenFrom, hb], hpost.fx.mono H.bs, Nat.le_refl _, fun _ _ _ _ => rfl, fun _ _ _ hn => hn⟩⟩
  have h1 : Rel (frozenFrom S w.heap.size w') Mp.no r' v := by
    refine view_rel hpost.hr (fun o b z cs e fr hb hcs => ?_) (fun hst b c hs => ?_) 8 r r' v hr hrv
    · have := (hpost.hr.lt o b z hb).2
      simp [frozenFrom, show ¬ b < w.heap.size by omega, frozenAll_of hcs]
    · have hp : AV.pureV.go as = true := by simpa using hst
      have hSS := hS1 hp
      by_cases hb : b < w.heap.size
      · rw [hpost.sle b hb, hSS] at hs
        simp [frozenFrom, hb, hs]
      · obtain ⟨e, fr, he⟩ := hpost.hr.fro b c hs
        simp [frozenFrom, hb, frozenAll_of he]
  exact h1.mono (fun _ _ h => h) _ (fun _ _ h => by cases h)

theorem mode2_snd {call : Callee} (hcall : CallSnd P mode call) (H : HR P mode S φ B h w) {f : Nat} {as : List AV} {vals : List Value} (ras : RelL S φ as vals) (hp : AV.pureV.go as = true)
    {r : AV} {h' : List AO} {lim : Nat} {pl : Option Nat} (hc : call (.fn f) as [] 0 = some (r, h')) :
    (∀ w, (callFunc f vals.toArray).run P w = .ok (.enter f vals.toArray) w) ∧ Runs P (.enter f vals.toArray) w (Fits P mode S φ B lim h w pl (r.shift h.length) (h ++ h'.map (AO.shift h.length))) := by
  have hrel : RelL S Mp.no as vals := ⟨ras.1, fun j x u hx hu => (ras.2 j x u hx hu).ofPure (pureGo hp j x hx) _⟩
  obtain ⟨hf, hrun⟩ := hcall (.fn f) as [] 0 r h' hc (Nat.zero_le _) S Mp.no w.heap.size w vals (HR.empty S w H.fro) hrel
  refine ⟨hf, hrun.mono ?_⟩
  rintro v w' ⟨S', φ', hrv, q⟩
  have hSS : ∀ b c, S b = some c → S' b = some c := fun b c hs => by rw [q.sle b (H.slt hs)]; exact hs
  obtain ⟨φ2, hφ2⟩ : ∃ φ2 : Mp, φ2 = fun o => if o < h.length then φ o else φ' (o - h.length) := ⟨_, rfl⟩
  have hlo : ∀ o, o < h.length → φ2 o = φ o := fun o ho => by rw [hφ2]; simp [ho]
  have hhi : ∀ o, φ2 (o + h.length) = φ' o := fun o => by rw [hφ2]; simp [show ¬ o + h.length < h.length by omega]
  have hle : Mp.le φ φ2 := fun o x hx => by rw [hlo o (H.dom o x hx)]; exact hx
  have hle' : ∀ o x, φ' o = some x → φ2 (o + h.length) = some x := fun o x hx => by rw [hhi]; exact hx
  have split2 : ∀ o, ¬ o < h.length → ∃ i, o = i + h.length := fun o ho => ⟨o - h.length, by omega⟩
  have hrow : ∀ (c : List AV) b z, ORow S' φ' w' c b z → ORow S' φ2 w' (c.map (AV.shift h.length)) b z := by
    rintro c b z ⟨cs, e, g1, g2, g3, g4⟩
    refine ⟨cs, e, g1, g2, by simpa using g3, fun j x hx => ?_⟩
    simp only [List.getElem?_map, Option.map_eq_some_iff] at hx
    obtain ⟨y, hy, rfl⟩ := hx
    obtain ⟨u, hu, hru⟩ := g4 j y hy
    exact ⟨u, hu, hru.shift _ _ hle'⟩
  have hmay : ∀ a a', mayShare a a' → mayShare (AO.shift h.length a) (AO.shift h.length a') := by
    intro a a' hm
    cases a <;> cases a' <;> simp_all [mayShare, AO.shift]
  refine ⟨S', φ2, hrv.shift _ _ hle', ⟨⟨Nat.le_trans H.bs q.fx.size, ?_, ?_, q.hr.fro, ?_, ?_⟩, hle, q.sle, q.fx.mono H.bs, by simp, ?_, ?_⟩⟩
  · intro o x hx
    by_cases ho : o < h.length
    · simp; omega
    · obtain ⟨i, rfl⟩ := split2 o ho
      rw [hhi] at hx
      have := q.hr.dom i x hx
      simp; omega
  · intro o b z hx
    by_cases ho : o < h.length
    · rw [hlo o ho] at hx; exact ⟨Nat.lt_of_lt_of_le (H.lt o b z hx).1 q.fx.size, (H.lt o b z hx).2⟩
    · obtain ⟨i, rfl⟩ := split2 o ho
      rw [hhi] at hx
      have := q.hr.lt i b z hx
      exact ⟨this.1, Nat.le_trans H.bs this.2⟩
  · intro o a ha
    by_cases ho : o < h.length
    · rw [List.getElem?_append_left ho] at ha
      rcases H.obj o a ha with rfl | ⟨b, z, k1, k2, k3⟩
      · exact .inl rfl
      · have hb := (H.lt o b z k1).1
        exact .inr ⟨b, z, by rw [hlo o ho]; exact k1, by rw [q.sle b hb]; exact k2, k3.mono hSS hle (q.fx.old b hb)⟩
    · obtain ⟨i, rfl⟩ := split2 o ho
      rw [List.getElem?_append_right (by omega), show i + h.length - h.length = i by omega, List.getElem?_map, Option.map_eq_some_iff] at ha
      obtain ⟨a0, ha0, rfl⟩ := ha
      rcases q.hr.obj i a0 ha0 with rfl | ⟨b, z, k1, k2, k3⟩
      · exact .inl rfl
      · by_cases ht : AO.shift h.length a0 = .tomb
        · exact .inl ht
        · refine .inr ⟨b, z, by rw [hhi]; exact k1, k2, ?_⟩
          cases a0 with
          | cells c sh => exact hrow c b z k3
          | ro c => exact hrow c b z k3
          | tomb => trivial
          | dfr => exact k3
          | loop => simp [AO.shift] at ht
  · intro o o' a a' b z z' ha ha' hb hb' hne
    by_cases ho : o < h.length
    · rw [List.getElem?_append_left ho] at ha
      rw [hlo o ho] at hb
      by_cases ho' : o' < h.length
      · rw [List.getElem?_append_left ho'] at ha'
        rw [hlo o' ho'] at hb'
        exact H.inj o o' a a' b z z' ha ha' hb hb' hne
      · obtain ⟨i, rfl⟩ := split2 o' ho'
        rw [hhi] at hb'
        have := (q.hr.lt i b z' hb').2
        have := (H.lt o b z hb).1
        omega
    · obtain ⟨i, rfl⟩ := split2 o ho
      rw [hhi] at hb
      by_cases ho' : o' < h.length
      · rw [hlo o' ho'] at hb'
        have := (q.hr.lt i b z hb).2
        have := (H.lt o' b z' hb').1
        omega
      · obtain ⟨i', rfl⟩ := split2 o' ho'
        rw [hhi] at hb'
        rw [List.getElem?_append_right (by omega), show i + h.length - h.length = i by omega, List.getElem?_map, Option.map_eq_some_iff] at ha
        rw [List.getElem?_append_right (by omega), show i' + h.length - h.length = i' by omega, List.getElem?_map, Option.map_eq_some_iff] at ha'
        obtain ⟨a0, ha0, rfl⟩ := ha
        obtain ⟨a0', ha0', rfl⟩ := ha'
        exact hmay _ _ (q.hr.inj i i' a0 a0' b z z' ha0 ha0' hb hb' (by omega))
  · intro o _ ho _; exact List.getElem?_append_left ho
  · intro o ho _ hn; rw [hlo o ho]; exact hn

theorem Rel.back {S' : Fz} {φ' : Mp} {x : AV} {u : Value} (h : Rel S' φ' x u) : ∀ (S : Fz) (φ : Mp) (u0 : Value), Rel S φ x u0 → ∀ φ2 : Mp, (∀ o y, φ o = some y → φ2 o = φ' o) → Rel S' φ2 x u := by
  induction h with
  | bool φ b => exact fun _ _ _ _ φ2 _ => .bool φ2 b
  | int φ k n => exact fun _ _ _ _ φ2 _ => .int φ2 k n
  | str φ s => exact fun _ _ _ _ φ2 _ => .str φ2 s
  | nilp φ => exact fun _ _ _ _ φ2 _ => .nilp φ2
  | ptr φ o off b z h =>
    intro S φ u0 h0 φ2 hd
    cases h0 with | ptr _ _ _ _ _ h1 => exact .ptr φ2 o off b z ((hd _ _ h1).trans h)
  | cptr φ cells b off c vs hs h hr ih => exact fun _ _ _ _ φ2 _ => .cptr φ2 cells b off c vs hs h hr
  | nils φ => exact fun _ _ _ _ φ2 _ => .nils φ2
  | cs0 φ esz a cap => exact fun _ _ _ _ φ2 _ => .cs0 φ2 esz a cap
  | cs φ esz len cells b off cap c vs hs hl hc h hr ih => exact fun _ _ _ _ φ2 _ => .cs φ2 esz len cells b off cap c vs hs hl hc h hr
  | ms φ esz o off len b z cap h hc hz =>
    intro S φ u0 h0 φ2 hd
    cases h0 with | ms _ _ _ _ _ _ _ _ h1 _ _ => exact .ms φ2 esz o off len b z cap ((hd _ _ h1).trans h) hc hz
  | fn φ f a b va vb ha hb hra hrb iha ihb =>
    intro S φ u0 h0 φ2 hd
    cases h0 with
    | fn _ _ _ _ va0 vb0 ha0 hb0 hra0 hrb0 =>
      refine .fn φ2 f a b va vb ha hb (fun j x v h1 h2 => ?_) (fun j x v h1 h2 => ?_)
      · have hj := (List.getElem?_eq_some_iff.1 h1).1
        exact iha j x v h1 h2 S φ va0[j] (hra0 j x _ h1 (Array.getElem?_eq_getElem (by omega))) φ2 hd
      · have hj := (List.getElem?_eq_some_iff.1 h1).1
        exact ihb j x v h1 h2 S φ vb0[j] (hrb0 j x _ h1 (Array.getElem?_eq_getElem (by omega))) φ2 hd
  | yld φ o l z h =>
    intro S φ u0 h0 φ2 hd
    cases h0 with | yld _ _ _ _ h1 => exact .yld φ2 o l z ((hd _ _ h1).trans h)
  | nilf φ => exact fun _ _ _ _ φ2 _ => .nilf φ2
  | agg φ a va ha hra ih =>
    intro S φ u0 h0 φ2 hd
    cases h0 with
    | agg _ _ va0 ha0 hra0 =>
      refine .agg φ2 a va ha (fun j x v h1 h2 => ?_)
      have hj := (List.getElem?_eq_some_iff.1 h1).1
      exact ih j x v h1 h2 S φ va0[j] (hra0 j x _ h1 (Array.getElem?_eq_getElem (by omega))) φ2 hd
  | tup φ a va ha hra ih =>
    intro S φ u0 h0 φ2 hd
    cases h0 with
    | tup _ _ va0 ha0 hra0 =>
      refine .tup φ2 a va ha (fun j x v h1 h2 => ?_)
      have hj := (List.getElem?_eq_some_iff.1 h1).1
      exact ih j x v h1 h2 S φ va0[j] (hra0 j x _ h1 (Array.getElem?_eq_getElem (by omega))) φ2 hd
  | iface φ t a v h ih =>
    intro S φ u0 h0 φ2 hd
    cases h0 with | iface _ _ _ v0 h1 => exact .iface φ2 t a v (ih S φ v0 h1 φ2 hd)
  | nili φ => exact fun _ _ _ _ φ2 _ => .nili φ2

theorem mode3_snd {call : Callee} (hcall : CallSnd P mode call) (H : HR P mode S φ B h w) {f : Nat} {as : List AV} {vals : List Value} (ras : RelL S φ as vals)
    {r : AV} {h' : List AO} {lim : Nat} {pl : Option Nat} (hc : call (.fn f) as h h.length = some (r, h')) (hu : r.under h.length = true) :
    (∀ w, (callFunc f vals.toArray).run P w = .ok (.enter f vals.toArray) w) ∧ Runs P (.enter f vals.toArray) w (Fits P mode S φ B lim h w pl r h) := by
  obtain ⟨hf, hrun⟩ := hcall (.fn f) as h h.length r h' hc (Nat.le_refl _) S φ B w vals H ras
  refine ⟨hf, hrun.mono ?_⟩
  rintro v w' ⟨S', φ', hrv, q⟩
  obtain ⟨φ2, hφ2⟩ : ∃ φ2 : Mp, φ2 = fun o => if o < h.length then φ' o else none := ⟨_, rfl⟩
  have hlo : ∀ o, o < h.length → φ2 o = φ' o := fun o ho => by rw [hφ2]; simp [ho]
  have hno : ∀ o x, φ2 o = some x → o < h.length ∧ φ' o = some x := fun o x hx => by
    rw [hφ2] at hx
    simp only at hx
    split at hx
    · exact ⟨by assumption, hx⟩
    · cases hx
  have hsame : ∀ o, o < h.length → φ2 o = φ o := fun o ho => by
    rw [hlo o ho]
    cases e : φ o with
    | none => exact q.none o ho (by simp) e
    | some x => exact q.le o x e
  have hle : Mp.le φ φ2 := fun o x hx => by rw [hsame o (H.dom o x hx)]; exact hx
  have hle2 : Mp.le φ2 φ := fun o x hx => by rw [← hsame o (hno o x hx).1]; exact hx
  have hSS := q.smono H
  have hdom : ∀ o y, φ o = some y → φ2 o = φ' o := fun o y hy => hlo o (H.dom o y hy)
  refine ⟨S', φ2, hrv.under h.length hu φ2 (fun o x ho hx => by rw [hlo o ho]; exact hx), ⟨⟨q.hr.bs, fun o x hx => (hno o x hx).1, fun o b z hx => q.hr.lt o b z (hno o _ hx).2, q.hr.fro, ?_, ?_⟩,
    hle, q.sle, q.fx, Nat.le_refl _, fun _ _ _ _ => rfl, fun o ho _ hn => by rw [hsame o ho]; exact hn⟩⟩
  · intro o a ha
    have ho := (List.getElem?_eq_some_iff.1 ha).1
    have ha' : h'[o]? = some a := by rw [q.keep o ho ho (by simp)]; exact ha
    rcases q.hr.obj o a ha' with rfl | ⟨b, z, k1, k2, k3⟩
    · exact .inl rfl
    · refine .inr ⟨b, z, by rw [hlo o ho]; exact k1, k2, ?_⟩
      -- what it holds is what it held
      rcases H.obj o a ha with rfl | ⟨b0, z0, j1, j2, j3⟩
      · trivial
      · have : φ' o = some (b0, z0) := q.le o _ j1
        rw [k1] at this; cases this
        have hrow : ∀ c, ORow S φ w c b z → ORow S' φ' w' c b z → ORow S' φ2 w' c b z := by
          rintro c ⟨cs0, e0, p1, p2, p3, p4⟩ ⟨cs, e, g1, g2, g3, g4⟩
          refine ⟨cs, e, g1, g2, g3, fun j x hx => ?_⟩
          obtain ⟨u, hu, hru⟩ := g4 j x hx
          obtain ⟨u0, hu0, hru0⟩ := p4 j x hx
          exact ⟨u, hu, Rel.back hru S φ u0 hru0 φ2 hdom⟩
        cases a with
        | cells c sh => exact hrow c j3 k3
        | ro c => exact hrow c j3 k3
        | tomb => trivial
        | dfr => exact k3
        | loop st pend fid ts ps as bd d =>
          obtain ⟨l, g1, g2, g3, g4, g5, g6, g7, g8, z', g9⟩ := k3
          obtain ⟨l0, f1, f2, f3, f4, f5, f6, f7, f8, z0', f9⟩ := j3
          refine ⟨l, g1, g2, g3, g4, ⟨g5.1, fun j x u hx hu => ?_⟩, g6, g7, g8, z', ?_⟩
          · obtain ⟨u0, hu0, hru0⟩ := f5.get hx
            exact Rel.back (g5.2 j x u hx hu) S φ u0 hru0 φ2 hdom
          · have h1 : φ2 d = some (l0.defers, z0') := hle d _ f9
            rw [hlo d (hno d _ h1).1]; exact g9
  · intro o o' a a' b z z' ha ha' hb hb' hne
    have ho := (List.getElem?_eq_some_iff.1 ha).1
    have ho' := (List.getElem?_eq_some_iff.1 ha').1
    exact q.hr.inj o o' a a' b z z' (by rw [q.keep o ho ho (by simp)]; exact ha) (by rw [q.keep o' ho' ho' (by simp)]; exact ha') (hno o _ hb).2 (hno o' _ hb').2 hne


def callvEx (call : Callee) (h : List AO) (lim : Nat) (q : Bool) (as : List AV) : AV → Option (AV × List AO)
  | .fn g first captured =>
    if q then
      match call (.fn g) (first ++ as ++ captured) h h.length with
      | some (r, _) => if r.under h.length then some (r, h) else none
      | none => none
    else call (.fn g) (first ++ as ++ captured) h lim
  | .yld o => if q then none else call (.rnd o) as h lim
  | _ => none

theorem callv_snd {call : Callee} (hcall : CallSnd P mode call) (H : HR P mode S φ B h w) {c : Call} {ty : TypeId} {x : Operand} (hcal : c.callee = .value x) {as : List AV} (ras : RelL S φ as (c.args.toList.map ρ)) {fv : AV} (rf : Rel S φ fv (ρ x))
    {lim : Nat} (hlim : lim ≤ h.length) {pl : Option Nat} {r : AV} {h' : List AO} {q : Bool} (hx : callvEx call h lim q as fv = some (r, h')) :
    OpRun P (do let d ← resolve ρ c ty; invoke d.target d.args) w (Fits P mode S φ B lim h w pl r h') := by
  have wk : ∀ v w', Fits P mode S φ B lim h w none r h' v w' → Fits P mode S φ B lim h w pl r h' v w' := fun v w' ⟨S', φ', a, b⟩ => ⟨S', φ', a, b.wk pl⟩
  cases hv : ρ x <;> rw [hv] at rf <;> cases rf <;> simp only [callvEx, reduceCtorEq] at hx
  · rename_i va vb f first captured ha hra hb hrb
    have r1 : RelL S φ first va.toList := ⟨by simpa using ha, fun j x u h1 h2 => hra j x u h1 (by simpa using h2)⟩
    have r2 : RelL S φ captured vb.toList := ⟨by simpa using hb, fun j x u h1 h2 => hrb j x u h1 (by simpa using h2)⟩
    have hboth : (∀ w, (callFunc f (va.toList ++ c.args.toList.map ρ ++ vb.toList).toArray).run P w = .ok (.enter f (va.toList ++ c.args.toList.map ρ ++ vb.toList).toArray) w) ∧ Runs P (.enter f (va.toList ++ c.args.toList.map ρ ++ vb.toList).toArray) w (Fits P mode S φ B lim h w pl r h') := by
      cases q
      · obtain ⟨h1, h2⟩ := hcall _ _ _ _ _ _ hx hlim S φ B w _ H ((r1.append ras).append r2)
        exact ⟨h1, h2.mono wk⟩
      · simp only [if_true] at hx
        split at hx
        · rename_i r0 h0 hc0
          split at hx
          · rename_i hu
            cases hx
            exact mode3_snd hcall H ((r1.append ras).append r2) hc0 hu
          · cases hx
        · cases hx
    obtain ⟨h1, h2⟩ := hboth
    have e1 : (va.toList ++ c.args.toList.map ρ ++ vb.toList).toArray = va ++ c.args.map ρ ++ vb := by apply Array.ext'; simp
    rw [e1] at h1 h2
    exact .inr (.inr ⟨_, by simp only [resolve, hcal, hv, Deferred.ofValue, Sem.run_bind, Sem.run_pure, Result.andThen_ok, invoke, h1], rfl, h2⟩)
  · rename_i o l z hl
    have hq : q = false := by cases q <;> simp_all
    subst hq
    simp only [Bool.false_eq_true, if_false] at hx
    obtain ⟨nx, h1, h2, h3⟩ := hcall _ _ _ _ _ _ hx hlim S φ B w _ H ras l z hl
    refine .inr (.inr ⟨nx, ?_, h2, h3.mono wk⟩)
    have e1 : (c.args.toList.map ρ).toArray = c.args.map ρ := by apply Array.ext'; simp
    rw [e1] at h1
    simp [resolve, hcal, hv, Deferred.ofValue, invoke, h1]

theorem kept_callm {x y : Nat} {z : List Opd} {a : AOp} (h : (AOp.call x y z).kept = a.kept) : a = .call x y z := by
  cases a <;> simp_all [AOp.kept]
theorem kept_callv {q : Bool} {y : Opd} {z : List Opd} {a : AOp} (h : (AOp.callv q y z).kept = a.kept) : a = .callv q y z := by
  cases a <;> simp_all [AOp.kept]

theorem cOp_call {op : Op} {a : AOp} (hc : cOp P m op = some a) (ha : a.isCall = true) : ∃ c, op = .call c := by
  rcases cOp_cls hc with ⟨p, rfl⟩ | hm
  · simp [AOp.isCall] at ha
  · cases op <;> simp [memOp] at hm
    case call c => exact ⟨c, rfl⟩
    case buildSlice t len parts =>
      simp only [cOp, Option.bind_eq_bind] at hc
      split at hc
      · simp only [Option.bind_eq_some_iff] at hc
        obtain ⟨_, _, _, _, _, _, hc⟩ := hc
        split at hc
        · simp only [Option.some.injEq] at hc; subst hc; simp [AOp.isCall] at ha
        · cases hc
      · cases hc
    case makeSlice t l c =>
      simp only [cOp, Option.bind_eq_bind] at hc
      split at hc
      · simp only [Option.bind_eq_some_iff] at hc
        obtain ⟨_, _, _, _, _, _, hc⟩ := hc
        split at hc
        · simp only [Option.bind_eq_some_iff, Option.some.injEq] at hc
          obtain ⟨_, _, _, _, rfl⟩ := hc; simp [AOp.isCall] at ha
        · cases hc
      · cases hc
    all_goals
      simp only [cOp, Option.bind_eq_bind, Option.bind_eq_some_iff, Option.some.injEq] at hc
      first
        | (obtain ⟨_, _, rfl⟩ := hc; simp [AOp.isCall] at ha; done)
        | (obtain ⟨_, _, _, _, _, _, rfl⟩ := hc; simp [AOp.isCall] at ha; done)

theorem exOp_snd {call : Callee} (hcall : CallSnd P mode call) (H : HR P mode S φ B h w) (hρ : ∀ x y, cOpd x = some y → Rel S φ (τ y) (ρ x)) (hfunc : ∀ f, ρ (.func f) = .func (.func f) #[] #[]) {lim : Nat} (hlim : lim ≤ h.length) (pl : Option Nat) (hp : PlOk φ h pl) {o : Oper} {a0 a : AOp} (hc : cOp P m o.op = some a0) (hk : a0.kept = a.kept)
    {r : AV} {h' : List AO} (hx : exOp call lim pl τ h a = some (r, h')) : OpRun P (execOp ρ o) w (Fits P mode S φ B lim h w pl r h') := by
  have wk : ∀ r h' v w', Fits P mode S φ B lim h w none r h' v w' → Fits P mode S φ B lim h w pl r h' v w' := fun r h' v w' ⟨S', φ', a, b⟩ => ⟨S', φ', a, b.wk pl⟩
  by_cases ha : a.isCall = false
  · obtain ⟨n, w', φ', h1, h2, h3⟩ := mem_snd H hρ pl hp hc hk ha hx
    rcases h2 with ⟨rfl, rfl⟩ | ⟨v, rfl, hr⟩
    · exact .inr (.inl ⟨w', h1, S, φ', Rel.undef, h3⟩)
    · exact .inl ⟨v, w', h1, S, φ', hr, h3⟩
  · have ha0 : a0.isCall = true := by
      cases e : a0.isCall with
      | true => rfl
      | false => exact absurd (kept_call hk.symm e) ha
    obtain ⟨c, hop⟩ := cOp_call hc ha0
    unfold execOp
    rw [hop]
    simp only
    · simp only [hop, cOp, Option.bind_eq_bind, Option.bind_eq_some_iff] at hc
      obtain ⟨as, has, hc⟩ := hc
      have q := opds_snd hρ has
      cases hcal : c.callee with
      | invoke r n => simp [hcal] at hc
      | builtin b =>
        exfalso
        have : a0.isCall = false := by
          cases b <;> simp only [hcal, reduceCtorEq] at hc
          case append =>
            split at hc
            · simp only [Option.bind_eq_some_iff] at hc
              obtain ⟨_, _, _, _, hc⟩ := hc
              split at hc
              · simp only [Option.bind_eq_some_iff, Option.some.injEq] at hc
                obtain ⟨_, _, rfl⟩ := hc; rfl
              · cases hc
            · simp only [Option.bind_eq_some_iff] at hc
              obtain ⟨_, _, _, _, hc⟩ := hc
              split at hc
              · simp only [Option.bind_eq_some_iff, Option.some.injEq] at hc
                obtain ⟨_, _, rfl⟩ := hc; rfl
              · cases hc
            · cases hc
          all_goals
            split at hc
            all_goals first
              | (cases hc; done)
              | (simp only [Option.some.injEq] at hc; subst hc; rfl)
              | (split at hc <;> first | (cases hc; done) | (simp only [Option.some.injEq] at hc; subst hc; rfl))
        exact ha (kept_call hk.symm this)
      | value x =>
        have viaV : ∀ q' y, cOpd x = some y → a = .callv q' y as → OpRun P (do let d ← resolve ρ c o.type; invoke d.target d.args) w (Fits P mode S φ B lim h w pl r h') := by
          rintro q' y hy rfl
          simp only [exOp] at hx
          exact callv_snd hcall H hcal q (hρ x y hy) hlim hx
        cases x with
        | tmp t =>
          simp only [hcal, Option.bind_eq_some_iff, Option.some.injEq] at hc
          obtain ⟨y, hy, rfl⟩ := hc
          exact viaV _ y hy (kept_callv hk)
        | const v =>
          simp only [hcal, Option.bind_eq_some_iff, Option.some.injEq] at hc
          obtain ⟨y, hy, rfl⟩ := hc
          exact viaV _ y hy (kept_callv hk)
        | global g => simp [hcal, cOpd] at hc
        | func f =>
          simp only [hcal, Option.some.injEq] at hc
          subst hc
          obtain rfl := kept_callm hk
          have hrf : ρ (.func f) = .func (.func f) #[] #[] := by
            have rf := hρ (.func f) (.c (.fn f [] [])) rfl
            exact hfunc f
          have fin : (∀ w, (callFunc f (c.args.toList.map ρ).toArray).run P w = .ok (.enter f (c.args.toList.map ρ).toArray) w) ∧ Runs P (.enter f (c.args.toList.map ρ).toArray) w (Fits P mode S φ B lim h w pl r h') →
              OpRun P (do let d ← resolve ρ c o.type; invoke d.target d.args) w (Fits P mode S φ B lim h w pl r h') := by
            rintro ⟨h1, h2⟩
            refine .inr (.inr ⟨_, ?_, rfl, h2⟩)
            have e1 : (c.args.toList.map ρ).toArray = c.args.map ρ := by apply Array.ext'; simp
            rw [e1] at h1
            rw [e1]
            simp [resolve, hcal, hrf, Deferred.ofValue, invoke, h1]
          simp only [exOp] at hx
          split at hx
          · obtain ⟨h1, h2⟩ := hcall _ _ _ _ _ _ hx hlim S φ B w _ H q
            exact fin ⟨h1, h2.mono (wk _ _)⟩
          · split at hx
            · rename_i vs hvs
              split at hx
              · rename_i r0 h0 hc0
                simp only [Option.map_eq_some_iff, Prod.mk.injEq] at hx
                obtain ⟨r1, hr1, rfl, rfl⟩ := hx
                exact fin (mode1_snd hcall H q hvs hc0 hr1)
              · cases hx
            · cases hx
          · split at hx
            · rename_i hpure
              split at hx
              · rename_i r0 h0 hc0
                cases hx
                exact fin (mode2_snd hcall H q hpure hc0)
              · cases hx
            · cases hx
          · split at hx
            · rename_i r0 h0 hc0
              split at hx
              · rename_i hu
                cases hx
                exact fin (mode3_snd hcall H q hc0 hu)
              · cases hx
            · cases hx

end Go.Am
