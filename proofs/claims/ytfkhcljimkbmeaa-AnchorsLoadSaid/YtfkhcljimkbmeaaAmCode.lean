/-
Code.
-/
import Derived.Test.YtfkhcljimkbmeaaAmRun2
namespace Go.Am
open Go
set_option linter.unusedVariables false
set_option linter.unusedSimpArgs false

variable {P : Program} {mode : Nat → Nat → Nat} {S : Fz} {φ : Mp} {B : Nat} {h : List AO} {w : World}

def MarksRel (φ : Mp) : List Nat → List Deferred → Prop
  | [], [] => True
  | m :: ms, d :: ds => (∃ b z, φ m = some (b, z) ∧ d = { target := .collected b, args := #[] }) ∧ MarksRel φ ms ds
  | _, _ => False

theorem MarksRel.mono {φ φ' : Mp} (hp : Mp.le φ φ') : ∀ {ms : List Nat} {ds : List Deferred}, MarksRel φ ms ds → MarksRel φ' ms ds
  | [], [], _ => trivial
  | m :: ms, d :: ds, ⟨⟨b, z, h1, h2⟩, h3⟩ => ⟨⟨b, z, hp _ _ h1, h2⟩, h3.mono hp⟩
  | [], _ :: _, h => h.elim
  | _ :: _, [], h => h.elim

/-- where a piece of code ends -/
def Lands (P : Program) (m : Machine) (b : Frame) (k : List Item) (cs : List Frame) : Ex → Act → World → Prop
  | .nrm, a, w => Steps P m (lone (b.atR a k) cs w)
  | .exit id, a, w => ∃ k', exitTo id k' = exitTo id k ∧ Steps P m (lone (b.atR a (.code (.exit id) :: k')) cs w)
  | .ret, a, w => ∃ k', Steps P m (lone (b.atR a (.code .ret :: k')) cs w)

theorem Lands.of {m m' : Machine} {b : Frame} {k : List Item} {cs : List Frame} {ex : Ex} {a : Act} {w : World} (h : Steps P m m') (h' : Lands P m' b k cs ex a w) : Lands P m b k cs ex a w := by
  cases ex with
  | nrm => exact Steps.trans h h'
  | exit id => obtain ⟨k', h1, h2⟩ := h'; exact ⟨k', h1, Steps.trans h h2⟩
  | ret => obtain ⟨k', h1⟩ := h'; exact ⟨k', Steps.trans h h1⟩

/-- an item that no exit stops at, passed by unless it is come to -/
theorem Lands.pass {m : Machine} {b : Frame} {x : Item} {k : List Item} {cs : List Frame} {ex : Ex} {a : Act} {w : World} (hx : x.plain = true ∨ (∃ c, x = .inScope c)) (hn : ex ≠ .nrm) (h : Lands P m b (x :: k) cs ex a w) : Lands P m b k cs ex a w := by
  cases ex with
  | nrm => exact absurd rfl hn
  | exit id =>
    obtain ⟨k', h1, h2⟩ := h
    refine ⟨k', h1.trans ?_, h2⟩
    rcases hx with hx | ⟨c, rfl⟩
    · cases x <;> simp_all [exitTo, Item.plain]
    · rfl
  | ret => exact h

structure StRel (P : Program) (mode : Nat → Nat → Nat) (S : Fz) (φ : Mp) (B : Nat) (st : St) (a : Act) (w : World) : Prop where
  hr : HR P mode S φ B st.heap w
  ts : RelL S φ st.tmps a.tmps.toList
  mks : MarksRel φ st.marks a.defers

/-- how code is left, and what fits then -/
def CodeOk (P : Program) (mode : Nat → Nat → Nat) (S : Fz) (φ : Mp) (B lim : Nat) (st : St) (a : Act) (w : World) (m : Machine) (b : Frame) (k : List Item) (cs : List Frame) (ex : Ex) (st' : St) : Prop :=
  ∃ S' φ' w' a', StRel P mode S' φ' B st' a' w' ∧ Post P mode S φ B lim st.heap w none S' φ' st'.heap w' ∧ Lands P m b k cs ex a' w'

theorem CodeOk.of {lim : Nat} {st : St} {a : Act} {m m' : Machine} {b : Frame} {k : List Item} {cs : List Frame} {ex : Ex} {st' : St} (hs : Steps P m m') (h : CodeOk P mode S φ B lim st a w m' b k cs ex st') : CodeOk P mode S φ B lim st a w m b k cs ex st' := by
  obtain ⟨S', φ', w', a', h1, h2, h3⟩ := h
  exact ⟨S', φ', w', a', h1, h2, h3.of hs⟩

theorem stepR_scope {b : Frame} {a : Act} {k : List Item} {cs : List Frame} {w : World} {c : Code} : step P (lone (b.atR a (.code (.scope c) :: k)) cs w) = .next (lone (b.atR a (.code c :: .inScope c :: k)) cs w) :=
  step_lone_go (by simp [stepG, stepG.exec, Frame.atR])
theorem stepR_inScope {b : Frame} {a : Act} {k : List Item} {cs : List Frame} {w : World} {c : Code} : step P (lone (b.atR a (.inScope c :: k)) cs w) = .next (lone (b.atR a k) cs w) :=
  step_lone_go (by simp [stepG, stepG.exec, Frame.atR])

theorem cOpers_spec {m : Nat → Nat} {ops : Array Oper} : ∀ (l : List Oper) (r : List AOper), cOpers P m ops l = some r → r.length = l.length ∧ ∀ (i : Nat) o ao, l[i]? = some o → r[i]? = some ao → COp P m ops o ao ∧ ao.slot = none ∧ ao.mask = []
  | [], r, h => by simp [cOpers] at h; subst h; exact ⟨rfl, fun i o ao h => by simp at h⟩
  | o :: l, r, h => by
    simp only [cOpers, Option.bind_eq_bind, Option.bind_eq_some_iff, Option.some.injEq] at h
    obtain ⟨g, hg, r', hr', rfl⟩ := h
    obtain ⟨h1, h2⟩ := cOpers_spec l r' hr'
    refine ⟨by simp [h1], fun i x ao hx hao => ?_⟩
    cases i with
    | zero => simp at hx hao; subst hx; subst hao; exact ⟨⟨rfl, hg, rfl⟩, rfl, rfl⟩
    | succ i => exact h2 i x ao (by simpa using hx) (by simpa using hao)

/-- what is left to show of a region whose order is open -/
def DrawOk (P : Program) (m : Nat → Nat) (call : Callee) : Prop :=
  ∀ (ops : Array Oper) (l : List AOper), cOpers P m ops ops.toList = some l → okDraw ops.toList (drawn ops.toList l) = true → slotsOk (slotCount l) (drawn ops.toList l) = true →
    (drawn ops.toList l).length = ops.size ∧ (∀ (i : Nat) o ao, ops[i]? = some o → (drawn ops.toList l)[i]? = some ao → COp P m ops o ao) ∧
    ∀ (lim base : Nat) (ts : List AV) (h : List AO) (ts' : List AV) (h' : List AO), base + slotCount l = h.length → (∀ s, s < slotCount l → h[base + s]? = some .tomb) → evOps call lim base (drawn ops.toList l) ts h = some (ts', h') →
      ∀ t, (Region.linearise .any ops t).Nodup ∧ evIx call lim base (drawn ops.toList l) (Region.linearise .any ops t) ts h = some (ts', h')

theorem slotsFit_of {k base : Nat} {as : List AOper} (h : slotsOk k as = true) : SlotsFit k base as := by
  unfold slotsOk at h
  rw [List.all_eq_true] at h
  have hm : ∀ (i : Nat) o, as[i]? = some o → (o, i) ∈ as.zipIdx := fun i o hi => by rw [List.mem_zipIdx_iff_getElem?]; exact hi
  have key := fun (i : Nat) o (hi : as[i]? = some o) => h (o, i) (hm i o hi)
  simp only [Bool.and_eq_true, List.all_eq_true, decide_eq_true_eq, bne_iff_ne, ne_eq, Bool.or_eq_true, beq_iff_eq, Option.isNone_iff_eq_none] at key
  refine ⟨fun i o hi s hs => ?_, fun i o p hi hp => ?_, fun i j o x p hi hj hp hx => ?_⟩
  · obtain ⟨⟨k1, _⟩, _⟩ := key i o hi
    obtain ⟨k2, k3⟩ := k1 s hs
    refine ⟨k2, fun e => k3 ?_⟩
    simp only [AOper.makes, Option.map_eq_some_iff] at e
    obtain ⟨q, hq, e⟩ := e
    have : q = s := by omega
    rw [hq, this]
  · obtain ⟨⟨_, k2⟩, _⟩ := key i o hi
    simp only [AOper.makes, Option.map_eq_some_iff] at hp
    obtain ⟨q, hq, rfl⟩ := hp
    rw [hq] at k2
    simp at k2
    omega
  · obtain ⟨_, k3⟩ := key i o hi
    simp only [AOper.makes, Option.map_eq_some_iff] at hp hx
    obtain ⟨q, hq, rfl⟩ := hp
    obtain ⟨q', hq', e⟩ := hx
    have : q' = q := by omega
    subst this
    rcases k3 (x, j) (hm j x hj) with (h1 | h1) | h1
    · exact h1
    · rw [hq] at h1; cases h1
    · exact absurd (hq.trans hq'.symm) h1

theorem region_snd {call : Callee} (hcall : CallSnd P mode call) (hfr : FrameOk call) {m : Nat → Nat} (hdraw : DrawOk P m call) {id : Nat} {ops : Array Oper} {draw : Bool} {k : Nat} {as : List AOper} (hc : cCode P m (.region id ops draw) = some (.region k as))
    {lim : Nat} {st : St} {a : Act} (R : StRel P mode S φ B st a w) (hlim : lim ≤ st.heap.length) {ts' : List AV} {h' : List AO} (hx : evOps call lim st.heap.length as st.tmps (st.heap ++ List.replicate k .tomb) = some (ts', h')) {b : Frame} {kk : List Item} {cs : List Frame} :
    CodeOk P mode S φ B lim st a w (lone (b.atR a (.code (.region id ops draw) :: kk)) cs w) b kk cs .nrm { st with tmps := ts', heap := h' } := by
  simp only [cCode, Option.bind_eq_bind, Option.bind_eq_some_iff] at hc
  obtain ⟨l, hl, hc⟩ := hc
  have fin : ∀ (w1 : World) (L : List Nat), w1.heap = w.heap → w1.tape = w.tape → w1.os = w.os → w1.output = w.output → L.Nodup → as.length = ops.size → (∀ (i : Nat) o ao, ops[i]? = some o → as[i]? = some ao → COp P m ops o ao) → SlotsFit k st.heap.length as →
      evIx call lim st.heap.length as L st.tmps (st.heap ++ List.replicate k .tomb) = some (ts', h') →
      ∃ S' φ' w' a', StRel P mode S' φ' B { st with tmps := ts', heap := h' } a' w' ∧ Post P mode S φ B lim st.heap w none S' φ' h' w' ∧ Steps P (lone (b.atR a (.inRegion ops L :: kk)) cs w1) (lone (b.atR a' kk) cs w') := by
    intro w1 L e1 e2 e3 e4 hnd hlen hops hsl hev
    have H1 : HR P mode S φ B st.heap w1 := R.hr.heap e1
    have p1 := tombs_post H1 k lim
    obtain ⟨S', φ', w', a', g1, g2, g3, g4⟩ := evIx_snd hcall hfr hlen hops (h0 := st.heap) (w0 := w1) hlim hsl (b := b) (kk := kk) (cs := cs) L S φ _ w1 st.tmps a ts' h' hnd p1 (by simp) (by
      intro i _ o p hi hp
      cases e : φ p with
      | none => rfl
      | some x => have := R.hr.dom p x e; have := hsl.lt i o p hi hp; omega) R.ts hev
    refine ⟨S', φ', w', a', ⟨g2.hr, g3, by rw [g4]; exact R.mks.mono g2.le⟩, ⟨g2.hr, g2.le, fun q hq => g2.sle q (by rw [e1]; exact hq), ⟨g2.fx.tape.trans e2, g2.fx.os.trans e3, g2.fx.out.trans e4, by have := g2.fx.size; rw [e1] at this; exact this, fun q hq => by rw [g2.fx.old q hq, e1]⟩, g2.len, g2.keep, g2.none⟩, g1⟩
  split at hc
  · rename_i hd
    simp only [Option.some.injEq, ACode.region.injEq] at hc
    obtain ⟨rfl, rfl⟩ := hc
    obtain ⟨hlen, hops⟩ := cOpers_spec _ _ hl
    have hlen' : l.length = ops.size := by simpa using hlen
    have hsl : SlotsFit 0 st.heap.length l := by
      have hs : ∀ (i : Nat) ao, l[i]? = some ao → ao.slot = none ∧ ao.mask = [] := fun i ao hi => by
        have hil := (List.getElem?_eq_some_iff.1 hi).1
        exact (hops i ops.toList[i] ao (List.getElem?_eq_getElem (by omega)) hi).2
      have hmk : ∀ (i : Nat) ao, l[i]? = some ao → ao.makes st.heap.length = none := fun i ao hi => by
        unfold AOper.makes AOper.made; rw [(hs i ao hi).1]; cases ao.op <;> rfl
      exact ⟨fun i o hi s hs' => (by rw [(hs i o hi).2] at hs'; cases hs'), fun i o p hi hp => (by rw [hmk i o hi] at hp; cases hp), fun i j o x p hi hj hp _ => (by rw [hmk i o hi] at hp; cases hp)⟩
    have hdf : draw = false := by simpa using hd
    subst hdf
    have hev : evIx call lim st.heap.length l (List.range ops.size) st.tmps (st.heap ++ List.replicate 0 .tomb) = some (ts', h') := by
      have := evIx_range (call := call) (lim := lim) (base := st.heap.length) l [] l st.tmps (st.heap ++ List.replicate 0 .tomb) rfl
      simp only [List.length_nil, Nat.zero_add, List.map_id'] at this
      rw [← hlen', this]; exact hx
    obtain ⟨S', φ', w', a', g1, g2, g3⟩ := fin w (List.range ops.size) rfl rfl rfl rfl List.nodup_range hlen' (fun i o ao ho hao => (hops i o ao (by simpa using ho) hao).1) hsl hev
    exact ⟨S', φ', w', a', g1, g2, Steps.head stepR_region g3⟩
  · rename_i hd
    split at hc
    · rename_i hcc
      simp only [Option.some.injEq, ACode.region.injEq] at hc
      obtain ⟨rfl, rfl⟩ := hc
      simp only [Bool.and_eq_true] at hcc
      obtain ⟨⟨hmix, hok⟩, hso⟩ := hcc
      obtain ⟨hlen, hops, hany⟩ := hdraw ops l hl hok hso
      have hdt : draw = true := by simpa using hd
      subst hdt
      obtain ⟨hnd, hev⟩ := hany lim st.heap.length st.tmps _ ts' h' (by simp) (fun s hs => by
        rw [List.getElem?_append_right (by omega), show st.heap.length + s - st.heap.length = s by omega, List.getElem?_replicate, if_pos hs]) hx (w.tape w.drawn (.order b.fn id))
      obtain ⟨S', φ', w', a', g1, g2, g3⟩ := fin { w with drawn := w.drawn + 1 } (Region.linearise .any ops (w.tape w.drawn (.order b.fn id))) rfl rfl rfl rfl hnd hlen hops (slotsFit_of hso) hev
      refine ⟨S', φ', w', a', g1, g2, Steps.head ?_ g3⟩
      have := stepR_region_draw (P := P) (b := b) (a := a) (k := kk) (cs := cs) (w := w) (ops := ops) (id := id)
      simp only [Region.schedule, hmix, Bool.true_or, if_true] at this
      exact this
    · cases hc

end Go.Am
