/-
Code: all of it.
-/
import Derived.Test.YtfkhcljimkbmeaaAmCode
namespace Go.Am
open Go
set_option linter.unusedVariables false
set_option linter.unusedSimpArgs false

variable {P : Program} {mode : Nat → Nat → Nat} {S : Fz} {φ : Mp} {B : Nat} {h : List AO} {w : World}

def World.put (w : World) (b : Nat) (ob : Obj) : World := { w with heap := w.heap.setIfInBounds b ob }

/-- an object that is no row turns into another one, in its block -/
theorem HR.replace (H : HR P mode S φ B h w) {o b z : Nat} {a a' : AO} {ob : Obj} (ho : h[o]? = some a) (hb : φ o = some (b, z)) (ha : ∀ x, mayShare a x → x = .tomb) (hnt : a ≠ .tomb) (hor : OR P mode S φ (World.put w b ob) b z a') (hsh : mayShare a' .tomb) (lim : Nat) (hlim : lim ≤ o) :
    Post P mode S φ B lim h w none S φ (h.set o a') (World.put w b ob) := by
  have hl := (List.getElem?_eq_some_iff.1 ho).1
  have hS : S b = none := by
    rcases H.obj o a ho with rfl | ⟨b1, z1, h1, h2, _⟩
    · exact absurd rfl hnt
    · rw [hb] at h1; cases h1; exact h2
  have hother : ∀ q, q ≠ b → (World.put w b ob).heap[q]? = w.heap[q]? := fun q hq => by simp [World.put, Array.getElem?_setIfInBounds, Ne.symm hq]
  have hsz : (World.put w b ob).heap.size = w.heap.size := by simp [World.put]
  refine ⟨⟨by rw [hsz]; exact H.bs, fun q x hx => by simpa using H.dom q x hx, fun q b1 z1 hq => by rw [hsz]; exact H.lt q b1 z1 hq, ?_, ?_, ?_⟩, Mp.le_refl _, fun _ _ => rfl,
    ⟨rfl, rfl, rfl, by rw [hsz]; exact Nat.le_refl _, fun q hq => hother q (by have := (H.lt o b z hb).2; omega)⟩, by simp, fun q hq _ _ => List.getElem?_set_ne (by omega), fun _ _ _ hn => hn⟩
  · intro b1 c1 hs
    have : b1 ≠ b := by intro e; subst e; rw [hS] at hs; cases hs
    obtain ⟨e1, fr, he⟩ := H.fro b1 c1 hs
    exact ⟨e1, fr, (hother b1 this).trans he⟩
  · intro q x hq
    by_cases e : q = o
    · subst e; simp [hl] at hq; subst hq
      exact .inr ⟨b, z, hb, hS, hor⟩
    · rw [List.getElem?_set_ne (Ne.symm e)] at hq
      rcases H.obj q x hq with rfl | ⟨b1, z1, k1, k2, k3⟩
      · exact .inl rfl
      · by_cases hbb : b1 = b
        · subst hbb
          exact .inl (ha x (H.inj o q a x b1 z z1 ho hq hb k1 (Ne.symm e)))
        · exact .inr ⟨b1, z1, k1, k2, k3.mono (fun _ _ h => h) (Mp.le_refl _) (hother b1 hbb)⟩
  · intro q q' x x' b1 z1 z2 hq hq' k1 k2 hne
    by_cases e : q = o
    · subst e; simp [hl] at hq; subst hq
      rw [List.getElem?_set_ne hne] at hq'
      rw [hb] at k1; cases k1
      have := ha x' (H.inj q q' a x' _ _ z2 ho hq' hb k2 hne)
      subst this; exact hsh
    · rw [List.getElem?_set_ne (Ne.symm e)] at hq
      by_cases e2 : q' = o
      · subst e2; simp [hl] at hq'; subst hq'
        rw [hb] at k2; cases k2
        have := ha x (H.inj q' q a x _ _ z1 ho hq hb k1 (Ne.symm hne))
        subst this; exact mayShare_comm hsh
      · rw [List.getElem?_set_ne (Ne.symm e2)] at hq'
        exact H.inj q q' x x' b1 z1 z2 hq hq' k1 k2 hne

theorem loop_of (H : HR P mode S φ B h w) {o : Nat} {st : LoopState} {pend : Option Ex} {fid : Nat} {ts : List AV} {ps : List Nat} {as bd : ACode} {d : Nat} (ho : h[o]? = some (.loop st pend fid ts ps as bd d)) :
    ∃ l z lp, φ o = some (l, z) ∧ w.heap[l]? = some (.loop lp) ∧ lp.state = st ∧ lp.pending = pend.bind exCode ∧ lp.fn = fid ∧ RelL S φ ts lp.tmps.toList ∧ lp.params.toList = ps ∧
      cCode P (mode fid) lp.assign = some as ∧ cCode P (mode fid) lp.body = some bd ∧ ∃ z, φ d = some (lp.defers, z) := by
  rcases H.obj o _ ho with hh | ⟨b, z, h1, h2, lp, h3⟩
  · cases hh
  · exact ⟨b, z, lp, h1, h3⟩

theorem setLoop (H : HR P mode S φ B h w) {o l z : Nat} {st st' : LoopState} {pend pend' : Option Ex} {fid : Nat} {ts : List AV} {ps : List Nat} {as bd : ACode} {d : Nat} (ho : h[o]? = some (.loop st pend fid ts ps as bd d)) (hl : φ o = some (l, z))
    {lp : Loop} (hlp : w.heap[l]? = some (.loop lp)) (lim : Nat) (hlim : lim ≤ o) :
    Post P mode S φ B lim h w none S φ (h.set o (.loop st' pend' fid ts ps as bd d)) (World.put w l (.loop { lp with state := st', pending := pend'.bind exCode })) := by
  obtain ⟨l', z', lp', h1, h2, h3, h4, h5, h6, h7, h8, h9, h10⟩ := loop_of H ho
  rw [hl] at h1; cases h1
  rw [hlp] at h2; cases h2
  have hlt := (Array.getElem?_eq_some_iff.1 hlp).1
  refine H.replace ho hl (fun x hx => by cases x <;> simp_all [mayShare]) (by simp) ?_ (by trivial) lim hlim
  exact ⟨{ lp with state := st', pending := pend'.bind exCode }, by simp [World.put, hlt], rfl, rfl, h5, h6, h7, h8, h9, h10⟩

/-- code, carried out -/
theorem evCode_snd {call : Callee} (hcall : CallSnd P mode call) (hfr : FrameOk call) {fid : Nat} (hdraw : DrawOk P (mode fid) call) {lim n : Nat} {rnd : Option Nat} {b : Frame} (hb : b.fn = fid) (hro : rnd = none → b.roundOf = none) :
    ∀ (c : Code) (ac : ACode), cCode P (mode fid) c = some ac → ∀ (S : Fz) (φ : Mp) (st : St) (a : Act) (w : World) (ex : Ex) (st' : St), StRel P mode S φ B st a w → lim ≤ st.heap.length → evCode call lim n rnd fid ac st = some (ex, st') → ∀ (k : List Item) (cs : List Frame),
      CodeOk P mode S φ B lim st a w (lone (b.atR a (.code c :: k)) cs w) b k cs ex st' := by
  intro c
  induction c with
  | skip =>
    intro ac hc S φ st a w ex st' R hl hx k cs
    simp only [cCode, Option.some.injEq] at hc; subst hc
    simp only [evCode] at hx; cases hx
    exact ⟨S, φ, w, a, R, Post.refl R.hr _ _, .one stepR_skip⟩
  | label l =>
    intro ac hc S φ st a w ex st' R hl hx k cs
    simp only [cCode, Option.some.injEq] at hc; subst hc
    simp only [evCode] at hx; cases hx
    exact ⟨S, φ, w, a, R, Post.refl R.hr _ _, .one stepR_label⟩
  | exit id =>
    intro ac hc S φ st a w ex st' R hl hx k cs
    simp only [cCode, Option.some.injEq] at hc; subst hc
    simp only [evCode] at hx; cases hx
    exact ⟨S, φ, w, a, R, Post.refl R.hr _ _, k, rfl, Steps.refl P _⟩
  | ret =>
    intro ac hc S φ st a w ex st' R hl hx k cs
    simp only [cCode, Option.some.injEq] at hc; subst hc
    simp only [evCode] at hx; cases hx
    exact ⟨S, φ, w, a, R, Post.refl R.hr _ _, k, Steps.refl P _⟩
  | goto l => intro ac hc; simp [cCode] at hc
  | refuse s => intro ac hc; simp [cCode] at hc
  | region id ops draw =>
    intro ac hc S φ st a w ex st' R hl hx k cs
    obtain ⟨kk, as, rfl⟩ : ∃ kk as, ac = .region kk as := by
      simp only [cCode, Option.bind_eq_bind, Option.bind_eq_some_iff] at hc
      obtain ⟨l, _, hc⟩ := hc
      split at hc
      · simp only [Option.some.injEq] at hc; exact ⟨_, _, hc.symm⟩
      · split at hc
        · simp only [Option.some.injEq] at hc; exact ⟨_, _, hc.symm⟩
        · cases hc
    simp only [evCode] at hx
    split at hx
    · rename_i ts' h' he
      cases hx
      exact region_snd hcall hfr hdraw hc R hl he
    · cases hx
  | seq x y ihx ihy =>
    intro ac hc S φ st a w ex st' R hl hx k cs
    simp only [cCode, Option.bind_eq_bind, Option.bind_eq_some_iff, Option.some.injEq] at hc
    obtain ⟨ax, hax, ay, hay, rfl⟩ := hc
    simp only [evCode] at hx
    cases he : evCode call lim n rnd fid ax st with
    | none => rw [he] at hx; cases hx
    | some q =>
      obtain ⟨e1, s1⟩ := q
      rw [he] at hx
      obtain ⟨S1, φ1, w1, a1, R1, p1, l1⟩ := ihx ax hax S φ st a w e1 s1 R hl he (.code y :: k) cs
      cases e1 with
      | nrm =>
        obtain ⟨S2, φ2, w2, a2, R2, p2, l2⟩ := ihy ay hay S1 φ1 s1 a1 w1 ex st' R1 (Nat.le_trans hl p1.len) hx k cs
        exact ⟨S2, φ2, w2, a2, R2, p1.trans p2, (l2.of l1).of (.one stepR_seq)⟩
      | exit id => cases hx; exact ⟨S1, φ1, w1, a1, R1, p1, (l1.pass (.inl rfl) (by simp)).of (.one stepR_seq)⟩
      | ret => cases hx; exact ⟨S1, φ1, w1, a1, R1, p1, (l1.pass (.inl rfl) (by simp)).of (.one stepR_seq)⟩
  | cond o x y ihx ihy =>
    intro ac hc S φ st a w ex st' R hl hx k cs
    simp only [cCode, Option.bind_eq_bind, Option.bind_eq_some_iff, Option.some.injEq] at hc
    obtain ⟨ao, hao, ax, hax, ay, hay, rfl⟩ := hc
    have ro := opd_act R.ts hao
    simp only [evCode] at hx
    split at hx
    · rename_i ht
      rw [ht] at ro
      have hv : a.eval o = .bool true := by cases hv : a.eval o <;> rw [hv] at ro <;> cases ro; rfl
      exact CodeOk.of (.one (by have := stepR_cond (P := P) (b := b) (k := k) (cs := cs) (w := w) (x := x) (y := y) hv; simpa using this)) (ihx ax hax S φ st a w ex st' R hl hx k cs)
    · rename_i ht
      rw [ht] at ro
      have hv : a.eval o = .bool false := by cases hv : a.eval o <;> rw [hv] at ro <;> cases ro; rfl
      exact CodeOk.of (.one (by have := stepR_cond (P := P) (b := b) (k := k) (cs := cs) (w := w) (x := x) (y := y) hv; simpa using this)) (ihy ay hay S φ st a w ex st' R hl hx k cs)
    · cases hx
  | block id c ih =>
    intro ac hc S φ st a w ex st' R hl hx k cs
    simp only [cCode, Option.bind_eq_bind, Option.bind_eq_some_iff, Option.some.injEq] at hc
    obtain ⟨ax, hax, rfl⟩ := hc
    simp only [evCode] at hx
    cases he : evCode call lim n rnd fid ax st with
    | none => rw [he] at hx; cases hx
    | some q =>
      obtain ⟨e1, s1⟩ := q
      rw [he] at hx
      obtain ⟨S1, φ1, w1, a1, R1, p1, l1⟩ := ih ax hax S φ st a w e1 s1 R hl he (.inBlock id :: k) cs
      have l2 := l1.of (.one (stepR_block (P := P) (b := b) (a := a) (k := k) (cs := cs) (w := w) (id := id) (c := c)))
      cases e1 with
      | nrm => cases hx; exact ⟨S1, φ1, w1, a1, R1, p1, Steps.trans l2 (.one stepR_inBlock)⟩
      | exit id' =>
        simp only at hx
        obtain ⟨k', hk, hs⟩ := l2
        split at hx
        · rename_i e; subst e; cases hx
          refine ⟨S1, φ1, w1, a1, R1, p1, Steps.trans hs (.one (stepR_exit ?_))⟩
          rw [hk]; simp [exitTo]
        · rename_i e; cases hx
          refine ⟨S1, φ1, w1, a1, R1, p1, k', hk.trans ?_, hs⟩
          have : (id == id') = false := by simp; exact fun h => e h.symm
          simp [exitTo, this]
      | ret => cases hx; exact ⟨S1, φ1, w1, a1, R1, p1, l2⟩
  | scope c ih =>
    intro ac hc S φ st a w ex st' R hl hx k cs
    simp only [cCode, Option.bind_eq_bind, Option.bind_eq_some_iff, Option.some.injEq] at hc
    obtain ⟨ax, hax, rfl⟩ := hc
    simp only [evCode] at hx
    obtain ⟨S1, φ1, w1, a1, R1, p1, l1⟩ := ih ax hax S φ st a w ex st' R hl hx (.inScope c :: k) cs
    have l2 := l1.of (.one (stepR_scope (P := P) (b := b) (a := a) (k := k) (cs := cs) (w := w) (c := c)))
    cases ex with
    | nrm => exact ⟨S1, φ1, w1, a1, R1, p1, Steps.trans l2 (.one stepR_inScope)⟩
    | exit id => exact ⟨S1, φ1, w1, a1, R1, p1, l2.pass (.inr ⟨c, rfl⟩) (by simp)⟩
    | ret => exact ⟨S1, φ1, w1, a1, R1, p1, l2.pass (.inr ⟨c, rfl⟩) (by simp)⟩
  | loop c ih =>
    intro ac hc S φ st a w ex st' R hl hx k cs
    simp only [cCode, Option.bind_eq_bind, Option.bind_eq_some_iff, Option.some.injEq] at hc
    obtain ⟨ax, hax, rfl⟩ := hc
    simp only [evCode] at hx
    have key : ∀ (j : Nat) (S : Fz) (φ : Mp) (st : St) (a : Act) (w : World), StRel P mode S φ B st a w → lim ≤ st.heap.length → iter (evCode call lim n rnd fid ax) j st = some (ex, st') →
        CodeOk P mode S φ B lim st a w (lone (b.atR a (.code c :: .inLoop c :: k)) cs w) b k cs ex st' := by
      intro j
      induction j with
      | zero => intro S φ st a w R hl hx; simp [iter] at hx
      | succ j ihj =>
        intro S φ st a w R hl hx
        simp only [iter] at hx
        cases he : evCode call lim n rnd fid ax st with
        | none => rw [he] at hx; cases hx
        | some q =>
          obtain ⟨e1, s1⟩ := q
          rw [he] at hx
          obtain ⟨S1, φ1, w1, a1, R1, p1, l1⟩ := ih ax hax S φ st a w e1 s1 R hl he (.inLoop c :: k) cs
          cases e1 with
          | nrm =>
            obtain ⟨S2, φ2, w2, a2, R2, p2, l2⟩ := ihj S1 φ1 s1 a1 w1 R1 (Nat.le_trans hl p1.len) hx
            exact ⟨S2, φ2, w2, a2, R2, p1.trans p2, l2.of (Steps.trans l1 (.one stepR_inLoop))⟩
          | exit id => cases hx; exact ⟨S1, φ1, w1, a1, R1, p1, l1.pass (.inl rfl) (by simp)⟩
          | ret => cases hx; exact ⟨S1, φ1, w1, a1, R1, p1, l1.pass (.inl rfl) (by simp)⟩
    exact CodeOk.of (.one stepR_loop) (key n S φ st a w R hl hx)
  | rangeFunc f ps as bd iha ihb =>
    intro ac hc S φ st a w ex st' R hl hx k cs
    simp only [cCode, Option.bind_eq_bind, Option.bind_eq_some_iff, Option.some.injEq] at hc
    obtain ⟨af, haf, aas, haas, abd, habd, rfl⟩ := hc
    simp only [evCode] at hx
    cases rnd with
    | some _ => cases hx
    | none =>
      simp only at hx
      split at hx
      · rename_i g first captured hfv
        split at hx
        · rename_i r0 h3 hcl
          have ro := opd_act R.ts haf
          rw [hfv] at ro
          -- the two new objects
          have hno : ∀ (φ : Mp) (h : List AO), PlOk φ h none := fun φ h => ⟨fun i hi => by cases hi⟩
          have q1 := R.hr.newObj (a := .dfr) none (hno _ _) (.deferred (some [])) 0 lim (heap_new w _)
          simp only [Option.getD_none, newObj'] at q1
          obtain ⟨φ1, hφ1⟩ : ∃ φ1, φ1 = φ.set st.heap.length (w.heap.size, 0) := ⟨_, rfl⟩
          rw [← hφ1] at q1
          obtain ⟨w1, hw1⟩ : ∃ w1, w1 = w.alloc (.deferred (some [])) := ⟨_, rfl⟩
          rw [← hw1] at q1
          have hsz1 : w1.heap.size = w.heap.size + 1 := by rw [hw1]; simp
          obtain ⟨lp, hlp⟩ : ∃ lp : Loop, lp = { state := .ready, pending := none, fn := b.fn, tmps := a.tmps, params := ps, assign := as, body := bd, defers := w.heap.size } := ⟨_, rfl⟩
          have hdl : φ1 st.heap.length = some (w.heap.size, 0) := by rw [hφ1]; exact Mp.set_same _ _ _
          have q2 := q1.hr.newObj (a := .loop .ready none fid st.tmps ps.toList aas abd st.heap.length) none (hno _ _) (.loop lp) 0 lim (by
            have hle := Mp.le_set (φ := φ1) (o := (st.heap ++ [AO.dfr]).length) (w1.heap.size, 0) (pl_none (pl := none) q1.hr.dom (hno _ _))
            refine ⟨lp, heap_new w1 _, by rw [hlp], by rw [hlp]; rfl, by rw [hlp]; exact hb, ?_, by rw [hlp], by rw [hlp]; exact haas, by rw [hlp]; exact habd, 0, ?_⟩
            · rw [hlp]
              exact (q1.relL R.hr R.ts).mono (fun _ _ h => h) hle
            · rw [hlp]; exact hle _ _ hdl)
          simp only [Option.getD_none, newObj', List.append_assoc, List.cons_append, List.nil_append, List.length_append, List.length_cons, List.length_nil, Nat.zero_add] at q2
          obtain ⟨φ2, hφ2⟩ : ∃ φ2, φ2 = φ1.set (st.heap.length + 1) (w1.heap.size, 0) := ⟨_, rfl⟩
          rw [← hφ2] at q2
          obtain ⟨w2, hw2⟩ : ∃ w2, w2 = w1.alloc (.loop lp) := ⟨_, rfl⟩
          rw [← hw2] at q2
          have p12 : Post P mode S φ B lim st.heap w none S φ2 (st.heap ++ [.dfr, .loop .ready none fid st.tmps ps.toList aas abd st.heap.length]) w2 :=
            q1.then q2 (fun i hi => by cases hi)
          have hll : φ2 (st.heap.length + 1) = some (w1.heap.size, 0) := by rw [hφ2]; exact Mp.set_same _ _ _
          have hdl2 : φ2 st.heap.length = some (w.heap.size, 0) := by rw [hφ2, Mp.set_other _ _ (by omega)]; exact hdl
          -- the call
          have rf := p12.rel R.hr ro
          cases hv : a.eval f <;> rw [hv] at rf <;> first | (cases rf; done) | skip
          rename_i fn va vb
          cases rf with
          | fn _ _ _ _ _ _ hla hlb hra hrb =>
            have r1 : RelL S φ2 first va.toList := ⟨by simpa using hla, fun j x u h1 h2 => hra j x u h1 (by simpa using h2)⟩
            have r2 : RelL S φ2 captured vb.toList := ⟨by simpa using hlb, fun j x u h1 h2 => hrb j x u h1 (by simpa using h2)⟩
            have r3 : RelL S φ2 [.yld (st.heap.length + 1)] [.func (.yield w1.heap.size) #[] #[]] := .cons (.yld _ _ _ _ hll) .nil
            obtain ⟨g1, g2⟩ := hcall _ _ _ _ _ _ hcl (by simp; omega) S φ2 B w2 _ q2.hr ((r1.append r3).append r2)
            have e1 : (va.toList ++ [Value.func (.yield w1.heap.size) #[] #[]] ++ vb.toList).toArray = va ++ #[.func (.yield w1.heap.size) #[] #[]] ++ vb := by apply Array.ext'; simp
            rw [e1] at g1 g2
            obtain ⟨mark, hmark⟩ : ∃ mark : List Deferred, mark = [{ target := .collected w.heap.size, args := #[] }] := ⟨_, rfl⟩
            obtain ⟨v, w3, ⟨S3, φ3, hrv, p3⟩, hst⟩ := g2 (b.atR { a with defers := mark ++ a.defers } (.inRangeFunc w1.heap.size :: k)) cs
            rw [finish_atR_inRangeFunc] at hst
            have he : (Instr.enterLoop b.fn a.tmps ps as bd b.roundOf).run P w = .ok (w1.heap.size, mark) w2 := by
              rw [hro rfl]
              simp only [Instr.enterLoop, Sem.run_bind, run_newObj, Result.andThen_ok, Sem.run_pure, World.alloc_eq]
              rw [hw2, hw1, hlp, hmark]
            have hres : (resolve a.eval (rangeCall f w1.heap.size) 0).run P w2 = .ok { target := .fn (.func g) vb, args := va ++ #[.func (.yield w1.heap.size) #[] #[]] } w2 := by
              have hcv : a.eval (.const (.func (.yield w1.heap.size) #[] #[])) = .func (.yield w1.heap.size) #[] #[] := rfl
              simp [resolve, rangeCall, hv, hcv, Deferred.ofValue]
            have hinv : (invoke (.fn (.func g) vb) (va ++ #[.func (.yield w1.heap.size) #[] #[]])).run P w2 = .ok (.enter g (va ++ #[.func (.yield w1.heap.size) #[] #[]] ++ vb)) w2 := by
              simp only [invoke]; exact g1 w2
            have hent := stepR_rangeFunc (P := P) (b := b) (a := a) (k := k) (cs := cs) (w := w) he hres hinv
            -- the end of the loop
            have fin : ∀ (ls : LoopState) (pend : Option Ex) (fid' : Nat) (ts' : List AV) (ps' : List Nat) (as' bd' : ACode) (d' : Nat), ls ≠ .busy → h3[st.heap.length + 1]? = some (.loop ls pend fid' ts' ps' as' bd' d') →
                CodeOk P mode S φ B lim st a w (lone (b.atR a (.code (.rangeFunc f ps as bd) :: k)) cs w) b k cs (pend.getD .nrm) { st with heap := h3.set (st.heap.length + 1) (.loop .exhausted pend fid' ts' ps' as' bd' d'), marks := st.heap.length :: st.marks } := by
              intro ls pend fid' ts' ps' as' bd' d' hls hl3
              obtain ⟨l4, z4, lp4, j1, j2, j3, j4, j5, j6, j7, j8, j9, j10⟩ := loop_of p3.hr hl3
              have : φ3 (st.heap.length + 1) = some (w1.heap.size, 0) := p3.le _ _ hll
              rw [this] at j1; cases j1
              have hlim : lim ≤ st.heap.length + 1 := by omega
              have p4 := setLoop (st' := .exhausted) (pend' := pend) p3.hr hl3 this j2 lim hlim
              have e4 : { lp4 with state := LoopState.exhausted, pending := pend.bind exCode } = { lp4 with state := .exhausted } := by rw [← j4]
              rw [e4] at p4
              have hend : (Instr.endLoop w1.heap.size).run P w3 = .ok (pend.bind exCode) (World.put w3 w1.heap.size (.loop { lp4 with state := .exhausted })) := by
                simp [Instr.endLoop, Instr.getLoop, getObj, setObj, Sem.run, j2, j4, World.put]
                intro h0; rw [j3] at h0; exact absurd h0 hls
              have hst2 := stepR_endRangeFunc (P := P) (b := b) (a := { a with defers := mark ++ a.defers }) (k := k) (cs := cs) hend
              have steps : Steps P (lone (b.atR a (.code (.rangeFunc f ps as bd) :: k)) cs w) (lone (b.atR { a with defers := mark ++ a.defers } (((pend.bind exCode).map Item.code).toList ++ k)) cs (World.put w3 w1.heap.size (.loop { lp4 with state := .exhausted }))) :=
                Steps.head hent (Steps.trans hst (.one hst2))
              have pAll : Post P mode S φ B lim st.heap w none S3 φ3 _ _ := (p12.then p3 (fun i hi => by cases hi)).then p4 (fun i hi => by cases hi)
              refine ⟨S3, φ3, _, { a with defers := mark ++ a.defers }, ⟨p4.hr, ?_, ?_⟩, pAll, ?_⟩
              · exact pAll.relL R.hr R.ts
              · rw [hmark]
                exact ⟨⟨w.heap.size, 0, p3.le _ _ hdl2, rfl⟩, R.mks.mono pAll.le⟩
              · cases pend with
                | none => exact steps
                | some e =>
                  cases e with
                  | nrm => exact steps
                  | exit id => exact ⟨k, rfl, steps⟩
                  | ret => exact ⟨k, steps⟩
            split at hx
            · rename_i pend fid' ts' ps' as' bd' d' hl3
              cases hx
              exact fin _ _ _ _ _ _ _ _ (by simp) hl3
            · rename_i pend fid' ts' ps' as' bd' d' hl3
              cases hx
              exact fin _ _ _ _ _ _ _ _ (by simp) hl3
            · cases hx
        · cases hx
      · cases hx

end Go.Am
