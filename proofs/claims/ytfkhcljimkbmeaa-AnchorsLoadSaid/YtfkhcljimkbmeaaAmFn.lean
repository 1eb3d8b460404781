/-
Functions: what the abstract machine answers, the model's machine answers.
-/
import Derived.Test.YtfkhcljimkbmeaaAmDraw
namespace Go.Am
open Go
set_option linter.unusedVariables false
set_option linter.unusedSimpArgs false

variable {P : Program} {mode : Nat → Nat → Nat} {S : Fz} {φ : Mp} {B : Nat} {h : List AO} {w : World}

/-- a call of a function, up to where it leaves -/
def Leaves (P : Program) (f : Nat) (vals : Array Value) (w : World) (Q : Value → World → Prop) : Prop :=
  ∀ cs, ∃ v w' fr, Q v w' ∧ Steps P (lone (Frame.enter P f vals .normal) cs w) (lone fr cs w') ∧ fr.fn = f ∧ fr.leaving P w' (.returned v)

theorem Leaves.runs {f : Nat} {vals : Array Value} {Q : Value → World → Prop} (h : Leaves P f vals w Q) : Runs P (.enter f vals) w Q := by
  intro c cs
  obtain ⟨v, w', fr, hq, hs, _, hl⟩ := h (c :: cs)
  exact ⟨v, w', hq, Steps.trans hs (.one (step_leave_returned hl))⟩

theorem cFn_spec {m : Nat → Nat} {f : Nat} {fn : AFn} (h : cFn P m f = some fn) :
    ∃ F b, P.funcs[f]? = some F ∧ F.body = some b ∧ F.name ≠ "runtime.NumGoroutine" ∧ fn.ntmps = F.ntmps ∧ F.results.toList.mapM (cRes P) = some fn.results ∧ cCode P m b = some fn.body := by
  simp only [cFn, Option.bind_eq_bind, Option.bind_eq_some_iff] at h
  obtain ⟨F, hF, b, hb, h⟩ := h
  split at h
  · cases h
  · rename_i hn
    simp only [Option.bind_eq_some_iff, Option.some.injEq] at h
    obtain ⟨rs, hrs, c, hc, rfl⟩ := h
    exact ⟨F, b, hF, hb, hn, rfl, hrs, hc⟩

theorem callFunc_run {f : Nat} {F : Func} {b : Code} (hF : P.funcs[f]? = some F) (hb : F.body = some b) (hn : F.name ≠ "runtime.NumGoroutine") (args : Array Value) (w : World) : (callFunc f args).run P w = .ok (.enter f args) w := by
  simp [callFunc, hF, hb, hn]

/-- the marks of the loops over functions, taken up at the return -/
theorem marks_steps {b : Frame} {todo : List Item} {cs : List Frame} {lim : Nat} : ∀ (ms : List Nat) (S : Fz) (φ : Mp) (h h' : List AO) (w : World) (tmps : Array Value) (ds : List Deferred), HR P mode S φ B h w → MarksRel φ ms ds → (∀ m ∈ ms, lim ≤ m) → takeMarks ms h = some h' →
    ∃ w', Post P mode S φ B lim h w none S φ h' w' ∧ Steps P (lone { b.atR { tmps := tmps, defers := ds } todo with mode := .returning } cs w) (lone { b.atR { tmps := tmps, defers := [] } todo with mode := .returning } cs w')
  | [], S, φ, h, h', w, tmps, ds, H, hm, hl, hx => by
    simp only [takeMarks] at hx; cases hx
    cases ds with
    | nil => exact ⟨w, Post.refl H _ _, Steps.refl P _⟩
    | cons d ds => exact hm.elim
  | m :: ms, S, φ, h, h', w, tmps, ds, H, hm, hl, hx => by
    cases ds with
    | nil => exact hm.elim
    | cons d ds =>
      obtain ⟨⟨bk, z, h1, rfl⟩, h2⟩ := hm
      simp only [takeMarks] at hx
      split at hx
      · rename_i hd
        have hob : w.heap[bk]? = some (.deferred (some [])) := by
          rcases H.obj m _ hd with hh | ⟨b1, z1, k1, k2, k3⟩
          · cases hh
          · rw [h1] at k1; cases k1; exact k3
        have p1 := H.replace (a' := .tomb) (ob := .deferred none) hd h1 (fun x hx => by cases x <;> simp_all [mayShare]) (by simp) trivial trivial lim (hl m (by simp))
        obtain ⟨w', p2, hs⟩ := marks_steps ms S φ _ h' (World.put w bk (.deferred none)) tmps ds p1.hr h2 (fun q hq => hl q (by simp [hq])) hx (b := b) (todo := todo) (cs := cs)
        refine ⟨w', p1.trans p2, Steps.head ?_ hs⟩
        apply step_lone_go
        have hrun : (Instr.takeDeferred bk).run P w = .ok [] (World.put w bk (.deferred none)) := by
          simp [Instr.takeDeferred, getObj, setObj, Sem.run, hob, World.put]
        simp [stepG, unwind, Frame.atR, Sem.runT_eq, hrun, GStep.bare_after]
      · cases hx

theorem results_snd {F : Func} {rs : List ARes} (hrs : F.results.toList.mapM (cRes P) = some rs) {ts : List AV} {tmps : Array Value} (H : HR P mode S φ B h w) (hr : RelL S φ ts tmps.toList) {vs : List AV} (hv : rs.mapM (getRes ts h) = some vs) :
    ∃ us : List Value, (F.results.mapM (fun
      | .tmp t => pure (tmps.getD t undef)
      | .cell a t => do loadVar t (← asAddr (tmps.getD a undef)) : ResultVar → Sem Value)).run P w = .ok us.toArray w ∧ RelL S φ vs us := by
  rw [Array.mapM_eq_mapM_toList]
  have getD_eq : ∀ t, tmps.getD t undef = tmps.toList.getD t undef := fun t => by simp [Array.getD_eq_getD_getElem?, List.getD_eq_getElem?_getD]
  have main : ∀ (l : List ResultVar) (rs : List ARes) (vs : List AV), l.mapM (cRes P) = some rs → rs.mapM (getRes ts h) = some vs →
      ∃ us : List Value, (l.mapM (fun
      | .tmp t => pure (tmps.getD t undef)
      | .cell a t => do loadVar t (← asAddr (tmps.getD a undef)) : ResultVar → Sem Value)).run P w = .ok us w ∧ RelL S φ vs us := by
    intro l
    induction l with
    | nil => intro rs vs h1 h2; simp at h1; subst h1; simp at h2; subst h2; exact ⟨[], by simp, .nil⟩
    | cons x l ih =>
      intro rs vs h1 h2
      simp only [List.mapM_cons, Option.bind_eq_bind, Option.bind_eq_some_iff, Option.pure_def, Option.some.injEq] at h1
      obtain ⟨y, hy, rs', hrs', rfl⟩ := h1
      simp only [List.mapM_cons, Option.bind_eq_bind, Option.bind_eq_some_iff, Option.pure_def, Option.some.injEq] at h2
      obtain ⟨v, hv, vs', hvs', rfl⟩ := h2
      obtain ⟨us, hus, hrel⟩ := ih rs' vs' hrs' hvs'
      have hone : ∃ u, ((fun
        | .tmp t => pure (tmps.getD t undef)
        | .cell a t => do loadVar t (← asAddr (tmps.getD a undef)) : ResultVar → Sem Value) x).run P w = .ok u w ∧ Rel S φ v u := by
        cases x with
        | tmp t =>
          simp only [cRes, Option.some.injEq] at hy; subst hy
          simp only [getRes, Option.some.injEq] at hv; subst hv
          exact ⟨_, rfl, by rw [getD_eq]; exact hr.getD t⟩
        | cell a t =>
          simp only [cRes, Option.bind_eq_bind, Option.bind_eq_some_iff, Option.some.injEq] at hy
          obtain ⟨ag, hag, sz, hsz, rfl⟩ := hy
          simp only [getRes] at hv
          have hp := hr.getD a
          split at hv
          · rename_i o off ho
            split at hv
            · rename_i c hc
              rw [ho] at hp
              obtain ⟨bk, hb, hcell⟩ := ptr_cells H hc hp
              obtain ⟨u, hu, hru⟩ := loadVar_snd hag hsz hcell hv
              refine ⟨u, ?_, hru⟩
              rw [← getD_eq] at hb
              simp [hb, asAddr, hu]
            · cases hv
          · cases hv
      obtain ⟨u, hu, hru⟩ := hone
      refine ⟨u :: us, ?_, .cons hru hrel⟩
      simp only [List.mapM_cons, Sem.run_bind]
      rw [hu]
      simp only [Result.andThen_ok, hus, Sem.run_pure]
  obtain ⟨us, h1, h2⟩ := main _ _ _ hrs hv
  exact ⟨us, by simp only [Sem.run_map, h1, Result.andThen_ok], h2⟩

structure EnvOk (P : Program) (mode : Nat → Nat → Nat) (E : Env) : Prop where
  fn : ∀ f fn, E.fn f = some fn → cFn P (mode f) f = some fn
  spec : ∀ f args h lim r h', E.spec f args h lim = some (r, h') → lim ≤ h.length → ∀ S φ B w vals, HR P mode S φ B h w → RelL S φ args vals →
    (∀ w, (callFunc f vals.toArray).run P w = .ok (.enter f vals.toArray) w) ∧ Leaves P f vals.toArray w (Fits P mode S φ B lim h w none r h')
  frame : SpecFrame E.spec
  no : SpecNone E.spec
  len : SpecLen E.spec

theorem setAll_rel : ∀ (ps : List Nat) (as : List AV) (vs : List Value) (ts : List AV) (us : Array Value), as.length = ps.length → RelL S φ as vs → RelL S φ ts us.toList →
    RelL S φ (setAll ts ps as) ((ps.zip vs).foldl (fun (tmps : Array Value) (x : Nat × Value) => tmps.setIfInBounds x.1 x.2) us).toList
  | [], as, vs, ts, us, _, _, hr => by simpa [setAll] using hr
  | p :: ps, [], vs, ts, us, hl, _, _ => by simp at hl
  | p :: ps, a :: as, vs, ts, us, hl, hv, hr => by
    obtain ⟨v, r, rfl, hv1, hv2⟩ := hv.cons_inv
    simp only [setAll, List.zip_cons_cons, List.foldl_cons]
    exact setAll_rel ps as r _ _ (by simpa using hl) hv2 (by simpa using hr.set p hv1)

theorem callN_leaves {E : Env} (hE : EnvOk P mode E) (n : Nat) (ih : CallSnd P mode (callN E n)) {f : Nat} {args : List AV} {h : List AO} {lim : Nat} {r : AV} {h' : List AO} (hx : callN E (n + 1) (.fn f) args h lim = some (r, h')) (hlim : lim ≤ h.length)
    {vals : List Value} (H : HR P mode S φ B h w) (ra : RelL S φ args vals) :
    (∀ w, (callFunc f vals.toArray).run P w = .ok (.enter f vals.toArray) w) ∧ Leaves P f vals.toArray w (Fits P mode S φ B lim h w none r h') := by
  simp only [callN] at hx
  cases hsp : E.spec f args h lim with
  | some y => rw [hsp] at hx; cases hx; exact hE.spec _ _ _ _ _ _ hsp hlim S φ B w vals H ra
  | none =>
    rw [hsp] at hx
    simp only at hx
    cases hfn : E.fn f with
    | none => rw [hfn] at hx; cases hx
    | some fn =>
      rw [hfn] at hx
      simp only at hx
      obtain ⟨F, body, hF, hbody, hname, hnt, hres, hcode⟩ := cFn_spec (hE.fn f fn hfn)
      refine ⟨callFunc_run hF hbody hname _, fun cs => ?_⟩
      obtain ⟨b, hb⟩ : ∃ b : Frame, b = { (default : Frame) with fn := f, kind := .normal, roundOf := none } := ⟨_, rfl⟩
      obtain ⟨a, ha⟩ : ∃ a : Act, a = { tmps := vals.toArray ++ Array.replicate (fn.ntmps - vals.length) undef, defers := [] } := ⟨_, rfl⟩
      have hent : Frame.enter P f vals.toArray .normal = b.atR a [.code body] := by
        rw [hb, ha]
        simp [Frame.enter, Frame.atR, hF, hbody, hnt]
      have R : StRel P mode S φ B ⟨args ++ List.replicate (fn.ntmps - args.length) .undef, h, []⟩ a w := by
        refine ⟨H, ?_, by rw [ha]; trivial⟩
        rw [ha]
        simp only [Array.toList_append, Array.toList_replicate]
        rw [ra.1]
        refine ra.append ⟨by simp, fun j x u h1 h2 => ?_⟩
        rw [List.getElem?_replicate] at h1 h2
        split at h1
        · split at h2
          · cases h1; cases h2; exact Rel.undef
          · rename_i p q; exact absurd p q
        · cases h1
      have hfr := callN_frame hE.frame hE.no n
      cases hev : evCode (callN E n) lim n none f fn.body ⟨args ++ List.replicate (fn.ntmps - args.length) .undef, h, []⟩ with
      | none => rw [hev] at hx; cases hx
      | some q =>
        obtain ⟨e1, s1⟩ := q
        rw [hev] at hx
        obtain ⟨S1, φ1, w1, a1, R1, p1, l1⟩ := evCode_snd ih hfr (drawOk _ hfr (callN_len hE.len n)) (b := b) (by rw [hb]) (fun _ => by rw [hb]) body fn.body hcode S φ _ a w e1 s1 R hlim hev [] cs
        rw [← hent] at l1
        -- it is returning
        have hret : ∀ (hfin : finish lim fn.results s1 = some (r, h')), ∀ todo, Steps P (lone (Frame.enter P f vals.toArray .normal) cs w) (lone { b.atR a1 todo with mode := .returning } cs w1) →
            ∃ v w' fr, Fits P mode S φ B lim h w none r h' v w' ∧ Steps P (lone (Frame.enter P f vals.toArray .normal) cs w) (lone fr cs w') ∧ fr.fn = f ∧ fr.leaving P w' (.returned v) := by
          intro hfin todo hs
          unfold finish at hfin
          split at hfin
          · cases hfin
          · rename_i h2 htm
            split at htm
            case isFalse => cases htm
            rename_i hall
            have hmk : ∀ m ∈ s1.marks, lim ≤ m := fun m hm => by simpa using List.all_eq_true.1 hall m hm
            obtain ⟨w2, p2, hs2⟩ := marks_steps (b := b) (todo := todo) (cs := cs) (lim := lim) s1.marks S1 φ1 s1.heap h2 w1 a1.tmps a1.defers R1.hr R1.mks hmk htm
            have pp := p1.trans p2
            have hts := p2.relL R1.hr R1.ts
            have leave : ∀ (vs : List AV) (us : List Value) (rr : AV) (v : Value), (F.results.mapM (fun
                | .tmp t => pure (a1.tmps.getD t undef)
                | .cell a t => do loadVar t (← asAddr (a1.tmps.getD a undef)) : ResultVar → Sem Value)).run P w2 = .ok us.toArray w2 → v = (if hh : us.toArray.size = 1 then us.toArray[0] else .tuple us.toArray) → Rel S1 φ1 rr v → rr = r → h2 = h' →
                ∃ v w' fr, Fits P mode S φ B lim h w none r h' v w' ∧ Steps P (lone (Frame.enter P f vals.toArray .normal) cs w) (lone fr cs w') ∧ fr.fn = f ∧ fr.leaving P w' (.returned v) := by
              intro vs us rr v hrun hv hrv e1 e2
              subst e1; subst e2
              refine ⟨v, w2, { b.atR { tmps := a1.tmps, defers := [] } todo with mode := .returning }, ⟨S1, φ1, hrv, pp⟩, Steps.trans hs hs2, by rw [hb]; rfl, rfl, rfl, by rw [hb]; rfl, F, by rw [hb]; exact hF, ?_⟩
              show (results F a1.tmps).run P w2 = _
              unfold results
              rw [hv, Sem.run_bind]
              refine Eq.trans (congrArg (Result.andThen · _) hrun) ?_
              simp only [Result.andThen_ok, Sem.run_pure]
            split at hfin
            · rename_i hv
              obtain ⟨us, hus, hrel⟩ := results_snd hres p2.hr hts hv
              obtain ⟨u, rest, rfl, hu, hrest⟩ := hrel.cons_inv
              obtain rfl : rest = [] := List.eq_nil_of_length_eq_zero hrest.1.symm
              cases hfin
              exact leave [] [u] _ u hus (by simp) hu rfl rfl
            · rename_i vs hn hv
              obtain ⟨us, hus, hrel⟩ := results_snd hres p2.hr hts hv
              cases hfin
              refine leave vs us _ (.tuple us.toArray) hus ?_ (Rel.tup_iff.2 (by simpa using hrel)) rfl rfl
              have hne : us.length ≠ 1 := by
                intro e
                have : vs.length = 1 := by rw [hrel.1]; exact e
                obtain ⟨x, rfl⟩ := List.length_eq_one_iff.1 this
                exact hn x rfl
              simp [hne]
            · cases hfin
        cases e1 with
        | exit id => cases hx
        | nrm => exact hret hx [] (Steps.trans l1 (.one (stepR_end (by rw [hb]))))
        | ret =>
          obtain ⟨k', hk⟩ := l1
          exact hret hx (.code .ret :: k') (Steps.trans hk (.one (stepR_ret (by rw [hb]))))

theorem run_beginRound {l : Nat} {lp : Loop} {w : World} (h : w.heap[l]? = some (.loop lp)) (hs : lp.state = .ready) : (Instr.beginRound l).run P w = .ok () (World.put w l (.loop { lp with state := .busy })) := by
  simp [Instr.beginRound, Instr.getLoop, getObj, setObj, Sem.run, h, hs, World.put]

theorem run_endRound {l : Nat} {lp : Loop} {w : World} (h : w.heap[l]? = some (.loop lp)) (j : Option Code) : (Instr.endRound l j).run P w = .ok (.bool j.isNone) (World.put w l (.loop { lp with state := if j.isNone then .ready else .done, pending := j })) := by
  simp [Instr.endRound, Instr.getLoop, getObj, setObj, Sem.run, h, World.put]

theorem callN_round {E : Env} (hE : EnvOk P mode E) (n : Nat) (ih : CallSnd P mode (callN E n)) {o : Nat} {args : List AV} {h : List AO} {lim : Nat} {r : AV} {h' : List AO} (hx : callN E (n + 1) (.rnd o) args h lim = some (r, h')) (hlim : lim ≤ h.length)
    {vals : List Value} (H : HR P mode S φ B h w) (ra : RelL S φ args vals) {l z : Nat} (hl : φ o = some (l, z)) :
    ∃ nx, (Instr.yield l vals.toArray).run P w = .ok nx w ∧ isStart nx = true ∧ Runs P nx w (Fits P mode S φ B lim h w none r h') := by
  simp only [callN] at hx
  split at hx
  case h_2 => cases hx
  rename_i pend0 fid ts ps as bd d ho
  split at hx
  case isFalse => cases hx
  rename_i hcc
  obtain ⟨hla, hlo⟩ := hcc
  obtain ⟨l1, z1, lp, j1, j2, j3, j4, j5, j6, j7, j8, j9, j10⟩ := loop_of H ho
  rw [hl] at j1; cases j1
  obtain ⟨tmps, htmps⟩ : ∃ tmps, tmps = (lp.params.zip vals.toArray).foldl (fun (tmps : Array Value) (x : Nat × Value) => tmps.setIfInBounds x.1 x.2) lp.tmps := ⟨_, rfl⟩
  have hsz : vals.toArray.size = lp.params.size := by
    have h1 : lp.params.size = ps.length := by rw [← j7]; simp
    have h2 : vals.length = args.length := ra.1.symm
    simp [h1, h2, hla]
  refine ⟨.round l fid tmps lp.assign lp.body, ?_, rfl, fun c cs => ?_⟩
  · rw [htmps, ← j5]
    simp [Instr.yield, Instr.getLoop, getObj, Sem.run, j2, hsz]
  · obtain ⟨b, hb⟩ : ∃ b : Frame, b = { (default : Frame) with fn := fid, kind := .normal, roundOf := some l } := ⟨_, rfl⟩
    have hbr : b.roundOf = some l := by rw [hb]
    have hbk : b.kind = .normal := by rw [hb]
    have hbf : b.fn = fid := by rw [hb]
    obtain ⟨a, ha⟩ : ∃ a : Act, a = { tmps := tmps, defers := [] } := ⟨_, rfl⟩
    have hent : startFr P (.round l fid tmps lp.assign lp.body) = b.atR a [.code lp.assign, .beginRound, .code lp.body] := by
      rw [hb, ha]; rfl
    rw [hent]
    have R : StRel P mode S φ B ⟨setAll ts ps args, h, []⟩ a w := by
      refine ⟨H, ?_, by rw [ha]; trivial⟩
      rw [ha]
      have e : (lp.params.zip vals.toArray).foldl (fun (tmps : Array Value) (x : Nat × Value) => tmps.setIfInBounds x.1 x.2) lp.tmps = (ps.zip vals).foldl (fun (tmps : Array Value) (x : Nat × Value) => tmps.setIfInBounds x.1 x.2) lp.tmps := by
        rw [← Array.foldl_toList, Array.toList_zip, j7]
      show RelL S φ _ tmps.toList
      rw [htmps, e]
      exact setAll_rel ps args vals ts lp.tmps hla ra j6
    have hfr := callN_frame hE.frame hE.no n
    have hdr := drawOk (P := P) (mode fid) hfr (callN_len hE.len n)
    cases hev : evCode (callN E n) lim n (some o) fid as ⟨setAll ts ps args, h, []⟩ with
    | none => rw [hev] at hx; cases hx
    | some q =>
      obtain ⟨e1, s1⟩ := q
      rw [hev] at hx
      cases e1 with
      | exit id => cases hx
      | ret => cases hx
      | nrm =>
        simp only at hx
        split at hx
        case h_2 => cases hx
        rename_i pend1 fid1 ts1 ps1 as1 bd1 d1 ho1
        obtain ⟨S1, φ1, w1, a1, R1, p1, L1⟩ := evCode_snd ih hfr hdr (b := b) hbf (fun hh => by cases hh) lp.assign as j8 S φ _ a w _ s1 R hlim hev [.beginRound, .code lp.body] (c :: cs)
        have L1 : Steps P _ (lone (b.atR a1 [.beginRound, .code lp.body]) (c :: cs) w1) := L1
        obtain ⟨l2, z2, lp1, k1, k2, k3, k4, k5, k6, k7, k8, k9, k10⟩ := loop_of R1.hr ho1
        have hl1 : φ1 o = some (l, z) := p1.le _ _ hl
        rw [hl1] at k1; cases k1
        have p2 := setLoop (st' := .busy) (pend' := pend1) R1.hr ho1 hl1 k2 lim hlo
        have e2 : { lp1 with state := LoopState.busy, pending := pend1.bind exCode } = { lp1 with state := .busy } := by rw [← k4]
        rw [e2] at p2
        obtain ⟨w2, hw2⟩ : ∃ w2, w2 = World.put w1 l (.loop { lp1 with state := .busy }) := ⟨_, rfl⟩
        rw [← hw2] at p2
        have st2 := stepR_beginRound (P := P) (b := b) (a := a1) (k := [.code lp.body]) (cs := c :: cs) (w := w1) hbr (run_beginRound k2 k3)
        rw [← hw2] at st2
        have R2 : StRel P mode S1 φ1 B ⟨s1.tmps, s1.heap.set o (.loop .busy pend1 fid1 ts1 ps1 as1 bd1 d1), s1.marks⟩ a1 w2 := ⟨p2.hr, p2.relL R1.hr R1.ts, R1.mks⟩
        cases hev2 : evCode (callN E n) lim n (some o) fid bd ⟨s1.tmps, s1.heap.set o (.loop .busy pend1 fid1 ts1 ps1 as1 bd1 d1), s1.marks⟩ with
        | none => rw [hev2] at hx; cases hx
        | some q =>
          obtain ⟨ex, s2⟩ := q
          rw [hev2] at hx
          simp only at hx
          split at hx
          case h_2 => cases hx
          rename_i ls2 pend2 fid2 ts2 ps2 as2 bd2 d2 ho2
          have hlen : lim ≤ (s1.heap.set o (.loop .busy pend1 fid1 ts1 ps1 as1 bd1 d1)).length := by
            have := (List.getElem?_eq_some_iff.1 ho1).1
            simp; omega
          obtain ⟨S2, φ2, w3, a2, R3, p3, L2⟩ := evCode_snd ih hfr hdr (b := b) hbf (fun hh => by cases hh) lp.body bd j9 S1 φ1 _ a1 w2 ex s2 R2 hlen hev2 [] (c :: cs)
          obtain ⟨l3, z3, lp2, m1, m2, m3, m4, m5, m6, m7, m8, m9, m10⟩ := loop_of R3.hr ho2
          have hl2 : φ2 o = some (l, z) := p3.le _ _ hl1
          rw [hl2] at m1; cases m1
          have p4 := setLoop (st' := if ex == .nrm then .ready else .done) (pend' := if ex == .nrm then none else some ex) R3.hr ho2 hl2 m2 lim hlo
          have pAll := (p1.trans p2).trans (p3.trans p4)
          have pre : Steps P (lone (b.atR a [.code lp.assign, .beginRound, .code lp.body]) (c :: cs) w) (lone (b.atR a1 [.code lp.body]) (c :: cs) w2) := Steps.trans L1 (.one st2)
          cases hx
          cases ex with
          | nrm =>
            refine ⟨.bool true, _, ⟨S2, φ2, Rel.bool _ _, pAll⟩, Steps.trans pre (Steps.trans L2 (.one (stepR_round_end hbr hbk (run_endRound m2 none))))⟩
          | exit id =>
            obtain ⟨k', hk', L2⟩ := L2
            refine ⟨.bool false, _, ⟨S2, φ2, Rel.bool _ _, pAll⟩, Steps.trans pre (Steps.trans L2 (.one (stepR_round_exit hbr hbk hk' (run_endRound m2 (some (.exit id))))))⟩
          | ret =>
            obtain ⟨k', L2⟩ := L2
            refine ⟨.bool false, _, ⟨S2, φ2, Rel.bool _ _, pAll⟩, Steps.trans pre (Steps.trans L2 (.one (stepR_round_ret hbr hbk (run_endRound m2 (some .ret)))))⟩

/-- what the abstract machine says of calls is so -/
theorem callN_snd {E : Env} (hE : EnvOk P mode E) : ∀ n, CallSnd P mode (callN E n)
  | 0 => fun t args h lim r h' hx => by simp [callN] at hx
  | n + 1 => by
    intro t args h lim r h' hx hlim S φ B w vals H ra
    have ih := callN_snd hE n
    cases t with
    | fn f =>
      obtain ⟨g1, g2⟩ := callN_leaves hE n ih hx hlim H ra
      exact ⟨g1, g2.runs⟩
    | rnd o => exact fun l z hl => callN_round hE n ih hx hlim H ra hl

end Go.Am
