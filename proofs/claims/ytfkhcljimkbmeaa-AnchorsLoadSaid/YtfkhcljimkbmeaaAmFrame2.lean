/-
The same of code and of calls.
-/
import Derived.Test.YtfkhcljimkbmeaaAmFrame
namespace Go.Am
open Go
set_option linter.unusedVariables false
set_option linter.unusedSimpArgs false

theorem exOper_frame {call : Callee} (hcall : FrameOk call) {lim base : Nat} {ts : List AV} {h : List AO} {o : AOper} {v : AV} {h' : List AO} (hx : exOper call lim base ts h o = some (v, h')) {s : Nat} (X : AO) (hs : h[s]? = some .tomb) (hb : s < base) :
    exOper call lim base ts (h.set s X) o = some (v, h'.set s X) ∧ h'[s]? = some .tomb := by
  have masks : ∀ (pl : Option Nat) (op : AOp) (m : List Nat) (v : AV) (h' : List AO), pl ≠ some s → exMask call lim base pl (Opd.ev ts) h op m = some (v, h') →
      exMask call lim base pl (Opd.ev ts) (h.set s X) op m = some (v, h'.set s X) ∧ h'[s]? = some .tomb := by
    intro pl op m v h' hp hm
    cases m with
    | nil => simp only [exMask] at hm ⊢; exact exOp_frame hcall hm X hs hp
    | cons t r =>
      simp only [exMask] at hm ⊢
      split at hm
      · rename_i v0 h0 h1
        cases hm
        have e1 : hide base (t :: r) (h.set s X) = (hide base (t :: r) h).set s X := by
          apply List.ext_getElem?
          intro q
          rw [hide_get, List.getElem?_set, List.getElem?_set, hide_get, hide_len]
          by_cases e : s = q
          · subst e
            have : ¬ ∃ x ∈ t :: r, base + x = s := by rintro ⟨x, _, hx⟩; omega
            simp only [List.length_set, this, and_false, if_false]
          · simp only [e, if_false, List.length_set]
        have htomb : (hide base (t :: r) h)[s]? = some .tomb := by
          rw [hide_get]; split
          · rfl
          · exact hs
        obtain ⟨g1, g2⟩ := exOp_frame hcall h1 X htomb hp
        rw [e1, g1]
        simp only [Option.some.injEq, Prod.mk.injEq, true_and]
        refine ⟨?_, ?_⟩
        · apply List.ext_getElem?
          intro q
          rw [unhide_get, List.getElem?_set, List.getElem?_set, unhide_get, unhide_len]
          by_cases e : s = q
          · subst e
            have : ¬ ∃ x ∈ t :: r, base + x = s := by rintro ⟨x, _, hx⟩; omega
            simp only [List.length_set, this, and_false, if_false]
          · simp only [e, if_false, List.length_set, List.getD_eq_getElem?_getD, List.getElem?_set_ne e]
        · rw [unhide_get, if_neg]
          · exact g2
          · rintro ⟨_, x, _, hx⟩; omega
      · cases hm
  unfold exOper at hx ⊢
  split at hx
  · rename_i t size a x ho hop
    try simp only [ho, hop]
    split at hx
    · rename_i p off hp
      try simp only [hp]
      split at hx
      · rename_i hpe
        rw [if_pos hpe]
        exact exOp_frame hcall hx X hs (by simp)
      · cases hx
    · cases hx
  · rename_i sl op hn
    have key := masks (o.slot.map (base + ·)) o.op o.mask v h' (by
      cases e : o.slot with
      | none => simp
      | some t => simp; omega) (by exact hx)
    exact key

theorem stepOp_frame {call : Callee} (hcall : FrameOk call) {lim base : Nat} {ts : List AV} {h : List AO} {o : AOper} {ts' : List AV} {h' : List AO} (hx : stepOp call lim base o ts h = some (ts', h')) {s : Nat} (X : AO) (hs : h[s]? = some .tomb) (hb : s < base) :
    stepOp call lim base o ts (h.set s X) = some (ts', h'.set s X) ∧ h'[s]? = some .tomb := by
  unfold stepOp at hx ⊢
  split at hx
  · rename_i hw
    rw [if_pos hw]
    split at hx
    · rename_i v h1 he
      cases hx
      obtain ⟨g1, g2⟩ := exOper_frame hcall he X hs hb
      rw [g1]; exact ⟨rfl, g2⟩
    · cases hx
  · rename_i hw
    rw [if_neg hw]
    cases hx
    exact ⟨rfl, hs⟩

theorem evOps_frame {call : Callee} (hcall : FrameOk call) {lim base : Nat} {s : Nat} (X : AO) (hb : s < base) : ∀ (os : List AOper) (ts : List AV) (h : List AO) (ts' : List AV) (h' : List AO), evOps call lim base os ts h = some (ts', h') → h[s]? = some .tomb →
    evOps call lim base os ts (h.set s X) = some (ts', h'.set s X) ∧ h'[s]? = some .tomb
  | [], ts, h, ts', h', hx, hs => by simp only [evOps] at hx ⊢; cases hx; exact ⟨rfl, hs⟩
  | o :: r, ts, h, ts', h', hx, hs => by
    simp only [evOps] at hx ⊢
    split at hx
    · rename_i t1 h1 he
      obtain ⟨g1, g2⟩ := stepOp_frame hcall he X hs hb
      rw [g1]
      exact evOps_frame hcall X hb r t1 h1 ts' h' hx g2
    · cases hx

def St.setH (st : St) (s : Nat) (X : AO) : St := { st with heap := st.heap.set s X }

theorem iter_frame {s : Nat} {X : AO} {f : St → Option (Ex × St)} (hf : ∀ st ex st', f st = some (ex, st') → st.heap[s]? = some .tomb → f (st.setH s X) = some (ex, st'.setH s X) ∧ st'.heap[s]? = some .tomb) :
    ∀ (n : Nat) (st : St) (ex : Ex) (st' : St), iter f n st = some (ex, st') → st.heap[s]? = some .tomb → iter f n (st.setH s X) = some (ex, st'.setH s X) ∧ st'.heap[s]? = some .tomb
  | 0, st, ex, st', hx, _ => by simp [iter] at hx
  | n + 1, st, ex, st', hx, hs => by
    simp only [iter] at hx ⊢
    cases hfs : f st with
    | none => rw [hfs] at hx; cases hx
    | some y =>
      obtain ⟨e1, s1⟩ := y
      obtain ⟨g1, g2⟩ := hf st e1 s1 hfs hs
      rw [hfs] at hx; rw [g1]
      cases e1 with
      | nrm => exact iter_frame hf n s1 ex st' hx g2
      | exit id => cases hx; exact ⟨rfl, g2⟩
      | ret => cases hx; exact ⟨rfl, g2⟩

theorem evCode_frame {call : Callee} (hcall : FrameOk call) {lim n : Nat} {rnd : Option Nat} {fid : Nat} {s : Nat} (X : AO) : ∀ (c : ACode) (st : St) (ex : Ex) (st' : St), evCode call lim n rnd fid c st = some (ex, st') → st.heap[s]? = some .tomb →
    evCode call lim n rnd fid c (st.setH s X) = some (ex, st'.setH s X) ∧ st'.heap[s]? = some .tomb
  | .skip, st, ex, st', hx, hs => by simp only [evCode] at hx ⊢; cases hx; exact ⟨rfl, hs⟩
  | .exit id, st, ex, st', hx, hs => by simp only [evCode] at hx ⊢; cases hx; exact ⟨rfl, hs⟩
  | .ret, st, ex, st', hx, hs => by simp only [evCode] at hx ⊢; cases hx; exact ⟨rfl, hs⟩
  | .scope c, st, ex, st', hx, hs => by simp only [evCode] at hx ⊢; exact evCode_frame hcall X c st ex st' hx hs
  | .loop c, st, ex, st', hx, hs => by
    simp only [evCode] at hx ⊢
    exact iter_frame (fun st ex st' h1 h2 => evCode_frame hcall X c st ex st' h1 h2) n st ex st' hx hs
  | .region k os, st, ex, st', hx, hs => by
    simp only [evCode] at hx ⊢
    have hl := (List.getElem?_eq_some_iff.1 hs).1
    split at hx
    · rename_i ts h1 he
      cases hx
      obtain ⟨g1, g2⟩ := evOps_frame hcall X hl os st.tmps _ ts h1 he (by rw [List.getElem?_append_left hl]; exact hs)
      rw [List.set_append_left _ _ hl] at g1
      simp only [St.setH, List.length_set, g1]
      exact ⟨by first | rfl | trivial, g2⟩
    · cases hx
  | .seq a b, st, ex, st', hx, hs => by
    simp only [evCode] at hx ⊢
    cases hfs : evCode call lim n rnd fid a st with
    | none => rw [hfs] at hx; cases hx
    | some y =>
      obtain ⟨e1, s1⟩ := y
      obtain ⟨g1, g2⟩ := evCode_frame hcall X a st e1 s1 hfs hs
      rw [hfs] at hx; rw [g1]
      cases e1 with
      | nrm => exact evCode_frame hcall X b s1 ex st' hx g2
      | exit id => cases hx; exact ⟨rfl, g2⟩
      | ret => cases hx; exact ⟨rfl, g2⟩
  | .cond c a b, st, ex, st', hx, hs => by
    simp only [evCode] at hx ⊢
    have e0 : (st.setH s X).tmps = st.tmps := rfl
    rw [e0]
    split at hx
    · exact evCode_frame hcall X a st ex st' hx hs
    · exact evCode_frame hcall X b st ex st' hx hs
    · cases hx
  | .block id c, st, ex, st', hx, hs => by
    simp only [evCode] at hx ⊢
    cases hfs : evCode call lim n rnd fid c st with
    | none => rw [hfs] at hx; cases hx
    | some y =>
      obtain ⟨e1, s1⟩ := y
      obtain ⟨g1, g2⟩ := evCode_frame hcall X c st e1 s1 hfs hs
      rw [hfs] at hx; rw [g1]
      cases e1 with
      | nrm => cases hx; exact ⟨rfl, g2⟩
      | exit id' =>
        simp only at hx ⊢
        split at hx
        · rename_i e; rw [if_pos e]; cases hx; exact ⟨rfl, g2⟩
        · rename_i e; rw [if_neg e]; cases hx; exact ⟨rfl, g2⟩
      | ret => cases hx; exact ⟨rfl, g2⟩
  | .rangeFunc f ps as bd, st, ex, st', hx, hs => by
    have hl := (List.getElem?_eq_some_iff.1 hs).1
    simp only [evCode] at hx ⊢
    cases rnd with
    | some _ => cases hx
    | none =>
      simp only at hx ⊢
      have e0 : (st.setH s X).tmps = st.tmps := rfl
      have e1 : (st.setH s X).heap.length = st.heap.length := by simp [St.setH]
      rw [e0, e1]
      split at hx
      · rename_i g first captured hf
        split at hx
        · rename_i r0 h3 hc
          obtain ⟨g1, g2⟩ := hcall _ _ _ _ _ _ hc s X (by rw [List.getElem?_append_left hl]; exact hs)
          rw [List.set_append_left _ _ hl] at g1
          have e2 : (st.setH s X).heap = st.heap.set s X := rfl
          rw [e2, g1]
          simp only
          split at hx
          · rename_i pend fid' ts' ps' as' bd' d' hl3
            have hne : s ≠ st.heap.length + 1 := by omega
            rw [List.getElem?_set_ne hne, hl3]
            cases hx
            refine ⟨?_, by simp only; rw [List.getElem?_set_ne (Ne.symm hne)]; exact g2⟩
            simp only [St.setH]
            rw [set_comm' hne]
          · rename_i pend fid' ts' ps' as' bd' d' hl3
            have hne : s ≠ st.heap.length + 1 := by omega
            rw [List.getElem?_set_ne hne, hl3]
            cases hx
            refine ⟨?_, by simp only; rw [List.getElem?_set_ne (Ne.symm hne)]; exact g2⟩
            simp only [St.setH]
            rw [set_comm' hne]
          · cases hx
        · cases hx
      · cases hx

theorem takeMarks_frame {s : Nat} {X : AO} : ∀ (ms : List Nat) (h h' : List AO), takeMarks ms h = some h' → h[s]? = some .tomb → takeMarks ms (h.set s X) = some (h'.set s X) ∧ h'[s]? = some .tomb
  | [], h, h', hx, hs => by simp only [takeMarks] at hx ⊢; cases hx; exact ⟨rfl, hs⟩
  | m :: r, h, h', hx, hs => by
    simp only [takeMarks] at hx ⊢
    split at hx
    · rename_i hd
      have hne : s ≠ m := by intro e; subst e; rw [hs] at hd; cases hd
      rw [List.getElem?_set_ne hne, hd]
      simp only
      rw [set_comm' hne]
      exact takeMarks_frame r _ h' hx (by rw [List.getElem?_set_ne (Ne.symm hne)]; exact hs)
    · cases hx

theorem getRes_frame {s : Nat} {X : AO} {ts : List AV} {h : List AO} {r : ARes} {v : AV} (hs : h[s]? = some .tomb) (hx : getRes ts h r = some v) : getRes ts (h.set s X) r = some v := by
  cases r with
  | tmp t => simpa [getRes] using hx
  | cell ag size t =>
    simp only [getRes] at hx ⊢
    split at hx
    · rename_i o off ho
      try simp only [ho]
      split at hx
      · rename_i c hc
        rw [row_set hs hc]; exact hx
      · cases hx
    · cases hx

theorem finish_frame {s lim : Nat} {X : AO} {rs : List ARes} {st : St} {r : AV} {h' : List AO} (hx : finish lim rs st = some (r, h')) (hs : st.heap[s]? = some .tomb) : finish lim rs (st.setH s X) = some (r, h'.set s X) ∧ h'[s]? = some .tomb := by
  unfold finish at hx ⊢
  split at hx
  · cases hx
  · rename_i h1 he
    split at he
    case isFalse => cases he
    rename_i hall
    obtain ⟨g1, g2⟩ := takeMarks_frame (X := X) _ _ _ he hs
    have e0 : (st.setH s X).marks = st.marks := rfl
    have e1 : (st.setH s X).heap = st.heap.set s X := rfl
    have e2 : (st.setH s X).tmps = st.tmps := rfl
    rw [e0, e1, e2, if_pos hall, g1]
    simp only
    have hm : ∀ (l : List ARes) (vs : List AV), l.mapM (getRes st.tmps h1) = some vs → l.mapM (getRes st.tmps (h1.set s X)) = some vs := by
      intro l
      induction l with
      | nil => intro vs hl; simpa using hl
      | cons x l ih =>
        intro vs hl
        simp only [List.mapM_cons, Option.bind_eq_bind, Option.bind_eq_some_iff, Option.pure_def, Option.some.injEq] at hl ⊢
        obtain ⟨y, hy, r, hr, rfl⟩ := hl
        exact ⟨y, getRes_frame g2 hy, r, ih _ hr, rfl⟩
    split at hx
    · rename_i v hv
      rw [hm _ _ hv]; cases hx; exact ⟨rfl, g2⟩
    · rename_i vs hn hv
      rw [hm _ _ hv]
      cases hx
      refine ⟨?_, g2⟩
      split
      · rename_i v hv2
        simp only [Option.some.injEq] at hv2
        exact absurd hv2 (hn v)
      · rename_i vs' hn' hv2
        simp only [Option.some.injEq] at hv2; subst hv2; rfl
      · rename_i hv2; cases hv2
    · cases hx

def SpecFrame (spec : Nat → List AV → List AO → Nat → Option (AV × List AO)) : Prop :=
  ∀ f args h lim r h', spec f args h lim = some (r, h') → ∀ (s : Nat) X, h[s]? = some .tomb → spec f args (h.set s X) lim = some (r, h'.set s X) ∧ h'[s]? = some .tomb

/-- what is not in the specifications' table stays so -/
def SpecNone (spec : Nat → List AV → List AO → Nat → Option (AV × List AO)) : Prop :=
  ∀ f args h lim, spec f args h lim = none → ∀ (s : Nat) X, h[s]? = some .tomb → spec f args (h.set s X) lim = none

theorem callN_frame {E : Env} (hE : SpecFrame E.spec) (hN : SpecNone E.spec) : ∀ n, FrameOk (callN E n)
  | 0 => fun t args h lim r h' hx => by simp [callN] at hx
  | n + 1 => by
    intro t args h lim r h' hx s X hs
    have ih := callN_frame hE hN n
    cases t with
    | fn f =>
      simp only [callN] at hx ⊢
      cases hsp : E.spec f args h lim with
      | some y =>
        rw [hsp] at hx
        cases hx
        obtain ⟨g1, g2⟩ := hE _ _ _ _ _ _ hsp s X hs
        rw [g1]; exact ⟨rfl, g2⟩
      | none =>
        rw [hsp] at hx
        rw [hN _ _ _ _ hsp s X hs]
        simp only at hx ⊢
        cases hfn : E.fn f with
        | none => rw [hfn] at hx; cases hx
        | some fn =>
          rw [hfn] at hx
          simp only at hx ⊢
          cases hev : evCode (callN E n) lim n none f fn.body ⟨args ++ List.replicate (fn.ntmps - args.length) .undef, h, []⟩ with
          | none => rw [hev] at hx; cases hx
          | some y =>
            obtain ⟨e1, s1⟩ := y
            obtain ⟨g1, g2⟩ := evCode_frame ih X _ _ _ _ hev hs
            have e2 : (St.mk (args ++ List.replicate (fn.ntmps - args.length) .undef) h []).setH s X = ⟨args ++ List.replicate (fn.ntmps - args.length) .undef, h.set s X, []⟩ := rfl
            rw [e2] at g1
            rw [hev] at hx; rw [g1]
            cases e1 with
            | nrm => exact finish_frame hx g2
            | exit id => cases hx
            | ret => exact finish_frame hx g2
    | rnd o =>
      simp only [callN] at hx ⊢
      split at hx
      · rename_i pend fid ts ps as bd d ho
        have hne : s ≠ o := by intro e; subst e; rw [hs] at ho; cases ho
        rw [List.getElem?_set_ne hne, ho]
        simp only
        split at hx
        · rename_i hcc
          rw [if_pos hcc]
          cases hev : evCode (callN E n) lim n (some o) fid as ⟨setAll ts ps args, h, []⟩ with
          | none => rw [hev] at hx; cases hx
          | some y =>
            obtain ⟨e1, s1⟩ := y
            obtain ⟨g1, g2⟩ := evCode_frame ih X _ _ _ _ hev hs
            have e2 : (St.mk (setAll ts ps args) h []).setH s X = ⟨setAll ts ps args, h.set s X, []⟩ := rfl
            rw [e2] at g1
            rw [hev] at hx; rw [g1]
            cases e1 with
            | exit id => cases hx
            | ret => cases hx
            | nrm =>
              simp only at hx ⊢
              have e3 : (s1.setH s X).heap = s1.heap.set s X := rfl
              have e4 : (s1.setH s X).tmps = s1.tmps := rfl
              have e7 : (s1.setH s X).marks = s1.marks := rfl
              rw [e3, e4, e7, List.getElem?_set_ne hne]
              split at hx
              · rename_i pend1 fid1 ts1 ps1 as1 bd1 d1 ho1
                try simp only [ho1]
                rw [set_comm' hne]
                cases hev2 : evCode (callN E n) lim n (some o) fid bd ⟨s1.tmps, s1.heap.set o (.loop .busy pend1 fid1 ts1 ps1 as1 bd1 d1), s1.marks⟩ with
                | none => rw [hev2] at hx; cases hx
                | some y2 =>
                  obtain ⟨ex, s2⟩ := y2
                  obtain ⟨k1, k2⟩ := evCode_frame ih X _ _ _ _ hev2 (by simp only; rw [List.getElem?_set_ne (Ne.symm hne)]; exact g2)
                  have e5 : (St.mk s1.tmps (s1.heap.set o (.loop .busy pend1 fid1 ts1 ps1 as1 bd1 d1)) s1.marks).setH s X = ⟨s1.tmps, (s1.heap.set o (.loop .busy pend1 fid1 ts1 ps1 as1 bd1 d1)).set s X, s1.marks⟩ := rfl
                  rw [e5] at k1
                  rw [hev2] at hx; rw [k1]
                  simp only at hx ⊢
                  have e6 : (s2.setH s X).heap = s2.heap.set s X := rfl
                  rw [e6, List.getElem?_set_ne hne]
                  split at hx
                  · rename_i st2 pend2 fid2 ts2 ps2 as2 bd2 d2 ho2
                    try simp only [ho2]
                    cases hx
                    refine ⟨?_, by rw [List.getElem?_set_ne (Ne.symm hne)]; exact k2⟩
                    rw [set_comm' hne]
                  · cases hx
              · cases hx
        · cases hx
      · cases hx

end Go.Am
