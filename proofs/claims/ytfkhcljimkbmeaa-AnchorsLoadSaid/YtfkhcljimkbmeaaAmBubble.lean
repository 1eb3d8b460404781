/-
Orders of a region: any order that keeps the edges is reached from the order of the text by exchanges of neighbours.
-/
import Derived.Test.YtfkhcljimkbmeaaAmCode2
namespace Go.Am
open Go
set_option linter.unusedVariables false
set_option linter.unusedSimpArgs false

theorem nodup_sub {α : Type} : ∀ (l m : List α), l.Nodup → (∀ x ∈ l, x ∈ m) → ∃ r, m.Perm (l ++ r)
  | [], m, _, _ => ⟨m, List.Perm.refl _⟩
  | a :: l, m, hn, hs => by
    obtain ⟨p, q, rfl⟩ := List.append_of_mem (hs a (by simp))
    rw [List.nodup_cons] at hn
    obtain ⟨r, hr⟩ := nodup_sub l (p ++ q) hn.2 (fun x hx => by
      have := hs x (by simp [hx])
      rcases List.mem_append.1 this with h | h
      · simp [h]
      · rcases List.mem_cons.1 h with rfl | h
        · exact absurd hx hn.1
        · simp [h])
    exact ⟨r, List.perm_middle.trans (by simpa using hr)⟩

section bubble
variable {σ : Type} (step : Nat → σ → Option σ)

def runL : List Nat → σ → Option σ
  | [], s => some s
  | i :: r, s => match step i s with
    | some s' => runL r s'
    | none => none

variable {step}

theorem runL_front {Inv : List Nat → σ → Prop} (hstep : ∀ a L s s', Inv (a :: L) s → step a s = some s' → Inv L s') (hperm : ∀ L L' s, L.Perm L' → Inv L s → Inv L' s) {ok : Nat → Nat → Prop}
    (comm : ∀ b a L s s1 s2, Inv (b :: a :: L) s → b < a → ok b a → step b s = some s1 → step a s1 = some s2 → ∃ s1', step a s = some s1' ∧ step b s1' = some s2) {a : Nat} {post : List Nat} :
    ∀ (pre : List Nat) (s s' : σ), (∀ b ∈ pre, b < a ∧ ok b a) → Inv (pre ++ a :: post) s → runL step (pre ++ a :: post) s = some s' → runL step (a :: (pre ++ post)) s = some s'
  | [], s, s', _, _, hx => hx
  | b :: pre, s, s', hb, hi, hx => by
    simp only [List.cons_append, runL] at hx
    cases h1 : step b s with
    | none => rw [h1] at hx; cases hx
    | some s1 =>
      rw [h1] at hx
      simp only at hx
      have hi1 := hstep _ _ _ _ hi h1
      have := runL_front hstep hperm comm pre s1 s' (fun q hq => hb q (by simp [hq])) hi1 hx
      simp only [runL] at this
      cases h2 : step a s1 with
      | none => rw [h2] at this; cases this
      | some s2 =>
        rw [h2] at this
        simp only at this
        have hp : (b :: pre ++ a :: post).Perm (b :: a :: (pre ++ post)) := by
          simp only [List.cons_append]
          exact List.Perm.cons _ List.perm_middle
        obtain ⟨s1', k1, k2⟩ := comm b a (pre ++ post) s s1 s2 (hperm _ _ _ hp hi) (hb b (by simp)).1 (hb b (by simp)).2 h1 h2
        simp only [runL, List.cons_append, k1, k2]
        exact this

theorem runL_sorted {Inv : List Nat → σ → Prop} (hstep : ∀ a L s s', Inv (a :: L) s → step a s = some s' → Inv L s') (hperm : ∀ L L' s, L.Perm L' → Inv L s → Inv L' s) {ok : Nat → Nat → Prop}
    (comm : ∀ b a L s s1 s2, Inv (b :: a :: L) s → b < a → ok b a → step b s = some s1 → step a s1 = some s2 → ∃ s1', step a s = some s1' ∧ step b s1' = some s2) :
    ∀ (L M : List Nat) (s s' : σ), L.Pairwise (fun a b => b < a → ok b a) → M.Pairwise (· < ·) → M.Perm L → Inv M s → runL step M s = some s' → runL step L s = some s'
  | [], M, s, s', _, _, hp, _, hx => by rw [List.perm_nil.1 hp] at hx; exact hx
  | a :: L, M, s, s', hL, hM, hp, hi, hx => by
    obtain ⟨pre, post, rfl⟩ := List.append_of_mem (hp.mem_iff.2 (List.mem_cons_self (a := a)))
    have hp' : (pre ++ post).Perm L := (List.perm_middle.symm.trans hp).cons_inv
    rw [List.pairwise_cons] at hL
    rw [List.pairwise_append] at hM
    obtain ⟨m1, m2, m3⟩ := hM
    rw [List.pairwise_cons] at m2
    have hb : ∀ b ∈ pre, b < a ∧ ok b a := fun b hb => by
      have h1 := m3 b hb a (by simp)
      exact ⟨h1, hL.1 b (hp'.mem_iff.1 (by simp [hb])) h1⟩
    have h1 := runL_front hstep hperm comm pre s s' hb hi hx
    simp only [runL] at h1 ⊢
    cases h2 : step a s with
    | none => rw [h2] at h1; cases h1
    | some s1 =>
      rw [h2] at h1
      simp only at h1 ⊢
      refine runL_sorted hstep hperm comm L (pre ++ post) s1 s' hL.2 ?_ hp' ?_ h1
      · rw [List.pairwise_append]; exact ⟨m1, m2.2, fun x hx y hy => m3 x hx y (by simp [hy])⟩
      · exact hstep _ _ _ _ (hperm _ _ _ List.perm_middle hi) h2
end bubble

/-! what the orders of a region keep -/

def clStep (acc : List (List Nat)) (o : Oper) : List (List Nat) := acc ++ [o.after.toList.flatMap fun e => if Region.binds .any e then e.on :: acc.getD e.on [] else []]

theorem closure_eq (ops : List Oper) : closure ops = ops.foldl clStep [] := rfl

theorem clStep_prefix : ∀ (l : List Oper) (acc : List (List Nat)), ∃ r, l.foldl clStep acc = acc ++ r ∧ r.length = l.length
  | [], acc => ⟨[], by simp⟩
  | o :: l, acc => by
    obtain ⟨r, h1, h2⟩ := clStep_prefix l (clStep acc o)
    exact ⟨_ :: r, by rw [List.foldl_cons, h1, clStep, List.append_assoc]; rfl, by simp [h2]⟩

theorem closure_mem {ops : List Oper} (hb : edgesBack ops = true) {j : Nat} {o : Oper} (ho : ops[j]? = some o) {i : Nat} (hi : i ∈ (closure ops).getD j []) :
    ∃ e ∈ o.after.toList, Region.binds .any e = true ∧ e.on < j ∧ (i = e.on ∨ i ∈ (closure ops).getD e.on []) := by
  have hj := (List.getElem?_eq_some_iff.1 ho).1
  have hs : ops = ops.take j ++ o :: ops.drop (j + 1) := by
    have := (List.getElem?_eq_some_iff.1 ho).2
    rw [← this, List.getElem_cons_drop, List.take_append_drop]
  obtain ⟨A, hA, lA⟩ := clStep_prefix (ops.take j) []
  have e1 : closure ops = (ops.drop (j + 1)).foldl clStep (clStep A o) := by
    rw [closure_eq]
    conv => lhs; rw [hs]
    rw [List.foldl_append, List.foldl_cons, hA, List.nil_append]
  obtain ⟨r, hr, _⟩ := clStep_prefix (ops.drop (j + 1)) (clStep A o)
  have lA' : A.length = j := by rw [lA, List.length_take]; omega
  have e2 : closure ops = A ++ ((o.after.toList.flatMap fun e => if Region.binds .any e then e.on :: A.getD e.on [] else []) :: r) := by
    rw [e1, hr, clStep, List.append_assoc]; rfl
  have e3 : (closure ops).getD j [] = o.after.toList.flatMap fun e => if Region.binds .any e then e.on :: A.getD e.on [] else [] := by
    rw [e2, List.getD_eq_getElem?_getD, List.getElem?_append_right (by omega)]
    simp [lA']
  rw [e3, List.mem_flatMap] at hi
  obtain ⟨e, he, hie⟩ := hi
  split at hie
  · rename_i hbi
    have hlt : e.on < j := by
      unfold edgesBack at hb
      rw [List.all_eq_true] at hb
      have := hb (o, j) (by rw [List.mem_zipIdx_iff_getElem?]; exact ho)
      simp only [List.all_eq_true] at this
      have := this e he
      simpa [hbi] using this
    refine ⟨e, he, hbi, hlt, ?_⟩
    rcases List.mem_cons.1 hie with h | h
    · exact .inl h
    · refine .inr ?_
      rw [e2, List.getD_eq_getElem?_getD, List.getElem?_append_left (by omega), ← List.getD_eq_getElem?_getD]
      exact h
  · simp at hie

/-- what is listed first needs nothing that is listed later -/
def Keeps (ops : Array Oper) (L : List Nat) : Prop :=
  ∀ pre j post, L = pre ++ j :: post → ∃ o, ops[j]? = some o ∧ ∀ e ∈ o.after.toList, Region.binds .any e = true → e.on ∈ pre

theorem Keeps.closure {ops : Array Oper} {L : List Nat} (hk : Keeps ops L) (hb : edgesBack ops.toList = true) : ∀ (j : Nat) (pre post : List Nat), L = pre ++ j :: post → ∀ i ∈ (closure ops.toList).getD j [], i ∈ pre := by
  intro j
  induction j using Nat.strongRecOn with
  | _ j ih =>
    intro pre post hL i hi
    obtain ⟨o, ho, h1⟩ := hk pre j post hL
    obtain ⟨e, he, hbi, hlt, h2⟩ := closure_mem hb (by simpa using ho) hi
    have hm := h1 e he hbi
    rcases h2 with rfl | h2
    · exact hm
    · obtain ⟨p1, p2, rfl⟩ := List.append_of_mem hm
      have := ih e.on hlt p1 (p2 ++ j :: post) (by rw [hL]; simp) i h2
      simp [this]

theorem linearise_go {ops : Array Oper} (hb : edgesBack ops.toList = true) : ∀ (fuel t : Nat) (listed : Array Bool) (acc : List Nat),
    listed.size = ops.size → (∀ i, i < ops.size → (listed.getD i false = true ↔ i ∈ acc)) → (∀ i ∈ acc, i < ops.size) → acc.Nodup → acc.length + fuel = ops.size → Keeps ops acc.reverse →
    let L := Region.linearise.go .any ops fuel t listed acc
    L.Nodup ∧ (∀ i ∈ L, i < ops.size) ∧ L.length = ops.size ∧ Keeps ops L
  | 0, t, listed, acc, h1, h2, h3, h4, h5, h6 => by
    simp only [Region.linearise.go]
    exact ⟨(List.reverse_perm _).nodup_iff.2 h4, fun i hi => h3 i (by simpa using hi), by simpa using h5, h6⟩
  | fuel + 1, t, listed, acc, h1, h2, h3, h4, h5, h6 => by
    simp only [Region.linearise.go]
    obtain ⟨rs, hrs⟩ : ∃ rs, rs = (List.range ops.size).filter fun i => !listed.getD i true && ((ops[i]?).map (·.after.all fun e => !Region.binds .any e || listed.getD e.on false)).getD false := ⟨_, rfl⟩
    rw [← hrs]
    have hin : ∀ i ∈ rs, i < ops.size ∧ i ∉ acc ∧ ∃ o, ops[i]? = some o ∧ ∀ e ∈ o.after.toList, Region.binds .any e = true → e.on ∈ acc := by
      intro i hi
      rw [hrs, List.mem_filter, List.mem_range] at hi
      obtain ⟨k1, k2⟩ := hi
      simp only [Bool.and_eq_true, Bool.not_eq_true'] at k2
      obtain ⟨k2, k3⟩ := k2
      have hget : ∀ d, listed.getD i d = listed[i]'(by omega) := fun d => by simp [Array.getD, h1, k1]
      refine ⟨k1, fun hm => ?_, ops[i], by simp [k1], fun e he hbi => ?_⟩
      · have := (h2 i k1).2 hm
        rw [hget] at this k2; rw [this] at k2; cases k2
      · simp only [Array.getElem?_eq_getElem k1, Option.map_some, Option.getD_some] at k3
        rw [← Array.all_toList, List.all_eq_true] at k3
        have := k3 e he
        simp only [hbi, Bool.not_true, Bool.false_or] at this
        by_cases hlt : e.on < ops.size
        · exact (h2 e.on hlt).1 this
        · simp [Array.getD, h1, hlt] at this
    have hne : rs ≠ [] := by
      -- the least one that is not listed
      have hex : ∃ i, i < ops.size ∧ i ∉ acc := by
        apply Classical.byContradiction
        intro hno
        have hsub : (List.range ops.size) ⊆ acc := fun i hi => Classical.byContradiction fun hn => hno ⟨i, List.mem_range.1 hi, hn⟩
        obtain ⟨r, hr⟩ := nodup_sub _ _ List.nodup_range hsub
        have := hr.length_eq
        simp at this; omega
      have hleast : ∀ i, i < ops.size → i ∉ acc → rs ≠ [] := by
        intro i
        induction i using Nat.strongRecOn with
        | _ i ih =>
          intro hi hn
          by_cases hall : ∀ e ∈ (ops[i]).after.toList, Region.binds .any e = true → e.on ∈ acc
          · intro hnil
            have : i ∈ rs := by
              rw [hrs, List.mem_filter, List.mem_range]
              refine ⟨hi, ?_⟩
              have hget : ∀ d, listed.getD i d = listed[i]'(by omega) := fun d => by simp [Array.getD, h1, hi]
              have hf : listed.getD i true = false := by
                have := mt (h2 i hi).1 hn
                rw [hget] at this ⊢; simpa using this
              simp only [hf, Bool.not_false, Bool.true_and, Array.getElem?_eq_getElem hi, Option.map_some, Option.getD_some]
              rw [← Array.all_toList, List.all_eq_true]
              intro e he
              cases hbi : Region.binds .any e with
              | false => simp
              | true =>
                have hm := hall e he hbi
                simp [(h2 e.on (h3 _ hm)).2 hm]
            rw [hnil] at this; simp at this
          · simp only [Classical.not_forall] at hall
            obtain ⟨e, he, hbi, hna⟩ := hall
            have hlt : e.on < i := by
              unfold edgesBack at hb
              rw [List.all_eq_true] at hb
              have := hb (ops[i], i) (by rw [List.mem_zipIdx_iff_getElem?]; simp [hi])
              simp only [List.all_eq_true] at this
              have := this e he
              simpa [hbi] using this
            exact ih e.on hlt (by omega) hna
      obtain ⟨i, hi, hn⟩ := hex
      exact hleast i hi hn
    have hpos : 0 < rs.length := List.length_pos_iff.2 hne
    have hlt : t % rs.length < rs.length := Nat.mod_lt _ hpos
    rw [List.getElem?_eq_getElem hlt]
    obtain ⟨i, hi⟩ : ∃ i, i = rs[t % rs.length] := ⟨_, rfl⟩
    rw [← hi]
    obtain ⟨k1, k2, o, k3, k4⟩ := hin i (by rw [hi]; exact List.getElem_mem hlt)
    simp only
    refine linearise_go hb fuel _ _ _ (by simpa using h1) ?_ ?_ (List.nodup_cons.2 ⟨k2, h4⟩) (by simp; omega) ?_
    · intro q hq
      have hg : (listed.setIfInBounds i true).getD q false = if q = i then true else listed.getD q false := by
        simp only [Array.getD_eq_getD_getElem?, Array.getElem?_setIfInBounds]
        by_cases e : q = i
        · subst e; simp [h1, k1]
        · simp [e, Ne.symm e]
      rw [hg]
      by_cases e : q = i
      · simp [e]
      · rw [if_neg e, h2 q hq]; simp [e]
    · intro q hq
      rcases List.mem_cons.1 hq with rfl | hq
      · exact k1
      · exact h3 q hq
    · intro pre j post hL
      rw [List.reverse_cons] at hL
      rcases List.eq_nil_or_concat post with rfl | ⟨post', x, rfl⟩
      · obtain ⟨e1, e2⟩ := List.append_inj' hL rfl
        cases e2
        exact ⟨o, k3, fun e he hbi => by rw [← e1]; simpa using k4 e he hbi⟩
      · rw [List.concat_eq_append, ← List.cons_append, ← List.append_assoc] at hL
        obtain ⟨e1, e2⟩ := List.append_inj' hL rfl
        exact h6 pre j post' e1

theorem linearise_ok {ops : Array Oper} (hb : edgesBack ops.toList = true) (t : Nat) :
    (Region.linearise .any ops t).Nodup ∧ (∀ i ∈ Region.linearise .any ops t, i < ops.size) ∧ (Region.linearise .any ops t).length = ops.size ∧ Keeps ops (Region.linearise .any ops t) := by
  refine linearise_go hb ops.size t _ [] (by simp) (fun i hi => by simp [Array.getD, hi]) (by simp) (by simp) (by simp) ?_
  intro pre j post h; simp at h

theorem linearise_perm {ops : Array Oper} (hb : edgesBack ops.toList = true) (t : Nat) : (List.range ops.size).Perm (Region.linearise .any ops t) := by
  obtain ⟨h1, h2, h3, _⟩ := linearise_ok hb t
  obtain ⟨r, hr⟩ := nodup_sub _ _ h1 (fun i hi => List.mem_range.2 (h2 i hi))
  have hl := hr.length_eq
  have : r = [] := List.eq_nil_of_length_eq_zero (by rw [List.length_range, List.length_append, h3] at hl; omega)
  subst this
  simpa using hr

theorem linearise_pairwise {ops : Array Oper} (hb : edgesBack ops.toList = true) (t : Nat) : (Region.linearise .any ops t).Pairwise (fun a b => b ∉ (closure ops.toList).getD a []) := by
  obtain ⟨h1, h2, h3, h4⟩ := linearise_ok hb t
  obtain ⟨L, hL⟩ : ∃ L, L = Region.linearise .any ops t := ⟨_, rfl⟩
  rw [← hL] at h1 h4 ⊢
  have : ∀ (post pre : List Nat), L = pre ++ post → post.Pairwise (fun a b => b ∉ (closure ops.toList).getD a []) := by
    intro post
    induction post with
    | nil => intro _ _; exact .nil
    | cons a post ih =>
      intro pre he
      refine .cons (fun b hbm hc => ?_) (ih (pre ++ [a]) (by simp [he]))
      have hp := h4.closure hb a pre post he b hc
      rw [he] at h1
      have := (List.nodup_append.1 h1).2.2 b hp b (by simp [hbm])
      exact this rfl
  exact this L [] rfl

end Go.Am
