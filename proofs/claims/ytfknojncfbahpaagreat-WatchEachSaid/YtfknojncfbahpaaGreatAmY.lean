/-
An abstract machine for the Go code of the model, proved sound, and rules to run code in it (AmY).
-/
import Derived.Test.YtfknojncfbahpaaGreatAmX
/-
Orders of a region: any order that keeps the edges is reached from the order of the text by exchanges of neighbours.
-/
namespace Go.Am
open Go
set_option linter.unusedVariables false
set_option linter.unusedSimpArgs false
theorem nodup_sub {α : Type} : ∀ (l m : List α),l.Nodup → (∀ x ∈ l,x ∈ m) → ∃ r,m.Perm (l ++ r)
 | [],m,_,_ => ⟨m,List.Perm.refl _⟩
 |
  a :: l,m,hn,hs => by
  obtain ⟨p,q,rfl⟩:=List.append_of_mem (hs a (by simp))
  rw [List.nodup_cons] at hn
  obtain ⟨r,hr⟩:=nodup_sub l (p ++ q) hn.2 (fun x hx => by
   have:=hs x (by simp [hx])
   rcases List.mem_append.1 this with h | h
   ·simp [h]
   ·rcases List.mem_cons.1 h with rfl | h
    ·exact absurd hx hn.1
    ·simp [h])
  exact ⟨r,List.perm_middle.trans (by simpa using hr)⟩
section bubble
variable {σ : Type} (step : Nat → σ → Option σ)
def runL : List Nat → σ → Option σ
 | [],s => some s
 |
  i :: r,s => match step i s with
  | some s' => runL r s'
  | none => none
variable {step}
theorem runL_front {Inv : List Nat → σ → Prop} (hstep : ∀ a L s s',Inv (a :: L) s → step a s = some s' → Inv L s') (hperm : ∀ L L' s,L.Perm L' → Inv L s → Inv L' s) {ok lt : Nat → Nat → Prop}
  (comm : ∀ b a L s s1 s2,Inv (b :: a :: L) s → lt b a → ok b a → step b s = some s1 → step a s1 = some s2 → ∃ s1',step a s = some s1' ∧ step b s1' = some s2) {a : Nat} {post : List Nat} :
  ∀ (pre : List Nat) (s s' : σ),(∀ b ∈ pre,lt b a ∧ ok b a) → Inv (pre ++ a :: post) s → runL step (pre ++ a :: post) s = some s' → runL step (a :: (pre ++ post)) s = some s'
 | [],s,s',_,_,hx => hx
 |
  b :: pre,s,s',hb,hi,hx => by
  simp only [List.cons_append,runL] at hx
  cases h1 : step b s with
  | none => rw [h1] at hx; cases hx
  |
   some s1 =>
   rw [h1] at hx
   simp only at hx
   have hi1:=hstep _ _ _ _ hi h1
   have:=runL_front hstep hperm comm pre s1 s' (fun q hq => hb q (by simp [hq])) hi1 hx
   simp only [runL] at this
   cases h2 : step a s1 with
   | none => rw [h2] at this; cases this
   |
    some s2 =>
    rw [h2] at this
    simp only at this
    have hp : (b :: pre ++ a :: post).Perm (b :: a :: (pre ++ post)):=by
     simp only [List.cons_append]
     exact List.Perm.cons _ List.perm_middle
    obtain ⟨s1',k1,k2⟩:=comm b a (pre ++ post) s s1 s2 (hperm _ _ _ hp hi) (hb b (by simp)).1 (hb b (by simp)).2 h1 h2
    simp only [runL,List.cons_append,k1,k2]
    exact this
theorem runL_sorted {Inv : List Nat → σ → Prop} (hstep : ∀ a L s s',Inv (a :: L) s → step a s = some s' → Inv L s') (hperm : ∀ L L' s,L.Perm L' → Inv L s → Inv L' s) {ok lt : Nat → Nat → Prop}
  (comm : ∀ b a L s s1 s2,Inv (b :: a :: L) s → lt b a → ok b a → step b s = some s1 → step a s1 = some s2 → ∃ s1',step a s = some s1' ∧ step b s1' = some s2) :
  ∀ (L M : List Nat) (s s' : σ),L.Pairwise (fun a b => lt b a → ok b a) → M.Pairwise lt → M.Perm L → Inv M s → runL step M s = some s' → runL step L s = some s'
 | [],M,s,s',_,_,hp,_,hx => by rw [List.perm_nil.1 hp] at hx; exact hx
 |
  a :: L,M,s,s',hL,hM,hp,hi,hx => by
  obtain ⟨pre,post,rfl⟩:=List.append_of_mem (hp.mem_iff.2 (List.mem_cons_self (a:=a)))
  have hp' : (pre ++ post).Perm L:=(List.perm_middle.symm.trans hp).cons_inv
  rw [List.pairwise_cons] at hL
  rw [List.pairwise_append] at hM
  obtain ⟨m1,m2,m3⟩:=hM
  rw [List.pairwise_cons] at m2
  have hb : ∀ b ∈ pre,lt b a ∧ ok b a:=fun b hb => by
   have h1:=m3 b hb a (by simp)
   exact ⟨h1,hL.1 b (hp'.mem_iff.1 (by simp [hb])) h1⟩
  have h1:=runL_front hstep hperm comm pre s s' hb hi hx
  simp only [runL] at h1 ⊢
  cases h2 : step a s with
  | none => rw [h2] at h1; cases h1
  |
   some s1 =>
   rw [h2] at h1
   simp only at h1 ⊢
   refine runL_sorted hstep hperm comm L (pre ++ post) s1 s' hL.2 ?_ hp' ?_ h1
   ·rw [List.pairwise_append]; exact ⟨m1,m2.2,fun x hx y hy => m3 x hx y (by simp [hy])⟩
   ·exact hstep _ _ _ _ (hperm _ _ _ List.perm_middle hi) h2
end bubble
def clStep (acc : List (List Nat)) (o : Oper) : List (List Nat):=acc ++ [(o.after.toList.flatMap fun e => if Region.binds .any e then e.on :: acc.getD e.on [] else []).foldl addTo []]
theorem mem_addTo {i : Nat} : ∀ (l acc : List Nat),i ∈ l.foldl addTo acc → i ∈ acc ∨ i ∈ l
 | [],acc,h => .inl h
 |
  a :: l,acc,h => by
  rcases mem_addTo l _ h with h | h
  ·unfold addTo at h
   split at h
   ·exact .inl h
   ·rcases List.mem_cons.1 h with h | h
    ·exact .inr (by simp [h])
    ·exact .inl h
  ·exact .inr (List.mem_cons_of_mem _ h)
theorem closure_eq (ops : List Oper) : closure ops = ops.foldl clStep []:=rfl
theorem clStep_prefix : ∀ (l : List Oper) (acc : List (List Nat)),∃ r,l.foldl clStep acc = acc ++ r ∧ r.length = l.length
 | [],acc => ⟨[],by simp⟩
 |
  o :: l,acc => by
  obtain ⟨r,h1,h2⟩:=clStep_prefix l (clStep acc o)
  exact ⟨_ :: r,by rw [List.foldl_cons,h1,clStep,List.append_assoc]; rfl,by simp [h2]⟩
theorem closure_mem {ops : List Oper} (hb : edgesBack ops = true) {j : Nat} {o : Oper} (ho : ops[j]? = some o) {i : Nat} (hi : i ∈ (closure ops).getD j []) :
  ∃ e ∈ o.after.toList,Region.binds .any e = true ∧ e.on < j ∧ (i = e.on ∨ i ∈ (closure ops).getD e.on []):=by
 have hj:=(List.getElem?_eq_some_iff.1 ho).1
 have hs : ops = ops.take j ++ o :: ops.drop (j + 1):=by
  have:=(List.getElem?_eq_some_iff.1 ho).2
  rw [← this,List.getElem_cons_drop,List.take_append_drop]
 obtain ⟨A,hA,lA⟩:=clStep_prefix (ops.take j) []
 have e1 : closure ops = (ops.drop (j + 1)).foldl clStep (clStep A o):=by
  rw [closure_eq]
  conv => lhs; rw [hs]
  rw [List.foldl_append,List.foldl_cons,hA,List.nil_append]
 obtain ⟨r,hr,_⟩:=clStep_prefix (ops.drop (j + 1)) (clStep A o)
 have lA' : A.length = j:=by rw [lA,List.length_take]; omega
 have e2 : closure ops = A ++ (((o.after.toList.flatMap fun e => if Region.binds .any e then e.on :: A.getD e.on [] else []).foldl addTo []) :: r):=by
  rw [e1,hr,clStep,List.append_assoc]; rfl
 have e3 : (closure ops).getD j [] = (o.after.toList.flatMap fun e => if Region.binds .any e then e.on :: A.getD e.on [] else []).foldl addTo []:=by
  rw [e2,List.getD_eq_getElem?_getD,List.getElem?_append_right (by omega)]
  simp [lA']
 rw [e3] at hi
 have hi:=(mem_addTo _ _ hi).resolve_left (by simp)
 rw [List.mem_flatMap] at hi
 obtain ⟨e,he,hie⟩:=hi
 split at hie
 ·rename_i hbi
  have hlt : e.on < j:=by
   unfold edgesBack at hb
   rw [List.all_eq_true] at hb
   have:=hb (o,j) (by rw [List.mem_zipIdx_iff_getElem?]; exact ho)
   simp only [List.all_eq_true] at this
   have:=this e he
   simpa [hbi] using this
  refine ⟨e,he,hbi,hlt,?_⟩
  rcases List.mem_cons.1 hie with h | h
  ·exact .inl h
  ·refine .inr ?_
   rw [e2,List.getD_eq_getElem?_getD,List.getElem?_append_left (by omega),← List.getD_eq_getElem?_getD]
   exact h
 ·simp at hie
def Keeps (ops : Array Oper) (L : List Nat) : Prop :=
 ∀ pre j post,L = pre ++ j :: post → ∃ o,ops[j]? = some o ∧ ∀ e ∈ o.after.toList,Region.binds .any e = true → e.on ∈ pre
theorem Keeps.closure {ops : Array Oper} {L : List Nat} (hk : Keeps ops L) (hb : edgesBack ops.toList = true) : ∀ (j : Nat) (pre post : List Nat),L = pre ++ j :: post → ∀ i ∈ (closure ops.toList).getD j [],i ∈ pre:=by
 intro j
 induction j using Nat.strongRecOn with
 |
  _ j ih =>
  intro pre post hL i hi
  obtain ⟨o,ho,h1⟩:=hk pre j post hL
  obtain ⟨e,he,hbi,hlt,h2⟩:=closure_mem hb (by simpa using ho) hi
  have hm:=h1 e he hbi
  rcases h2 with rfl | h2
  ·exact hm
  ·obtain ⟨p1,p2,rfl⟩:=List.append_of_mem hm
   have:=ih e.on hlt p1 (p2 ++ j :: post) (by rw [hL]; simp) i h2
   simp [this]
theorem linearise_go {ops : Array Oper} (hb : edgesBack ops.toList = true) : ∀ (fuel t : Nat) (listed : Array Bool) (acc : List Nat),
  listed.size = ops.size → (∀ i,i < ops.size → (listed.getD i false = true ↔ i ∈ acc)) → (∀ i ∈ acc,i < ops.size) → acc.Nodup → acc.length + fuel = ops.size → Keeps ops acc.reverse →
  let L:=Region.linearise.go .any ops fuel t listed acc
  L.Nodup ∧ (∀ i ∈ L,i < ops.size) ∧ L.length = ops.size ∧ Keeps ops L
 |
  0,t,listed,acc,h1,h2,h3,h4,h5,h6 => by
  simp only [Region.linearise.go]
  exact ⟨(List.reverse_perm _).nodup_iff.2 h4,fun i hi => h3 i (by simpa using hi),by simpa using h5,h6⟩
 |
  fuel + 1,t,listed,acc,h1,h2,h3,h4,h5,h6 => by
  simp only [Region.linearise.go]
  obtain ⟨rs,hrs⟩ : ∃ rs,rs = (List.range ops.size).filter fun i => !listed.getD i true && ((ops[i]?).map (·.after.all fun e => !Region.binds .any e || listed.getD e.on false)).getD false:=⟨_,rfl⟩
  rw [← hrs]
  have hin : ∀ i ∈ rs,i < ops.size ∧ i ∉ acc ∧ ∃ o,ops[i]? = some o ∧ ∀ e ∈ o.after.toList,Region.binds .any e = true → e.on ∈ acc:=by
   intro i hi
   rw [hrs,List.mem_filter,List.mem_range] at hi
   obtain ⟨k1,k2⟩:=hi
   simp only [Bool.and_eq_true,Bool.not_eq_true'] at k2
   obtain ⟨k2,k3⟩:=k2
   have hget : ∀ d,listed.getD i d = listed[i]'(by omega):=fun d => by simp [Array.getD,h1,k1]
   refine ⟨k1,fun hm => ?_,ops[i],by simp [k1],fun e he hbi => ?_⟩
   ·have:=(h2 i k1).2 hm
    rw [hget] at this k2; rw [this] at k2; cases k2
   ·simp only [Array.getElem?_eq_getElem k1,Option.map_some,Option.getD_some] at k3
    rw [← Array.all_toList,List.all_eq_true] at k3
    have:=k3 e he
    simp only [hbi,Bool.not_true,Bool.false_or] at this
    by_cases hlt : e.on < ops.size
    ·exact (h2 e.on hlt).1 this
    ·simp [Array.getD,h1,hlt] at this
  have hne : rs ≠ []:=by
   have hex : ∃ i,i < ops.size ∧ i ∉ acc:=by
    apply Classical.byContradiction
    intro hno
    have hsub : (List.range ops.size) ⊆ acc:=fun i hi => Classical.byContradiction fun hn => hno ⟨i,List.mem_range.1 hi,hn⟩
    obtain ⟨r,hr⟩:=nodup_sub _ _ List.nodup_range hsub
    have:=hr.length_eq
    simp at this; omega
   have hleast : ∀ i,i < ops.size → i ∉ acc → rs ≠ []:=by
    intro i
    induction i using Nat.strongRecOn with
    |
     _ i ih =>
     intro hi hn
     by_cases hall : ∀ e ∈ (ops[i]).after.toList,Region.binds .any e = true → e.on ∈ acc
     ·intro hnil
      have : i ∈ rs:=by
       rw [hrs,List.mem_filter,List.mem_range]
       refine ⟨hi,?_⟩
       have hget : ∀ d,listed.getD i d = listed[i]'(by omega):=fun d => by simp [Array.getD,h1,hi]
       have hf : listed.getD i true = false:=by
        have:=mt (h2 i hi).1 hn
        rw [hget] at this ⊢; simpa using this
       simp only [hf,Bool.not_false,Bool.true_and,Array.getElem?_eq_getElem hi,Option.map_some,Option.getD_some]
       rw [← Array.all_toList,List.all_eq_true]
       intro e he
       cases hbi : Region.binds .any e with
       | false => simp
       |
        true =>
        have hm:=hall e he hbi
        simp [(h2 e.on (h3 _ hm)).2 hm]
      rw [hnil] at this; simp at this
     ·simp only [Classical.not_forall] at hall
      obtain ⟨e,he,hbi,hna⟩:=hall
      have hlt : e.on < i:=by
       unfold edgesBack at hb
       rw [List.all_eq_true] at hb
       have:=hb (ops[i],i) (by rw [List.mem_zipIdx_iff_getElem?]; simp [hi])
       simp only [List.all_eq_true] at this
       have:=this e he
       simpa [hbi] using this
      exact ih e.on hlt (by omega) hna
   obtain ⟨i,hi,hn⟩:=hex
   exact hleast i hi hn
  have hpos : 0 < rs.length:=List.length_pos_iff.2 hne
  have hlt : t % rs.length < rs.length:=Nat.mod_lt _ hpos
  rw [List.getElem?_eq_getElem hlt]
  obtain ⟨i,hi⟩ : ∃ i,i = rs[t % rs.length]:=⟨_,rfl⟩
  rw [← hi]
  obtain ⟨k1,k2,o,k3,k4⟩:=hin i (by rw [hi]; exact List.getElem_mem hlt)
  simp only
  refine linearise_go hb fuel _ _ _ (by simpa using h1) ?_ ?_ (List.nodup_cons.2 ⟨k2,h4⟩) (by simp; omega) ?_
  ·intro q hq
   have hg : (listed.setIfInBounds i true).getD q false = if q = i then true else listed.getD q false:=by
    simp only [Array.getD_eq_getD_getElem?,Array.getElem?_setIfInBounds]
    by_cases e : q = i
    ·subst e; simp [h1,k1]
    ·simp [e,Ne.symm e]
   rw [hg]
   by_cases e : q = i
   ·simp [e]
   ·rw [if_neg e,h2 q hq]; simp [e]
  ·intro q hq
   rcases List.mem_cons.1 hq with rfl | hq
   ·exact k1
   ·exact h3 q hq
  ·intro pre j post hL
   rw [List.reverse_cons] at hL
   rcases List.eq_nil_or_concat post with rfl | ⟨post',x,rfl⟩
   ·obtain ⟨e1,e2⟩:=List.append_inj' hL rfl
    cases e2
    exact ⟨o,k3,fun e he hbi => by rw [← e1]; simpa using k4 e he hbi⟩
   ·rw [List.concat_eq_append,← List.cons_append,← List.append_assoc] at hL
    obtain ⟨e1,e2⟩:=List.append_inj' hL rfl
    exact h6 pre j post' e1
theorem linearise_ok {ops : Array Oper} (hb : edgesBack ops.toList = true) (t : Nat) :
  (Region.linearise .any ops t).Nodup ∧ (∀ i ∈ Region.linearise .any ops t,i < ops.size) ∧ (Region.linearise .any ops t).length = ops.size ∧ Keeps ops (Region.linearise .any ops t):=by
 refine linearise_go hb ops.size t _ [] (by simp) (fun i hi => by simp [Array.getD,hi]) (by simp) (by simp) (by simp) ?_
 intro pre j post h; simp at h
theorem linearise_perm {ops : Array Oper} (hb : edgesBack ops.toList = true) (t : Nat) : (List.range ops.size).Perm (Region.linearise .any ops t):=by
 obtain ⟨h1,h2,h3,_⟩:=linearise_ok hb t
 obtain ⟨r,hr⟩:=nodup_sub _ _ h1 (fun i hi => List.mem_range.2 (h2 i hi))
 have hl:=hr.length_eq
 have : r = []:=List.eq_nil_of_length_eq_zero (by rw [List.length_range,List.length_append,h3] at hl; omega)
 subst this
 simpa using hr
theorem linearise_pairwise {ops : Array Oper} (hb : edgesBack ops.toList = true) (t : Nat) : (Region.linearise .any ops t).Pairwise (fun a b => b ∉ (closure ops.toList).getD a []):=by
 obtain ⟨h1,h2,h3,h4⟩:=linearise_ok hb t
 obtain ⟨L,hL⟩ : ∃ L,L = Region.linearise .any ops t:=⟨_,rfl⟩
 rw [← hL] at h1 h4 ⊢
 have : ∀ (post pre : List Nat),L = pre ++ post → post.Pairwise (fun a b => b ∉ (closure ops.toList).getD a []):=by
  intro post
  induction post with
  | nil => intro _ _; exact .nil
  |
   cons a post ih =>
   intro pre he
   refine .cons (fun b hbm hc => ?_) (ih (pre ++ [a]) (by simp [he]))
   have hp:=h4.closure hb a pre post he b hc
   rw [he] at h1
   have:=(List.nodup_append.1 h1).2.2 b hp b (by simp [hbm])
   exact this rfl
 exact this L [] rfl
end Go.Am
/-
The heap of the abstract machine never gets shorter.
-/
namespace Go.Am
open Go
set_option linter.unusedVariables false
set_option linter.unusedSimpArgs false
def LenOk (call : Callee) : Prop:=∀ t args h lim r h',call t args h lim = some (r,h') → h.length ≤ h'.length
def SpecLen (spec : Nat → List AV → List AO → Nat → Option (AV × List AO)) : Prop:=∀ f args h lim r h',spec f args h lim = some (r,h') → h.length ≤ h'.length
theorem newObjL_len (pl : Option Nat) (h : List AO) (c : AO) : h.length ≤ (newObj' pl h c).length:=by
 cases pl <;> simp [newObj']
theorem newAt_len (pl : Option Nat) (h : List AO) (c : List AV) : h.length ≤ (newAt pl h c).length:=by
 cases pl <;> simp [newAt]
theorem putR_len {lim : Nat} {h h' : List AO} {o off : Nat} {xs : List AV} (hx : putR lim h o off xs = some h') : h'.length = h.length:=by
 unfold putR at hx
 split at hx
 ·split at hx
  ·cases hx; simp
  ·cases hx
 ·cases hx
theorem wex_len {lim : Nat} {ρ : Opd → AV} {h : List AO} {o : WOp} {v : AV} {h' : List AO} (hx : wex lim ρ h o = some (v,h')) : h'.length = h.length:=by
 cases o with
 |
  app e s x r =>
  simp only [wex] at hx
  split at hx
  ·split at hx
   ·split at hx
    ·cases hx; rfl
    ·simp only [Option.map_eq_some_iff,Prod.mk.injEq] at hx
     obtain ⟨_,h1,_,rfl⟩:=hx
     exact putR_len h1
   ·cases hx
  ·cases hx
 |
  cpy e s x =>
  simp only [wex] at hx
  split at hx
  ·split at hx
   ·split at hx
    ·cases hx; rfl
    ·split at hx
     ·split at hx
      ·simp only [Option.map_eq_some_iff,Prod.mk.injEq] at hx
       obtain ⟨_,h1,_,rfl⟩:=hx
       exact putR_len h1
      ·cases hx
     ·cases hx
   ·cases hx
  ·cases hx
 |
  mln x =>
  simp only [wex] at hx
  split at hx
  ·cases hx; rfl
  ·cases hx
 |
  clr e z x =>
  simp only [wex] at hx
  split at hx
  ·split at hx
   ·cases hx; rfl
   ·split at hx
    ·split at hx
     ·simp only [Option.map_eq_some_iff,Prod.mk.injEq] at hx
      obtain ⟨_,h1,_,rfl⟩:=hx
      exact putR_len h1
     ·cases hx
    ·cases hx
  ·cases hx
theorem exOp_len {call : Callee} (hcall : LenOk call) {lim : Nat} {pl : Option Nat} {ρ : Opd → AV} {h : List AO} {op : AOp} {v : AV} {h' : List AO} (hx : exOp call lim pl ρ h op = some (v,h')) : h.length ≤ h'.length:=by
 cases op with
 | w o => exact Nat.le_of_eq (wex_len hx).symm
 |
  p o =>
  simp only [exOp,Option.map_eq_some_iff] at hx
  obtain ⟨_,_,e⟩:=hx; cases e; exact Nat.le_refl _
 |
  sliceA n e x hm =>
  simp only [exOp] at hx
  split at hx
  ·split at hx
   ·split at hx
    ·simp only [Option.map_eq_some_iff] at hx; obtain ⟨_,_,e⟩:=hx; cases e; exact Nat.le_refl _
    ·cases hx
   ·cases hx
  ·cases hx
 |
  load a s x =>
  simp only [exOp] at hx
  split at hx
  ·split at hx
   ·simp only [Option.map_eq_some_iff] at hx; obtain ⟨_,_,e⟩:=hx; cases e; exact Nat.le_refl _
   ·cases hx
  ·simp only [Option.map_eq_some_iff] at hx; obtain ⟨_,_,e⟩:=hx; cases e; exact Nat.le_refl _
  ·cases hx
 |
  store s a x =>
  simp only [exOp] at hx
  split at hx
  ·split at hx
   ·split at hx
    ·cases hx; simp
    ·cases hx
   ·cases hx
  ·cases hx
 |
  loadR a s x r =>
  replace hx:=(loadR_load hx).1
  simp only [exOp] at hx
  split at hx
  ·split at hx
   ·simp only [Option.map_eq_some_iff] at hx; obtain ⟨_,_,e⟩:=hx; cases e; exact Nat.le_refl _
   ·cases hx
  ·simp only [Option.map_eq_some_iff] at hx; obtain ⟨_,_,e⟩:=hx; cases e; exact Nat.le_refl _
  ·cases hx
 |
  loadN a s x rs =>
  replace hx:=(loadN_load hx).1
  simp only [exOp] at hx
  split at hx
  ·split at hx
   ·simp only [Option.map_eq_some_iff] at hx; obtain ⟨_,_,e⟩:=hx; cases e; exact Nat.le_refl _
   ·cases hx
  ·simp only [Option.map_eq_some_iff] at hx; obtain ⟨_,_,e⟩:=hx; cases e; exact Nat.le_refl _
  ·cases hx
 |
  storeR s a x rs =>
  replace hx:=(storeR_store hx).1
  simp only [exOp] at hx
  split at hx
  ·split at hx
   ·split at hx
    ·cases hx; simp
    ·cases hx
   ·cases hx
  ·cases hx
 | makeMap ks => simp only [exOp] at hx; cases hx; exact newObjL_len _ _ _
 |
  mapGet kt z ok m k =>
  simp only [exOp] at hx
  split at hx
  ·simp only [Option.map_eq_some_iff] at hx; obtain ⟨_,_,e⟩:=hx; cases e; exact Nat.le_refl _
  ·cases hx
 |
  mapSet kt m k x rs =>
  simp only [exOp] at hx
  split at hx
  ·split at hx
   ·split at hx
    ·split at hx
     ·cases hx; simp
     ·cases hx
    ·cases hx
   ·cases hx
  ·cases hx
 | alloc z => simp only [exOp] at hx; cases hx; exact newAt_len _ _ _
 | box x => simp only [exOp] at hx; cases hx; exact newAt_len _ _ _
 |
  buildSlice e l z parts =>
  simp only [exOp,Option.map_eq_some_iff] at hx
  obtain ⟨_,_,e⟩:=hx; cases e; exact newAt_len _ _ _
 |
  litS e l z parts =>
  simp only [exOp] at hx
  split at hx
  ·split at hx
   ·cases hx; exact Nat.le_refl _
   ·cases hx
  ·cases hx
 |
  makeSlice rm e b z l c =>
  simp only [exOp] at hx
  split at hx
  ·split at hx
   ·cases hx; exact newAt_len _ _ _
   ·cases hx
  ·cases hx
 |
  append k e b s x =>
  simp only [exOp] at hx
  split at hx
  case h_2 => cases hx
  split at hx
  case isFalse => cases hx
  split at hx
  ·cases hx; exact Nat.le_refl _
  split at hx
  case isFalse => cases hx
  split at hx
  ·cases hx; exact newAt_len _ _ _
  ·split at hx
   ·split at hx
    ·cases hx
     exact Nat.le_trans (by simp) (newObjL_len _ _ _)
    ·cases hx
   ·cases hx
  ·split at hx
   ·split at hx
    ·cases hx
     exact newObjL_len _ _ _
    ·cases hx
   ·cases hx
  ·cases hx
 |
  appendZ e b z s x =>
  simp only [exOp] at hx
  split at hx
  ·split at hx
   ·cases hx; exact newAt_len _ _ _
   ·cases hx
  ·cases hx
 |
  call m f as =>
  simp only [exOp] at hx
  split at hx
  ·exact hcall _ _ _ _ _ _ hx
  ·split at hx
   ·split at hx
    ·simp only [Option.map_eq_some_iff] at hx; obtain ⟨_,_,e⟩:=hx; cases e; exact Nat.le_refl _
    ·cases hx
   ·cases hx
  ·split at hx
   ·split at hx
    ·cases hx; simp
    ·cases hx
   ·split at hx
    ·split at hx
     ·simp only [Option.map_eq_some_iff] at hx; obtain ⟨_,_,e⟩:=hx; cases e; exact Nat.le_refl _
     ·cases hx
    ·cases hx
  ·split at hx
   ·split at hx
    ·cases hx; exact Nat.le_refl _
    ·cases hx
   ·cases hx
 |
  callv q f as =>
  simp only [exOp] at hx
  split at hx
  ·cases q
   ·exact hcall _ _ _ _ _ _ hx
   ·simp only [if_true] at hx
    split at hx
    ·split at hx
     ·cases hx; exact Nat.le_refl _
     ·cases hx
    ·cases hx
  ·cases q
   ·exact hcall _ _ _ _ _ _ hx
   ·simp at hx
  ·cases hx
theorem exMask_len {call : Callee} (hcall : LenOk call) {lim base : Nat} {pl : Option Nat} {ρ : Opd → AV} {h : List AO} {op : AOp} {m : List Nat} {v : AV} {h' : List AO} (hx : exMask call lim base pl ρ h op m = some (v,h')) : h.length ≤ h'.length:=by
 unfold exMask at hx
 split at hx
 ·exact exOp_len hcall hx
 ·split at hx
  ·rename_i v1 g hg
   cases hx
   have:=exOp_len hcall hg
   rw [hide_len] at this
   rw [unhide_len]; exact this
  ·cases hx
theorem exOper_len {call : Callee} (hcall : LenOk call) {lim base : Nat} {ts : List AV} {h : List AO} {o : AOper} {v : AV} {h' : List AO} (hx : exOper call lim base ts h o = some (v,h')) : h.length ≤ h'.length:=by
 unfold exOper at hx
 split at hx
 ·split at hx
  ·split at hx
   ·exact exOp_len hcall hx
   ·cases hx
  ·cases hx
 ·split at hx
  ·split at hx
   ·exact exOp_len hcall hx
   ·cases hx
  ·cases hx
 ·exact exMask_len hcall hx
theorem stepOp_len {call : Callee} (hcall : LenOk call) {lim base : Nat} {ts : List AV} {h : List AO} {o : AOper} {ts' : List AV} {h' : List AO} (hx : stepOp call lim base o ts h = some (ts',h')) : h.length ≤ h'.length:=by
 unfold stepOp at hx
 split at hx
 ·split at hx
  ·rename_i v g hg
   cases hx
   exact exOper_len hcall hg
  ·cases hx
 ·cases hx; exact Nat.le_refl _
theorem evOps_len {call : Callee} (hcall : LenOk call) {lim base : Nat} : ∀ (os : List AOper) (ts : List AV) (h : List AO) (ts' : List AV) (h' : List AO),evOps call lim base os ts h = some (ts',h') → h.length ≤ h'.length
 | [],ts,h,ts',h',hx => by simp only [evOps] at hx; cases hx; exact Nat.le_refl _
 |
  o :: os,ts,h,ts',h',hx => by
  simp only [evOps] at hx
  split at hx
  ·rename_i ts1 h1 h1e
   exact Nat.le_trans (stepOp_len hcall h1e) (evOps_len hcall os _ _ _ _ hx)
  ·cases hx
theorem iter_len {f : St → Option (Ex × St)} (hf : ∀ st ex st',f st = some (ex,st') → st.heap.length ≤ st'.heap.length) : ∀ (n : Nat) (st : St) (ex : Ex) (st' : St),iter f n st = some (ex,st') → st.heap.length ≤ st'.heap.length
 | 0,st,ex,st',hx => by simp [iter] at hx
 |
  n + 1,st,ex,st',hx => by
  simp only [iter] at hx
  split at hx
  ·rename_i s1 h1
   exact Nat.le_trans (hf _ _ _ h1) (iter_len hf n _ _ _ hx)
  ·exact hf _ _ _ hx
theorem evCode_len {call : Callee} (hcall : LenOk call) {lim n : Nat} {rnd : Option Nat} {fid : Nat} : ∀ (c : ACode) (st : St) (ex : Ex) (st' : St),evCode call lim n rnd fid c st = some (ex,st') → st.heap.length ≤ st'.heap.length:=by
 intro c
 induction c with
 | skip => intro st ex st' hx; simp only [evCode] at hx; cases hx; exact Nat.le_refl _
 | exit id => intro st ex st' hx; simp only [evCode] at hx; cases hx; exact Nat.le_refl _
 | ret => intro st ex st' hx; simp only [evCode] at hx; cases hx; exact Nat.le_refl _
 |
  region k ops =>
  intro st ex st' hx
  simp only [evCode] at hx
  split at hx
  ·rename_i ts h h1
   cases hx
   have:=evOps_len hcall _ _ _ _ _ h1
   exact Nat.le_trans (by simp) this
  ·cases hx
 |
  seq a b iha ihb =>
  intro st ex st' hx
  simp only [evCode] at hx
  split at hx
  ·rename_i s1 h1
   exact Nat.le_trans (iha _ _ _ h1) (ihb _ _ _ hx)
  ·exact iha _ _ _ hx
 |
  cond c a b iha ihb =>
  intro st ex st' hx
  simp only [evCode] at hx
  split at hx
  ·exact iha _ _ _ hx
  ·exact ihb _ _ _ hx
  ·cases hx
 |
  block id c ih =>
  intro st ex st' hx
  simp only [evCode] at hx
  split at hx
  ·rename_i id' s1 h1
   split at hx <;> (cases hx; exact ih _ _ _ h1)
  ·exact ih _ _ _ hx
 |
  loop c ih =>
  intro st ex st' hx
  simp only [evCode] at hx
  exact iter_len ih _ _ _ _ hx
 | scope c ih => intro st ex st' hx; simp only [evCode] at hx; exact ih _ _ _ hx
 |
  rangeFunc f ps as bd iha ihb =>
  intro st ex st' hx
  simp only [evCode] at hx
  split at hx
  ·cases hx
  ·split at hx
   ·split at hx
    ·rename_i r0 h3 hc
     have h1:=hcall _ _ _ _ _ _ hc
     simp at h1
     split at hx
     ·cases hx; simp; omega
     ·cases hx; simp; omega
     ·cases hx
    ·cases hx
   ·cases hx
theorem takeMarks_len : ∀ (ms : List Nat) (h h' : List AO),takeMarks ms h = some h' → h.length ≤ h'.length
 | [],h,h',hx => by simp only [takeMarks] at hx; cases hx; exact Nat.le_refl _
 |
  m :: ms,h,h',hx => by
  simp only [takeMarks] at hx
  split at hx
  ·have:=takeMarks_len ms _ _ hx
   simpa using this
  ·cases hx
theorem finish_len {lim : Nat} {rs : List ARes} {st : St} {r : AV} {h' : List AO} (hx : finish lim rs st = some (r,h')) : st.heap.length ≤ h'.length:=by
 unfold finish at hx
 split at hx
 ·cases hx
 ·rename_i h1 he
  split at he
  ·have:=takeMarks_len _ _ _ he
   split at hx
   ·cases hx; exact this
   ·cases hx; exact this
   ·cases hx
  ·cases he
theorem callN_len {E : Env} (hE : SpecLen E.spec) : ∀ n,LenOk (callN E n)
 | 0 => fun t args h lim r h' hx => by simp [callN] at hx
 |
  n + 1 => by
  intro t args h lim r h' hx
  have ih:=callN_len hE n
  cases t with
  |
   fn f =>
   simp only [callN] at hx
   split at hx
   ·rename_i y hsp; cases hx; exact hE _ _ _ _ _ _ hsp
   ·split at hx
    ·cases hx
    ·split at hx
     ·rename_i s1 h1; exact Nat.le_trans (evCode_len ih _ _ _ _ h1) (finish_len hx)
     ·rename_i s1 h1; exact Nat.le_trans (evCode_len ih _ _ _ _ h1) (finish_len hx)
     ·cases hx
  |
   rnd o =>
   simp only [callN] at hx
   split at hx
   ·split at hx
    ·split at hx
     ·rename_i s1 h1
      split at hx
      ·split at hx
       ·rename_i ex s2 h2
        split at hx
        ·cases hx
         have e1:=evCode_len ih _ _ _ _ h1
         have e2:=evCode_len ih _ _ _ _ h2
         simp at e1 e2 ⊢; omega
        ·cases hx
       ·cases hx
      ·cases hx
     ·cases hx
    ·cases hx
   ·cases hx
end Go.Am
/-
Exchanges of neighbours in a region.
-/
namespace Go.Am
open Go
set_option linter.unusedVariables false
set_option linter.unusedSimpArgs false
variable {call : Callee} {lim base : Nat} {pl : Option Nat} {ts : List AV} {h : List AO}
theorem exMask_eq {ρ : Opd → AV} {op : AOp} {m : List Nat} : exMask call lim base pl ρ h op m = (exOp call lim pl ρ (hide base m h) op).map fun r => (r.1,unhide base h m r.2):=by
 cases m with
 | nil => simp only [exMask,hide,unhide]; cases exOp call lim pl ρ h op <;> simp
 |
  cons s m =>
  simp only [exMask]
  cases exOp call lim pl ρ (hide base (s :: m) h) op <;> simp
theorem pex_congr {ρ ρ' : Opd → AV} : ∀ {o : POp},(∀ x ∈ o.opds,ρ x = ρ' x) → pex ρ o = pex ρ' o
 |
  .build z parts,hc => by
  have : parts.map (fun (o,s,x) => (o,s,ρ x)) = parts.map (fun (o,s,x) => (o,s,ρ' x)):=List.map_congr_left fun p hp => by
   obtain ⟨o,s,x⟩:=p
   simp only [Prod.mk.injEq,true_and]
   exact hc x (List.mem_map.2 ⟨_,hp,rfl⟩)
  simp only [pex,this]
 |
  .mkFn f a b,hc => by
  have h1 : a.map ρ = a.map ρ':=List.map_congr_left fun p hp => hc p (by simp [POp.opds,hp])
  have h2 : b.map ρ = b.map ρ':=List.map_congr_left fun p hp => hc p (by simp [POp.opds,hp])
  simp only [pex,h1,h2]
 |
  .minmax mx x xs,hc => by
  have h2 : xs.map ρ = xs.map ρ':=List.map_congr_left fun p hp => hc p (by simp [POp.opds,hp])
  have h1:=hc x (by simp [POp.opds])
  simp only [pex,h1,h2]
 |
  .slice a x lo hi,hc => by
  have h1:=hc x (by simp [POp.opds])
  have h2 : lo.map ρ = lo.map ρ':=by cases lo with | none => rfl | some l => simp [hc l (by simp [POp.opds])]
  have h3 : hi.map ρ = hi.map ρ':=by cases hi with | none => rfl | some l => simp [hc l (by simp [POp.opds])]
  simp only [pex,h1,h2,h3]
 |
  .sliceR a x lo hi mx,hc => by
  have h1:=hc x (by simp [POp.opds])
  have h2 : lo.map ρ = lo.map ρ':=by cases lo with | none => rfl | some l => simp [hc l (by simp [POp.opds])]
  have h3 : hi.map ρ = hi.map ρ':=by cases hi with | none => rfl | some l => simp [hc l (by simp [POp.opds])]
  have h4 : mx.map ρ = mx.map ρ':=by cases mx with | none => rfl | some l => simp [hc l (by simp [POp.opds])]
  simp only [pex,h1,h2,h3,h4]
 |
  .move x,hc | .nilCheck x,hc | .un _ x,hc | .conv _ x,hc | .fieldAddr _ x,hc | .field _ _ _ x,hc | .extract x _,hc | .lenS x,hc | .capS x,hc => by
  have h1:=hc x (by simp [POp.opds])
  simp only [pex,h1]
 |
  .slice3 _ c a b,hc => by
  have h1:=hc c (by simp [POp.opds])
  have h2:=hc a (by simp [POp.opds])
  have h3:=hc b (by simp [POp.opds])
  simp only [pex,h1,h2,h3]
 |
  .pick c a b,hc => by
  have h1:=hc c (by simp [POp.opds])
  have h2:=hc a (by simp [POp.opds])
  have h3:=hc b (by simp [POp.opds])
  simp only [pex,h1,h2,h3]
 |
  .isNil x y,hc | .bin _ x y,hc | .eqB _ x y,hc | .eqS _ _ x y,hc | .idxArr _ _ x y,hc | .idxSl _ x y,hc | .idx _ _ _ x y,hc | .idxStr x y,hc => by
  have h1:=hc x (by simp [POp.opds])
  have h2:=hc y (by simp [POp.opds])
  simp only [pex,h1,h2]
 | .lenA _,hc => by simp only [pex]
 | .bad,hc => by simp only [pex]
theorem wex_congr {ρ ρ' : Opd → AV} {o : WOp} (hc : ∀ x ∈ o.opds,ρ x = ρ' x) : wex lim ρ h o = wex lim ρ' h o:=by
 cases o with
 |
  app e s x r =>
  have h1:=hc s (by simp [WOp.opds]); have h2:=hc x (by simp [WOp.opds])
  have h3 : ∀ o,optIs o ρ r = optIs o ρ' r:=fun o => by
   cases r with
   | none => rfl
   | some r => simp only [optIs]; rw [hc (.t r) (by simp [WOp.opds])]
  simp only [wex,h1,h2,h3]
 | cpy e s x => have h1:=hc s (by simp [WOp.opds]); have h2:=hc x (by simp [WOp.opds]); simp only [wex,h1,h2]
 | clr e z x => have h1:=hc x (by simp [WOp.opds]); simp only [wex,h1]
 | mln x => have h1:=hc x (by simp [WOp.opds]); simp only [wex,h1]
theorem exOp_congr {ρ ρ' : Opd → AV} {op : AOp} (hc : ∀ x ∈ op.opds,ρ x = ρ' x) : exOp call lim pl ρ h op = exOp call lim pl ρ' h op:=by
 cases op with
 | p o => simp only [exOp,pex_congr hc]
 | w o => exact wex_congr hc
 | load a s x => have h1:=hc x (by simp [AOp.opds]); simp only [exOp,h1]
 | box x => have h1:=hc x (by simp [AOp.opds]); simp only [exOp,h1]
 |
  loadN a s x rs =>
  have h1:=hc x (by simp [AOp.opds])
  have h3 : ∀ o,rs.all (fun r => objNotA o (ρ (.t r))) = rs.all (fun r => objNotA o (ρ' (.t r))):=fun o => by
   rw [Bool.eq_iff_iff,List.all_eq_true,List.all_eq_true]
   constructor
   ·intro h r hr; rw [← hc (.t r) (by simp [AOp.opds,hr])]; exact h r hr
   ·intro h r hr; rw [hc (.t r) (by simp [AOp.opds,hr])]; exact h r hr
  simp only [exOp,h1,h3]
 | loadR a s x r => have h1:=hc x (by simp [AOp.opds]); have h2:=hc (.t r) (by simp [AOp.opds]); simp only [exOp,h1,h2]
 |
  storeR s a x rs =>
  have h1:=hc a (by simp [AOp.opds]); have h2:=hc x (by simp [AOp.opds])
  have h3 : ∀ o,rs.all (fun r => objNot o (ρ (.t r))) = rs.all (fun r => objNot o (ρ' (.t r))):=fun o => by
   rw [Bool.eq_iff_iff,List.all_eq_true,List.all_eq_true]
   constructor
   ·intro h r hr; rw [← hc (.t r) (by simp [AOp.opds,hr])]; exact h r hr
   ·intro h r hr; rw [hc (.t r) (by simp [AOp.opds,hr])]; exact h r hr
  simp only [exOp,h1,h2,h3]
 |
  sliceA n e x hm =>
  cases hm with
  | none => have h1:=hc x (by simp [AOp.opds]); simp only [exOp,h1,Option.map_none]
  |
   some ab =>
   obtain ⟨a,b⟩:=ab
   have h1:=hc x (by simp [AOp.opds]); have h2:=hc a (by simp [AOp.opds])
   cases b with
   | none => simp only [exOp,h1,h2,Option.map_some,Option.map_none]
   | some b => have h3:=hc b (by simp [AOp.opds]); simp only [exOp,h1,h2,h3,Option.map_some]
 | store s a x => have h1:=hc a (by simp [AOp.opds]); have h2:=hc x (by simp [AOp.opds]); simp only [exOp,h1,h2]
 | alloc z => rfl
 | makeMap _ => rfl
 | mapGet kt z ok m k => have h1:=hc m (by simp [AOp.opds]); have h2:=hc k (by simp [AOp.opds]); simp only [exOp,h1,h2]
 |
  mapSet kt m k x rs =>
  have h1:=hc m (by simp [AOp.opds]); have h2:=hc k (by simp [AOp.opds]); have h3:=hc x (by simp [AOp.opds])
  have h4 : rs.map (fun r => ρ (.t r)) = rs.map (fun r => ρ' (.t r)):=List.map_congr_left fun r hr => hc (.t r) (by simp [AOp.opds,hr])
  simp only [exOp,h1,h2,h3,h4]
 |
  buildSlice e l z parts =>
  have : parts.map (fun (i,x) => (i * e,e,ρ x)) = parts.map (fun (i,x) => (i * e,e,ρ' x)):=List.map_congr_left fun p hp => by
   obtain ⟨o,x⟩:=p
   simp only [Prod.mk.injEq,true_and]
   exact hc x (List.mem_map.2 ⟨_,hp,rfl⟩)
  simp only [exOp,this]
 |
  litS e l z parts =>
  have : parts.map (fun (i,x) => (i * e,e,ρ x)) = parts.map (fun (i,x) => (i * e,e,ρ' x)):=List.map_congr_left fun p hp => by
   obtain ⟨o,x⟩:=p
   simp only [Prod.mk.injEq,true_and]
   exact hc x (List.mem_map.2 ⟨_,hp,rfl⟩)
  simp only [exOp,this]
 | makeSlice rm e b z l c => have h1:=hc l (by simp [AOp.opds]); have h2:=hc c (by simp [AOp.opds]); simp only [exOp,h1,h2]
 | append k e b s x => have h1:=hc s (by simp [AOp.opds]); have h2:=hc x (by simp [AOp.opds]); simp only [exOp,h1,h2]
 | appendZ e b z s x => have h1:=hc s (by simp [AOp.opds]); have h2:=hc x (by simp [AOp.opds]); simp only [exOp,h1,h2]
 |
  call m f as =>
  have h1 : as.map ρ = as.map ρ':=List.map_congr_left fun p hp => hc p (by simp [AOp.opds,hp])
  simp only [exOp,h1]
 |
  callv q f as =>
  have h1 : as.map ρ = as.map ρ':=List.map_congr_left fun p hp => hc p (by simp [AOp.opds,hp])
  have h2:=hc f (by simp [AOp.opds])
  simp only [exOp,h1,h2]
theorem ev_set {t : Nat} {v : AV} {x : Opd} (hx : ∀ i ∈ x.tmps,i ≠ t) : Opd.ev (ts.set t v) x = Opd.ev ts x:=by
 cases x with
 | c k => rfl
 |
  t i =>
  have:=hx i (by simp [Opd.tmps])
  simp only [Opd.ev,List.getD_eq_getElem?_getD,List.getElem?_set_ne (Ne.symm this)]
theorem put_looks {o : AOper} {dst : Option Nat} {v : AV} (hd : ∀ d,dst = some d → d ∉ o.looks) :
  exOper call lim base (putT ts dst v) h o = exOper call lim base ts h o ∧ wanted (putT ts dst v) o.guard = wanted ts o.guard:=by
 cases dst with
 | none => exact ⟨rfl,rfl⟩
 |
  some d =>
  have hn:=hd d rfl
  have hev : ∀ x ∈ o.op.opds,Opd.ev (putT ts (some d) v) x = Opd.ev ts x:=fun x hx => ev_set fun i hi e => by
   subst e; exact hn (by simp only [AOper.looks,List.mem_append,List.mem_flatMap]; exact .inl ⟨x,hx,hi⟩)
  refine ⟨?_,?_⟩
  ·unfold exOper
   split
   ·rename_i s size a x hs hop
    have h1:=hev a (by simp [hop,AOp.opds])
    rw [h1]
    split
    ·rw [exOp_congr (ρ:=Opd.ev (putT ts (some d) v)) (ρ':=Opd.ev ts) (fun y hy => hev y (by rw [hop]; exact hy))]
    ·rfl
   ·rename_i s a k x rs hs hop
    have h1:=hev a (by simp [hop,AOp.opds])
    rw [h1]
    split
    ·rw [exOp_congr (ρ:=Opd.ev (putT ts (some d) v)) (ρ':=Opd.ev ts) (fun y hy => hev y (by rw [hop]; exact hy))]
    ·rfl
   ·rw [exMask_eq,exMask_eq,exOp_congr hev]
  ·cases hg : o.guard with
   | none => rfl
   |
    some g =>
    obtain ⟨t,w⟩:=g
    have : t ≠ d:=by intro e; subst e; exact hn (by simp [AOper.looks,hg])
    simp only [wanted,putT,List.getElem?_set_ne (Ne.symm this)]
theorem hide_set_in {m : List Nat} {s : Nat} {X : AO} (hs : s ∈ m) : hide base m (h.set (base + s) X) = hide base m h:=by
 apply List.ext_getElem?
 intro q
 rw [hide_get,hide_get]
 simp only [List.length_set]
 by_cases hq : q < h.length ∧ ∃ s ∈ m,base + s = q
 ·rw [if_pos hq,if_pos hq]
 ·rw [if_neg hq,if_neg hq]
  by_cases e : base + s = q
  ·have : ¬ q < h.length:=fun hl => hq ⟨hl,s,hs,e⟩
   rw [List.getElem?_eq_none (by simp; omega),List.getElem?_eq_none (by omega)]
  ·rw [List.getElem?_set_ne e]
theorem unhide_hide {m : List Nat} : unhide base h m (hide base m h) = h:=by
 apply List.ext_getElem?
 intro q
 rw [unhide_get,hide_get,hide_len]
 by_cases hq : q < h.length ∧ ∃ s ∈ m,base + s = q
 ·rw [if_pos hq,List.getD_eq_getElem?_getD,List.getElem?_eq_getElem hq.1]; rfl
 ·rw [if_neg hq,if_neg hq]
theorem unhide_set_in {m : List Nat} {s : Nat} {X : AO} {g : List AO} (hs : s ∈ m) (hh : base + s < h.length) : unhide base (h.set (base + s) X) m g = (unhide base h m g).set (base + s) X:=by
 apply List.ext_getElem?
 intro q
 rw [List.getElem?_set,unhide_get,unhide_get,unhide_len]
 by_cases e : base + s = q
 ·subst e
  by_cases hl : base + s < g.length
  ·rw [if_pos ⟨hl,s,hs,rfl⟩]; simp [hl,List.getD_eq_getElem?_getD,hh]
  ·rw [if_neg (fun c => hl c.1)]; simp [hl]
 ·rw [if_neg e,List.getD_eq_getElem?_getD,List.getElem?_set_ne e,← List.getD_eq_getElem?_getD]
theorem unhide_set_out {m : List Nat} {s : Nat} {X : AO} {g : List AO} (hs : s ∉ m) : unhide base h m (g.set (base + s) X) = (unhide base h m g).set (base + s) X:=by
 apply List.ext_getElem?
 intro q
 rw [List.getElem?_set,unhide_get,unhide_get,unhide_len]
 simp only [List.length_set]
 by_cases e : base + s = q
 ·subst e
  have : ¬ ∃ s' ∈ m,base + s' = base + s:=by
   rintro ⟨s',h1,h2⟩
   have e : s' = s:=by omega
   rw [e] at h1
   exact hs h1
  rw [if_neg (fun c => this c.2)]
  simp [List.getElem?_set]
 ·rw [if_neg e]
  split
  ·rfl
  ·rw [List.getElem?_set_ne e]
theorem unhide_at {m : List Nat} {s : Nat} {g : List AO} (hs : s ∈ m) (hh : base + s < h.length) (hg : base + s < g.length) : (unhide base h m g)[base + s]? = h[base + s]?:=by
 rw [unhide_get,if_pos ⟨hg,s,hs,rfl⟩,List.getD_eq_getElem?_getD,List.getElem?_eq_getElem hh]; rfl
def IsLocal (o : AOper) (s : Nat) : Prop:=o.slot = some s ∧ (o.op.cls = .a ∨ isStore o.op = true)
def fill (p : Nat) (h : List AO) (r : AV × AO) : AV × List AO:=(r.1,h.set p r.2)
theorem made_form {op : AOp} (hc : op.cls = .a) (ρ : Opd → AV) (p : Nat) : ∃ c : Option (AV × AO),∀ h,exOp call lim (some p) ρ h op = c.map (fill p h):=by
 cases op with
 | alloc z => exact ⟨some (.ptr p 0,.cells z false),fun h => by simp [exOp,newAt,fill]⟩
 | makeMap ks => exact ⟨some (.mp p,.mpo ks []),fun h => by simp [exOp,newObj',fill]⟩
 | box x => exact ⟨some (.ptr p 0,.cells (ρ x).cells false),fun h => by simp [exOp,newAt,fill]⟩
 |
  buildSlice e l z parts =>
  refine ⟨(fillL (zeros l z) (parts.map fun (i,x) => (i * e,e,ρ x))).map fun c => (.ms e p 0 l,.cells c false),fun h => ?_⟩
  simp only [exOp,Option.map_map]
  rfl
 | litS _ _ _ _ => simp [AOp.cls] at hc
 | w _ => simp [AOp.cls] at hc
 |
  makeSlice rm e b z l c =>
  refine ⟨match ρ l,ρ c with
   | .int _ l,.int _ c => if 0 ≤ l ∧ l ≤ c ∧ b * c ≤ 140737488355328 ∧ 1 ≤ b then some (if rm then .mr e p 0 l.toNat c.toNat else .ms e p 0 l.toNat,.cells (zeros (if rm then c.toNat else l.toNat) z) false) else none
   | _,_ => none,fun h => ?_⟩
  simp only [exOp]
  split
  ·rename_i k1 a1 k2 b1 e1 e2
   simp only [e1,e2]
   split <;> simp [newAt,fill]
  ·rename_i hno
   split
   ·rename_i e1 e2
    exact (hno _ _ _ _ e1 e2).elim
   ·rfl
 |
  appendZ e b z s x =>
  refine ⟨match ρ s,ρ x with
   | .nils,.int .i64 n => if 1 ≤ n ∧ b * n ≤ 140737488355328 ∧ 1 ≤ b then some (.ms e p 0 n.toNat,.cells (zeros n.toNat z) false) else none
   | _,_ => none,fun h => ?_⟩
  simp only [exOp]
  split
  ·rename_i n1 e1 e2
   simp only [e1,e2]
   split <;> simp [newAt,fill]
  ·rename_i hno
   split
   ·rename_i e1 e2
    exact (hno _ e1 e2).elim
   ·rfl
 | call m f as => rcases m with _ | _ | _ | _ | m <;> simp [AOp.cls] at hc
 | p o => simp [AOp.cls] at hc
 | load _ _ _ => simp [AOp.cls] at hc
 | loadR _ _ _ _ => simp [AOp.cls] at hc
 | loadN _ _ _ _ => simp [AOp.cls] at hc
 | storeR _ _ _ _ => simp [AOp.cls] at hc
 | sliceA _ _ _ _ => simp [AOp.cls] at hc
 | mapGet _ _ _ _ _ => simp [AOp.cls] at hc
 | mapSet _ _ _ _ _ => simp [AOp.cls] at hc
 | store _ _ _ => simp [AOp.cls] at hc
 | append _ _ _ _ _ => simp [AOp.cls] at hc
 | callv q _ _ => cases q <;> simp [AOp.cls] at hc
theorem masked_form {o : AOper} (hs : isStore o.op = true → o.slot = none) : exOper call lim base ts h o = exMask call lim base (o.slot.map (base + ·)) (Opd.ev ts) h o.op o.mask:=by
 unfold exOper
 split
 ·rename_i s size a x h1 h2
  have:=hs (by rw [h2]; rfl)
  rw [h1] at this; cases this
 ·rename_i s m k x rs h1 h2
  have:=hs (by rw [h2]; rfl)
  rw [h1] at this; cases this
 ·rfl
theorem local_form {o : AOper} {s : Nat} (hl : IsLocal o s) (hm : s ∉ o.mask) : ∃ G : Option AO → Option (AV × AO),∀ h : List AO,base + s < h.length → exOper call lim base ts h o = (G h[base + s]?).map (fill (base + s) h):=by
 obtain ⟨hs,hc⟩:=hl
 rcases hc with hc | hc
 ·obtain ⟨c,hc'⟩:=made_form (call:=call) (lim:=lim) hc (Opd.ev ts) (base + s)
  refine ⟨fun _ => c,fun h hh => ?_⟩
  rw [masked_form (fun e => by cases hop : o.op <;> simp_all [isStore,AOp.cls]),hs,exMask_eq]
  simp only [Option.map_some,hc',Option.map_map]
  congr 1
  funext r
  simp only [Function.comp,fill,unhide_set_out hm,unhide_hide]
 ·cases hop : o.op <;> simp [hop,isStore] at hc
  case mapSet kt m k x rs =>
   refine ⟨fun y => match Opd.ev ts m with
    |
     .mp p => if p = base + s then (match y with
     |
      some (.mpo ks es) => match keyAs kt ks (Opd.ev ts k) with
      | some n => if keysNot ks n (rs.map fun r => Opd.ev ts (.t r)) = true ∧ (Opd.ev ts x).pureV = true ∧ lim ≤ p then some (.undef,.mpo ks (putM n (Opd.ev ts x) es)) else none
      | none => none
     | _ => none) else none
    | _ => none,fun h hh => ?_⟩
   simp only [exOper,hs,hop]
   cases hev : Opd.ev ts m <;> simp only [Option.map_none]
   rename_i p
   split
   ·rename_i e
    subst e
    simp only [exOp,hev]
    split
    ·rename_i ks es ho
     simp only [ho]
     split
     ·rename_i n hn
      simp only [hn]
      split <;> rfl
     ·rename_i hn
      simp only [hn]; rfl
    ·rename_i hno
     split
     ·rename_i ks es he; exact absurd he (hno ks es)
     ·rfl
   ·rfl
  rename_i size a x
  refine ⟨fun y => match Opd.ev ts a with
   |
    .ptr p off => if p = base + s then (match y with
    | some (.cells c false) => if (Opd.ev ts x).cells.length = size ∧ off + size ≤ c.length ∧ (Opd.ev ts x).cells.all AV.scalar ∧ lim ≤ p then some (.undef,.cells (splice c off (Opd.ev ts x).cells) false) else none
    | _ => none) else none
   | _ => none,fun h hh => ?_⟩
  simp only [exOper,hs,hop]
  cases hev : Opd.ev ts a <;> simp only [Option.map_none]
  rename_i p off
  split
  ·rename_i e
   subst e
   simp only [exOp,hev]
   split
   ·split
    ·rename_i c hc hcond
     simp only [hc]; rw [if_pos hcond]; rfl
    ·rename_i c hc hcond
     simp only [hc]; rw [if_neg hcond]; rfl
   ·rename_i hno
    split
    ·rename_i c he; exact absurd he (hno c)
    ·rfl
  ·rfl
def Swaps (X Y : List AO → Option (AV × List AO)) (h : List AO) : Prop :=
 ∀ v h1 u h2,X h = some (v,h1) → Y h1 = some (u,h2) → ∃ h1',Y h = some (u,h1') ∧ X h1' = some (v,h2)
def MaskOk (base : Nat) (o : AOper) (h : List AO) : Prop:=∀ s ∈ o.mask,base + s < h.length ∧ o.makes base ≠ some (base + s)
theorem makes_eq {o : AOper} (hs : isStore o.op = true → o.slot = none) : o.makes base = o.slot.map (base + ·):=by
 unfold AOper.makes AOper.made
 split
 ·rename_i s a b c h1 h2
  have:=hs (by rw [h2]; rfl)
  rw [h1] at this; cases this
 ·rename_i s m k x rs h1 h2
  have:=hs (by rw [h2]; rfl)
  rw [h1] at this; cases this
 ·rfl
theorem masked_get (hfr : FrameOk call) {o : AOper} (hs : isStore o.op = true → o.slot = none) (hm : MaskOk base o h) {v : AV} {h' : List AO} (hx : exOper call lim base ts h o = some (v,h')) :
  ∃ g,exOp call lim (o.slot.map (base + ·)) (Opd.ev ts) (hide base o.mask h) o.op = some (v,g) ∧ h' = unhide base h o.mask g ∧ ∀ s ∈ o.mask,base + s < g.length:=by
 rw [masked_form hs,exMask_eq] at hx
 cases hg : exOp call lim (o.slot.map (base + ·)) (Opd.ev ts) (hide base o.mask h) o.op with
 | none => rw [hg] at hx; cases hx
 |
  some r =>
  obtain ⟨v',g⟩:=r
  rw [hg] at hx
  simp only [Option.map_some,Option.some.injEq,Prod.mk.injEq] at hx
  obtain ⟨rfl,rfl⟩:=hx
  refine ⟨g,rfl,rfl,(exMask_open hfr o.mask (fun s hs' => ?_) hg).2⟩
  obtain ⟨k1,k2⟩:=hm s hs'
  rw [makes_eq hs] at k2
  exact ⟨k1,k2⟩
theorem local_get {o : AOper} {s : Nat} (hl : IsLocal o s) (hm : s ∉ o.mask) (hh : base + s < h.length) {v : AV} {h' : List AO} (hx : exOper call lim base ts h o = some (v,h')) :
  ∃ X,h' = h.set (base + s) X ∧ ∀ g : List AO,base + s < g.length → g[base + s]? = h[base + s]? → exOper call lim base ts g o = some (v,g.set (base + s) X):=by
 obtain ⟨G,hG⟩:=local_form (call:=call) (lim:=lim) (base:=base) (ts:=ts) hl hm
 rw [hG h hh] at hx
 cases hg : G h[base + s]? with
 | none => rw [hg] at hx; cases hx
 |
  some r =>
  rw [hg] at hx
  simp only [Option.map_some,Option.some.injEq] at hx
  have e1 : r.1 = v:=congrArg Prod.fst hx
  have e2 : h.set (base + s) r.2 = h':=congrArg Prod.snd hx
  refine ⟨r.2,e2.symm,fun g hg1 hg2 => ?_⟩
  rw [hG g hg1,hg2,hg,Option.map_some,fill,e1]
theorem swap_ll {x y : AOper} {s t : Nat} (hx : IsLocal x s) (hy : IsLocal y t) (hne : s ≠ t) (mx : s ∉ x.mask) (my : t ∉ y.mask) (hs : base + s < h.length) (ht : base + t < h.length) :
  Swaps (fun h => exOper call lim base ts h x) (fun h => exOper call lim base ts h y) h:=by
 intro v h1 u h2 k1 k2
 obtain ⟨X,rfl,gx⟩:=local_get hx mx hs k1
 obtain ⟨Y,rfl,gy⟩:=local_get hy my (by simpa using ht) k2
 refine ⟨h.set (base + t) Y,gy h ht (by rw [List.getElem?_set_ne (by omega)]),?_⟩
 have:=gx (h.set (base + t) Y) (by simpa using hs) (by rw [List.getElem?_set_ne (by omega)])
 rw [List.set_comm _ _ (by omega : base + s ≠ base + t)]
 exact this
theorem swap_lm (hfr : FrameOk call) {x y : AOper} {s : Nat} (hx : IsLocal x s) (mx : s ∉ x.mask) (hs : base + s < h.length) (hy : isStore y.op = true → y.slot = none) (my : MaskOk base y h) (hm : s ∈ y.mask) :
  Swaps (fun h => exOper call lim base ts h x) (fun h => exOper call lim base ts h y) h:=by
 intro v h1 u h2 k1 k2
 obtain ⟨X,rfl,gx⟩:=local_get hx mx hs k1
 obtain ⟨g,g1,g2,g3⟩:=masked_get hfr hy (fun q hq => ⟨by simpa using (my q hq).1,(my q hq).2⟩) k2
 rw [hide_set_in hm] at g1
 rw [unhide_set_in hm hs] at g2
 refine ⟨unhide base h y.mask g,?_,?_⟩
 ·show exOper call lim base ts h y = _
  rw [masked_form hy,exMask_eq,g1]; rfl
 ·rw [g2]
  exact gx _ (by rw [unhide_len]; exact g3 s hm) (unhide_at hm hs (g3 s hm))
theorem swap_ml (hfr : FrameOk call) {x y : AOper} {s : Nat} (hx : IsLocal x s) (mx : s ∉ x.mask) (hs : base + s < h.length) (hy : isStore y.op = true → y.slot = none) (my : MaskOk base y h) (hm : s ∈ y.mask) :
  Swaps (fun h => exOper call lim base ts h y) (fun h => exOper call lim base ts h x) h:=by
 intro u h1 v h2 k1 k2
 obtain ⟨g,g1,rfl,g3⟩:=masked_get hfr hy my k1
 obtain ⟨X,rfl,gx⟩:=local_get hx mx (by rw [unhide_len]; exact g3 s hm) k2
 refine ⟨h.set (base + s) X,gx h hs (unhide_at hm hs (g3 s hm)).symm,?_⟩
 show exOper call lim base ts _ y = _
 rw [masked_form hy,exMask_eq,hide_set_in hm,g1,Option.map_some,unhide_set_in hm hs]
theorem pure_form {o : AOper} (hc : o.op.cls = .p) : ∃ c : Option AV,∀ h,exOper call lim base ts h o = c.map fun v => (v,h):=by
 cases hop : o.op <;> rw [hop] at hc <;> try (simp [AOp.cls] at hc; done)
 ·rename_i q
  refine ⟨pex (Opd.ev ts) q,fun h => ?_⟩
  rw [masked_form (by rw [hop]; simp [isStore]),exMask_eq,hop]
  simp only [exOp,Option.map_map]
  congr 1
  funext v
  simp only [Function.comp,unhide_hide]
 ·rename_i e l z parts
  refine ⟨match fillL (zeros l z) (parts.map fun (i,x) => (i * e,e,Opd.ev ts x)) with | some c => if AV.pureV.go c then some (.cs e l c) else none | none => none,fun h => ?_⟩
  rw [masked_form (by rw [hop]; simp [isStore]),exMask_eq,hop]
  simp only [exOp]
  cases fillL (zeros l z) (parts.map fun (i,x) => (i * e,e,Opd.ev ts x)) with
  | none => rfl
  |
   some c =>
   simp only
   split
   ·simp only [Option.map_some,unhide_hide]
   ·rfl
 ·rename_i m f as
  rcases m with _ | _ | _ | _ | m <;> simp [AOp.cls] at hc
 ·rename_i q f as
  cases q <;> simp [AOp.cls] at hc
theorem swap_p {x y : AOper} (hc : x.op.cls = .p ∨ y.op.cls = .p) : Swaps (fun h => exOper call lim base ts h x) (fun h => exOper call lim base ts h y) h:=by
 intro v h1 u h2 k1 k2
 rcases hc with hc | hc
 ·obtain ⟨c,hx⟩:=pure_form (call:=call) (lim:=lim) (base:=base) (ts:=ts) hc
  simp only [hx] at k1 ⊢
  cases c with
  | none => cases k1
  | some w => simp at k1; obtain ⟨rfl,rfl⟩:=k1; exact ⟨h2,k2,rfl⟩
 ·obtain ⟨c,hx⟩:=pure_form (call:=call) (lim:=lim) (base:=base) (ts:=ts) hc
  simp only [hx] at k2 ⊢
  cases c with
  | none => cases k2
  | some w => simp at k2; obtain ⟨rfl,rfl⟩:=k2; exact ⟨h,rfl,k1⟩
theorem reads_heap {op : AOp} (hc : op.cls = .r ∨ op.cls = .q) {ρ : Opd → AV} {v : AV} {h' : List AO} (hx : exOp call lim pl ρ h op = some (v,h')) : h' = h:=by
 cases op with
 |
  sliceA n e x hm =>
  simp only [exOp] at hx
  split at hx
  ·split at hx
   ·split at hx
    ·simp only [Option.map_eq_some_iff] at hx; obtain ⟨_,_,e⟩:=hx; cases e; rfl
    ·cases hx
   ·cases hx
  ·cases hx
 |
  load a s x =>
  simp only [exOp] at hx
  split at hx
  ·split at hx
   ·simp only [Option.map_eq_some_iff] at hx; obtain ⟨_,_,e⟩:=hx; cases e; rfl
   ·cases hx
  ·simp only [Option.map_eq_some_iff] at hx; obtain ⟨_,_,e⟩:=hx; cases e; rfl
  ·cases hx
 |
  loadR a s x r =>
  replace hx:=(loadR_load hx).1
  simp only [exOp] at hx
  split at hx
  ·split at hx
   ·simp only [Option.map_eq_some_iff] at hx; obtain ⟨_,_,e⟩:=hx; cases e; rfl
   ·cases hx
  ·simp only [Option.map_eq_some_iff] at hx; obtain ⟨_,_,e⟩:=hx; cases e; rfl
  ·cases hx
 |
  loadN a s x rs =>
  replace hx:=(loadN_load hx).1
  simp only [exOp] at hx
  split at hx
  ·split at hx
   ·simp only [Option.map_eq_some_iff] at hx; obtain ⟨_,_,e⟩:=hx; cases e; rfl
   ·cases hx
  ·simp only [Option.map_eq_some_iff] at hx; obtain ⟨_,_,e⟩:=hx; cases e; rfl
  ·cases hx
 | storeR _ _ _ _ => simp [AOp.cls] at hc
 | makeMap _ => simp [AOp.cls] at hc
 | mapSet _ _ _ _ _ => simp [AOp.cls] at hc
 |
  mapGet kt z ok m k =>
  simp only [exOp] at hx
  split at hx
  ·simp only [Option.map_eq_some_iff] at hx; obtain ⟨_,_,e⟩:=hx; cases e; rfl
  ·cases hx
 |
  call m f as =>
  rcases m with _ | _ | _ | _ | m <;> simp [AOp.cls] at hc
  ·simp only [exOp] at hx
   split at hx
   ·split at hx
    ·simp only [Option.map_eq_some_iff] at hx; obtain ⟨_,_,e⟩:=hx; cases e; rfl
    ·cases hx
   ·cases hx
  ·simp only [exOp] at hx
   split at hx
   ·split at hx
    ·cases hx; rfl
    ·cases hx
   ·cases hx
 | p o => simp [AOp.cls] at hc
 | box _ => simp [AOp.cls] at hc
 | alloc _ => simp [AOp.cls] at hc
 | store _ _ _ => simp [AOp.cls] at hc
 | buildSlice _ _ _ _ => simp [AOp.cls] at hc
 | litS _ _ _ _ => simp [AOp.cls] at hc
 | makeSlice _ _ _ _ _ _ => simp [AOp.cls] at hc
 | w o => simp [AOp.cls] at hc
 | append _ _ _ _ _ => simp [AOp.cls] at hc
 | appendZ _ _ _ _ _ => simp [AOp.cls] at hc
 |
  callv q f as =>
  cases q
  ·simp [AOp.cls] at hc
  ·simp only [exOp,if_true] at hx
   split at hx
   ·split at hx
    ·split at hx
     ·cases hx; rfl
     ·cases hx
    ·cases hx
   ·cases hx
   ·cases hx
theorem read_heap {o : AOper} (hc : o.op.cls = .r ∨ o.op.cls = .q) {v : AV} {h' : List AO} (hx : exOper call lim base ts h o = some (v,h')) : h' = h:=by
 have hs : isStore o.op = true → o.slot = none:=fun e => by cases hop : o.op <;> simp_all [isStore,AOp.cls]
 rw [masked_form hs,exMask_eq] at hx
 simp only [Option.map_eq_some_iff] at hx
 obtain ⟨⟨w,g⟩,h1,h2⟩:=hx
 cases h2
 simp only
 rw [reads_heap hc h1,unhide_hide]
theorem swap_rr {x y : AOper} (hx : x.op.cls = .r ∨ x.op.cls = .q) (hy : y.op.cls = .r ∨ y.op.cls = .q) : Swaps (fun h => exOper call lim base ts h x) (fun h => exOper call lim base ts h y) h:=by
 intro v h1 u h2 k1 k2
 obtain rfl:=read_heap hx k1
 obtain rfl:=read_heap hy k2
 exact ⟨_,k2,k1⟩
def Rows (h h' : List AO) : Prop:=∀ o c,rowAt h o = some c → rowAt h' o = some c
theorem Rows.rowOf {h h' : List AO} (hr : Rows h h') {x : AV} {c : List AV} (ho : rowOf h x = some c) : rowOf h' x = some c:=by
 cases x with
 |
  ms e o off len =>
  simp only [Go.Am.rowOf] at ho ⊢
  cases hc : rowAt h o with
  | none => rw [hc] at ho; cases ho
  | some c' => rw [hc] at ho; rw [hr _ _ hc]; exact ho
 |
  mr e o off len room =>
  simp only [Go.Am.rowOf] at ho ⊢
  cases hc : rowAt h o with
  | none => rw [hc] at ho; cases ho
  | some c' => rw [hc] at ho; rw [hr _ _ hc]; exact ho
 | _ => simp only [Go.Am.rowOf] at ho ⊢; exact ho
theorem Rows.view {h h' : List AO} (hr : Rows h h') {st : Bool} : ∀ (n : Nat) (a a' : AV),view st h n a = some a' → view st h' n a = some a':=by
 intro n
 induction n with
 | zero => intro a a' ha; cases a <;> (simp only [Go.Am.view] at ha ⊢; exact ha)
 |
  succ n ih =>
  intro a a' ha
  have lists : ∀ (l l' : List AV),l.mapM (Go.Am.view st h n) = some l' → l.mapM (Go.Am.view st h' n) = some l':=by
   intro l
   induction l with
   | nil => intro l' hl; simpa using hl
   |
    cons x l ihl =>
    intro l' hl
    simp only [List.mapM_cons,Option.bind_eq_bind,Option.bind_eq_some_iff,Option.pure_def,Option.some.injEq] at hl ⊢
    obtain ⟨y,hy,r,hr,rfl⟩:=hl
    exact ⟨y,ih _ _ hy,r,ihl _ hr,rfl⟩
  cases a with
  |
   agg c =>
   simp only [Go.Am.view,Option.map_eq_some_iff] at ha ⊢
   obtain ⟨l,hl,rfl⟩:=ha
   exact ⟨l,lists _ _ hl,rfl⟩
  |
   tup c =>
   simp only [Go.Am.view,Option.map_eq_some_iff] at ha ⊢
   obtain ⟨l,hl,rfl⟩:=ha
   exact ⟨l,lists _ _ hl,rfl⟩
  |
   ms e o off len =>
   simp only [Go.Am.view] at ha ⊢
   split at ha
   ·rename_i x hx
    rw [hr.rowOf hx]
    simp only [Option.map_eq_some_iff] at ha ⊢
    obtain ⟨l,hl,rfl⟩:=ha
    exact ⟨l,lists _ _ hl,rfl⟩
   ·cases ha
  |
   mr e o off len room =>
   simp only [Go.Am.view] at ha ⊢
   split at ha
   ·rename_i x hx
    rw [hr.rowOf hx]
    simp only [Option.map_eq_some_iff] at ha ⊢
    obtain ⟨l,hl,rfl⟩:=ha
    exact ⟨l,lists _ _ hl,rfl⟩
   ·cases ha
  |
   fn f x y =>
   simp only [Go.Am.view] at ha ⊢
   split at ha
   ·rename_i x' y' ex ey
    rw [lists _ _ ex,lists _ _ ey]; exact ha
   ·cases ha
  | _ => simp only [Go.Am.view] at ha ⊢; exact ha
theorem Rows.views {h h' : List AO} (hr : Rows h h') {st : Bool} {n : Nat} : ∀ (l l' : List AV),l.mapM (Go.Am.view st h n) = some l' → l.mapM (Go.Am.view st h' n) = some l'
 | [],l',hl => by simpa using hl
 |
  x :: l,l',hl => by
  simp only [List.mapM_cons,Option.bind_eq_bind,Option.bind_eq_some_iff,Option.pure_def,Option.some.injEq] at hl ⊢
  obtain ⟨y,hy,r,hr',rfl⟩:=hl
  exact ⟨y,hr.view _ _ _ hy,r,Rows.views hr l r hr',rfl⟩
theorem reads_mono {op : AOp} (hc : op.cls = .r) {h h' : List AO} (hr : Rows h h') {ρ : Opd → AV} {v : AV} {g : List AO} (hx : exOp call lim pl ρ h op = some (v,g)) : exOp call lim pl ρ h' op = some (v,h'):=by
 cases op with
 |
  sliceA n e x hm =>
  simp only [exOp] at hx ⊢
  cases hρ : ρ x <;> rw [hρ] at hx <;> simp only at hx ⊢ <;> try (cases hx; done)
  ·rename_i o off
   cases hc' : rowAt h o with
   | none => rw [hc'] at hx; cases hx
   |
    some c =>
    rw [hc'] at hx; rw [hr _ _ hc']
    simp only at hx ⊢
    split at hx
    ·rename_i hfit
     rw [if_pos hfit]
     simp only [Option.map_eq_some_iff] at hx ⊢
     obtain ⟨w,hw,e⟩:=hx
     cases e
     exact ⟨_,hw,rfl⟩
    ·cases hx
 |
  load a s x =>
  simp only [exOp] at hx ⊢
  cases hρ : ρ x <;> rw [hρ] at hx <;> simp only at hx ⊢ <;> try (cases hx; done)
  ·rename_i o off
   cases hc' : rowAt h o with
   | none => rw [hc'] at hx; cases hx
   |
    some c =>
    rw [hc'] at hx; rw [hr _ _ hc']
    simp only [Option.map_eq_some_iff] at hx ⊢
    obtain ⟨w,hw,e⟩:=hx
    cases e
    exact ⟨_,hw,rfl⟩
  ·simp only [Option.map_eq_some_iff] at hx ⊢
   obtain ⟨w,hw,e⟩:=hx
   cases e
   exact ⟨_,hw,rfl⟩
 |
  loadR a s x r =>
  obtain ⟨hx1,o,off,e1,e2⟩:=loadR_load hx
  refine loadR_of ?_ e1 e2
  simp only [exOp,e1] at hx1 ⊢
  cases hc' : rowAt h o with
  | none => rw [hc'] at hx1; cases hx1
  |
   some c =>
   rw [hc'] at hx1; rw [hr _ _ hc']
   simp only [Option.map_eq_some_iff] at hx1 ⊢
   obtain ⟨w,hw,e⟩:=hx1
   cases e
   exact ⟨_,hw,rfl⟩
 |
  loadN a s x rs =>
  obtain ⟨hx1,e2⟩:=loadN_load hx
  refine loadN_of ?_ e2
  simp only [exOp] at hx1 ⊢
  split at hx1
  ·rename_i o off e1
   cases hc' : rowAt h o with
   | none => rw [hc'] at hx1; cases hx1
   |
    some c =>
    rw [hc'] at hx1; rw [hr _ _ hc']
    simp only [Option.map_eq_some_iff] at hx1 ⊢
    obtain ⟨w,hw,e⟩:=hx1
    cases e
    exact ⟨_,hw,rfl⟩
  ·simp only [Option.map_eq_some_iff] at hx1 ⊢
   obtain ⟨w,hw,e⟩:=hx1
   cases e
   exact ⟨_,hw,rfl⟩
  ·cases hx1
 | storeR _ _ _ _ => simp [AOp.cls] at hc
 | makeMap _ => simp [AOp.cls] at hc
 | mapGet _ _ _ _ _ => simp [AOp.cls] at hc
 | mapSet _ _ _ _ _ => simp [AOp.cls] at hc
 |
  call m f as =>
  rcases m with _ | _ | _ | _ | m <;> simp [AOp.cls] at hc
  simp only [exOp] at hx ⊢
  cases hv : (as.map ρ).mapM (view false h 8) with
  | none => rw [hv] at hx; cases hx
  |
   some vs =>
   rw [hv] at hx; rw [hr.views _ _ hv]
   simp only at hx ⊢
   cases hcl : call (.fn f) vs [] 0 with
   | none => rw [hcl] at hx; cases hx
   |
    some q =>
    rw [hcl] at hx
    simp only [Option.map_eq_some_iff] at hx ⊢
    obtain ⟨w,hw,e⟩:=hx
    cases e
    exact ⟨_,hw,rfl⟩
 | p o => simp [AOp.cls] at hc
 | box _ => simp [AOp.cls] at hc
 | alloc _ => simp [AOp.cls] at hc
 | store _ _ _ => simp [AOp.cls] at hc
 | buildSlice _ _ _ _ => simp [AOp.cls] at hc
 | litS _ _ _ _ => simp [AOp.cls] at hc
 | makeSlice _ _ _ _ _ _ => simp [AOp.cls] at hc
 | w o => simp [AOp.cls] at hc
 | append _ _ _ _ _ => simp [AOp.cls] at hc
 | appendZ _ _ _ _ _ => simp [AOp.cls] at hc
 | callv q _ _ => cases q <;> simp [AOp.cls] at hc
theorem tomb_row {h : List AO} {q : Nat} (hq : h[q]? = some .tomb) : rowAt h q = none:=by simp [rowAt,hq,AO.row?]
theorem rowAt_congr {h h' : List AO} {q q' : Nat} (hq : h[q]? = h'[q']?) : rowAt h q = rowAt h' q':=by simp [rowAt,hq]
theorem read_mono {o : AOper} (hc : o.op.cls = .r) {h h' : List AO} (hr : ∀ q c,(¬ ∃ s ∈ o.mask,base + s = q) → rowAt h q = some c → rowAt h' q = some c) {v : AV} {g : List AO} (hx : exOper call lim base ts h o = some (v,g)) : exOper call lim base ts h' o = some (v,h'):=by
 have hs : isStore o.op = true → o.slot = none:=fun e => by cases hop : o.op <;> simp_all [isStore,AOp.cls]
 rw [masked_form hs,exMask_eq] at hx ⊢
 simp only [Option.map_eq_some_iff] at hx ⊢
 obtain ⟨⟨w,g'⟩,h1,h2⟩:=hx
 cases h2
 refine ⟨(w,hide base o.mask h'),reads_mono hc ?_ h1,by simp only [unhide_hide]⟩
 intro q c hq
 by_cases hh : q < h.length ∧ ∃ s ∈ o.mask,base + s = q
 ·rw [tomb_row (by rw [hide_get,if_pos hh])] at hq; cases hq
 ·rw [rowAt_congr (h':=h) (q':=q) (by rw [hide_get,if_neg hh])] at hq
  have hl : q < h.length:=by
   apply Classical.byContradiction
   intro hn
   simp [rowAt,List.getElem?_eq_none (Nat.le_of_not_lt hn)] at hq
  have hno : ¬ ∃ s ∈ o.mask,base + s = q:=fun c => hh ⟨hl,c⟩
  rw [rowAt_congr (h':=h') (q':=q) (by rw [hide_get,if_neg (fun c => hno c.2)])]
  exact hr q c hno hq
theorem append_form {esz eb : Nat} {s x : Opd} {p : Nat} {ρ : Opd → AV} {h g : List AO} {v : AV} (hx : exOp call lim (some p) ρ h (.append true esz eb s x) = some (v,g)) : g.length = h.length ∧ ∀ q,q ≠ p → rowAt g q = rowAt h q:=by
 simp only [exOp] at hx
 split at hx
 case h_2 => cases hx
 split at hx
 case isFalse => cases hx
 split at hx
 ·cases hx; exact ⟨rfl,fun _ _ => rfl⟩
 split at hx
 case isFalse => cases hx
 split at hx
 ·cases hx
  exact ⟨by simp [newAt],fun q hq => rowAt_congr (by simp only [newAt]; rw [List.getElem?_set_ne (Ne.symm hq)])⟩
 ·split at hx
  ·rename_i c sh ho
   split at hx
   ·cases hx
    refine ⟨by simp [newObj'],fun q hq => ?_⟩
    simp only [newObj',Option.getD_some,if_true]
    rename_i o _ _ _ _ _
    by_cases e : q = o
    ·subst e
     have hl:=(List.getElem?_eq_some_iff.1 ho).1
     simp only [rowAt]
     rw [List.getElem?_set_ne (Ne.symm hq),List.getElem?_set_self hl,ho]
     rfl
    ·exact rowAt_congr (by rw [List.getElem?_set_ne (Ne.symm hq),List.getElem?_set_ne (Ne.symm e)])
   ·cases hx
  ·cases hx
 ·split at hx
  ·split at hx
   ·cases hx
    exact ⟨by simp [newObj'],fun q hq => rowAt_congr (by simp only [newObj',Option.getD_some]; rw [List.getElem?_set_ne (Ne.symm hq)])⟩
   ·cases hx
  ·cases hx
 ·cases hx
theorem append_rows {o : AOper} {esz eb : Nat} {a b : Opd} (hop : o.op = .append true esz eb a b) {s : Nat} (hs : o.slot = some s) {v : AV} {g : List AO} (hx : exOper call lim base ts h o = some (v,g)) : ∀ q,q ≠ base + s → rowAt g q = rowAt h q:=by
 have hst : isStore o.op = true → o.slot = none:=fun e => by rw [hop] at e; simp [isStore] at e
 rw [masked_form hst,exMask_eq,hop,hs] at hx
 simp only [Option.map_eq_some_iff,Option.map_some] at hx
 obtain ⟨⟨w,g'⟩,h1,h2⟩:=hx
 cases h2
 obtain ⟨k1,k2⟩:=append_form h1
 rw [hide_len] at k1
 intro q hq
 by_cases hh : q < h.length ∧ ∃ s ∈ o.mask,base + s = q
 ·refine rowAt_congr ?_
  simp only
  rw [unhide_get,if_pos ⟨by rw [k1]; exact hh.1,hh.2⟩,List.getD_eq_getElem?_getD,List.getElem?_eq_getElem hh.1]; rfl
 ·have e1 : rowAt (unhide base h o.mask g') q = rowAt g' q:=rowAt_congr (by rw [unhide_get,if_neg (by rw [k1]; exact hh)])
  have e2 : rowAt (hide base o.mask h) q = rowAt h q:=rowAt_congr (by rw [hide_get,if_neg hh])
  rw [e1,k2 q hq,e2]
theorem swap_xr {x y : AOper} {esz eb : Nat} {a b : Opd} (hop : x.op = .append true esz eb a b) {s : Nat} (hs : x.slot = some s) (hy : y.op.cls = .r) (hm : s ∈ y.mask) : Swaps (fun h => exOper call lim base ts h x) (fun h => exOper call lim base ts h y) h:=by
 intro v h1 u h2 k1 k2
 obtain rfl:=read_heap (.inl hy) k2
 refine ⟨h,read_mono hy (fun q c hq hc => ?_) k2,k1⟩
 rw [← append_rows hop hs k1 q (fun e => hq ⟨s,hm,e.symm⟩)]; exact hc
theorem swap_rx {x y : AOper} {esz eb : Nat} {a b : Opd} (hop : y.op = .append true esz eb a b) {s : Nat} (hs : y.slot = some s) (hx : x.op.cls = .r) (hm : s ∈ x.mask) : Swaps (fun h => exOper call lim base ts h x) (fun h => exOper call lim base ts h y) h:=by
 intro v h1 u h2 k1 k2
 obtain rfl:=read_heap (.inl hx) k1
 refine ⟨h2,k2,read_mono hx (fun q c hq hc => ?_) k1⟩
 rw [append_rows hop hs k2 q (fun e => hq ⟨s,hm,e.symm⟩)]; exact hc
theorem swap_rk {x y : AOper} (hx : x.op.cls = .r) (hy : y.op.cls = .k) (hs : y.slot = none) : Swaps (fun h => exOper call lim base ts h x) (fun h => exOper call lim base ts h y) h:=by
 intro v h1 u h2 k1 k2
 obtain rfl:=read_heap (.inl hx) k1
 refine ⟨h2,k2,read_mono hx (fun q c hq hc => ?_) k1⟩
 have hold : ∀ q,q < h1.length → h2[q]? = h1[q]?:=by
  intro q hq
  simp only at k2
  rw [masked_form (fun _ => hs),exMask_eq,hs] at k2
  simp only [Option.map_eq_some_iff,Option.map_none] at k2
  obtain ⟨⟨w,g⟩,e1,e2⟩:=k2
  cases e2
  have : ∃ new,g = hide base y.mask h1 ++ new:=by
   cases hop : y.op <;> rw [hop] at hy <;> try (simp [AOp.cls] at hy; done)
   case callv q _ _ => cases q <;> simp [AOp.cls] at hy
   rename_i m f as
   rcases m with _ | _ | _ | _ | m <;> simp [AOp.cls] at hy
   rw [hop] at e1
   simp only [exOp] at e1
   split at e1
   ·split at e1
    ·cases e1; exact ⟨_,rfl⟩
    ·cases e1
   ·split at e1
    ·split at e1
     ·simp only [Option.map_eq_some_iff,Prod.mk.injEq] at e1
      obtain ⟨_,_,_,rfl⟩:=e1
      exact ⟨[],by simp⟩
     ·cases e1
    ·cases e1
  obtain ⟨new,rfl⟩:=this
  simp only
  rw [unhide_get]
  split
  ·rw [List.getD_eq_getElem?_getD,List.getElem?_eq_getElem hq]; rfl
  ·rename_i hn
   rw [List.getElem?_append_left (by rw [hide_len]; exact hq),hide_get,if_neg]
   intro hh
   exact hn ⟨by simp [hide_len]; omega,hh.2⟩
 have hl : q < h1.length:=by
  apply Classical.byContradiction
  intro hn
  simp [rowAt,List.getElem?_eq_none (Nat.le_of_not_lt hn)] at hc
 rw [rowAt_congr (hold q hl)]; exact hc
theorem swap_apart1 {x y : AOper} {ag : Bool} {s1 s2 : Nat} {a b z : Opd} {r : Nat} {rs : List Nat} (hxo : x.op = .loadR ag s1 a r) (hyo : y.op = .storeR s2 b z rs) (ha : (rs.contains r && x.mask.isEmpty && y.mask.isEmpty) = true) (hs : x.slot = none) (ht : y.slot = none) : Swaps (fun h => exOper call lim base ts h x) (fun h => exOper call lim base ts h y) h:=by
 simp only [Bool.and_eq_true,List.contains_eq_mem,decide_eq_true_eq,List.isEmpty_iff] at ha
 obtain ⟨⟨hr,mx⟩,my⟩:=ha
 intro v h1 u h2 k1 k2
 obtain rfl:=read_heap (.inl (by rw [hxo]; rfl)) k1
 simp only at k1 k2 ⊢
 rw [masked_form (by rw [hxo]; simp [isStore]),hs,hxo,mx] at k1
 rw [masked_form (by rw [hyo]; simp [isStore]),ht,hyo,my] at k2
 refine ⟨h2,by rw [masked_form (by rw [hyo]; simp [isStore]),ht,hyo,my]; exact k2,?_⟩
 rw [masked_form (by rw [hxo]; simp [isStore]),hs,hxo,mx]
 simp only [exMask] at k1 k2 ⊢
 obtain ⟨q1,o1,f1,e1,i1⟩:=loadR_load k1
 obtain ⟨q2,o2,f2,e2,i2⟩:=storeR_store k2
 have hne : o1 ≠ o2:=by
  rw [List.all_eq_true] at i2
  have:=i2 r hr
  intro e; subst e
  cases hev : Opd.ev ts (.t r) <;> rw [hev] at i1 this <;> simp [objIs,objNot] at i1 this
  exact this i1
 refine loadR_of ?_ e1 i1
 simp only [exOp,e1] at q1 ⊢
 simp only [exOp,e2] at q2
 split at q2
 ·split at q2
  ·cases q2
   have hrow : rowAt (h1.set o2 (AO.cells (splice (by assumption) f2 (Opd.ev ts z).cells) false)) o1 = rowAt h1 o1:=rowAt_congr (by rw [List.getElem?_set_ne (Ne.symm hne)])
   rw [hrow]
   cases hc : rowAt h1 o1 with
   | none => rw [hc] at q1; cases q1
   |
    some c =>
    rw [hc] at q1
    simp only [Option.map_eq_some_iff] at q1 ⊢
    obtain ⟨w,hw,e⟩:=q1
    cases e
    exact ⟨_,hw,rfl⟩
  ·cases q2
 ·cases q2
theorem load_other {pl : Option Nat} {ρ : Opd → AV} {h h' : List AO} {ag : Bool} {s1 : Nat} {a : Opd} {rs : List Nat} {v : AV} {g : List AO} (k : exOp call lim pl ρ h (.loadN ag s1 a rs) = some (v,g)) (hrow : ∀ o off,ρ a = .ptr o off → rowAt h' o = rowAt h o) :
  exOp call lim pl ρ h' (.loadN ag s1 a rs) = some (v,h'):=by
 obtain ⟨q1,e2⟩:=loadN_load k
 refine loadN_of ?_ e2
 simp only [exOp] at q1 ⊢
 split at q1
 ·rename_i o off e1
  rw [hrow o off e1]
  cases hc : rowAt h o with
  | none => rw [hc] at q1; cases q1
  |
   some c =>
   rw [hc] at q1
   simp only [Option.map_eq_some_iff] at q1 ⊢
   obtain ⟨w,hw,e⟩:=q1
   cases e
   exact ⟨_,hw,rfl⟩
 ·simp only [Option.map_eq_some_iff] at q1 ⊢
  obtain ⟨w,hw,e⟩:=q1
  cases e
  exact ⟨_,hw,rfl⟩
 ·cases q1
theorem loadN_heap {pl : Option Nat} {ρ : Opd → AV} {h : List AO} {ag : Bool} {s1 : Nat} {a : Opd} {rs : List Nat} {v : AV} {g : List AO} (k : exOp call lim pl ρ h (.loadN ag s1 a rs) = some (v,g)) : g = h:=by
 have q1:=(loadN_load k).1
 simp only [exOp] at q1
 split at q1
 ·split at q1
  ·simp only [Option.map_eq_some_iff,Prod.mk.injEq] at q1; obtain ⟨_,_,_,rfl⟩:=q1; rfl
  ·cases q1
 ·simp only [Option.map_eq_some_iff,Prod.mk.injEq] at q1; obtain ⟨_,_,_,rfl⟩:=q1; rfl
 ·cases q1
theorem putR_other {o off : Nat} {xs : List AV} {h h' : List AO} (k : putR lim h o off xs = some h') : ∀ q,q ≠ o → rowAt h' q = rowAt h q:=by
 unfold putR at k
 split at k
 ·split at k
  ·cases k
   exact fun q hq => rowAt_congr (List.getElem?_set_ne (Ne.symm hq))
  ·cases k
 ·cases k
theorem app_other {ρ : Opd → AV} {h h' : List AO} {e : Nat} {s x : Opd} {r : Nat} {v : AV} (k : wex lim ρ h (.app e s x (some r)) = some (v,h')) : ∃ o,objIsA o (ρ (.t r)) = true ∧ ∀ q,q ≠ o → rowAt h' q = rowAt h q:=by
 simp only [wex] at k
 split at k
 ·rename_i e2 o off len room n xs hq1 hq2 hq3
  split at k
  ·rename_i hif
   refine ⟨o,hif.2.2.2.2,?_⟩
   split at k
   ·cases k; exact fun _ _ => rfl
   ·simp only [Option.map_eq_some_iff,Prod.mk.injEq] at k
    obtain ⟨g,hg,_,rfl⟩:=k
    exact putR_other hg
  ·cases k
 ·cases k
theorem swap_apart {x y : AOper} (ha : apartOk x y = true) (hs : x.slot = none) (ht : y.slot = none) : Swaps (fun h => exOper call lim base ts h x) (fun h => exOper call lim base ts h y) h:=by
 have plain : ∀ {o : AOper},o.slot = none → o.mask = [] → ∀ h,exOper call lim base ts h o = exOp call lim none (Opd.ev ts) h o.op:=by
  intro o h1 h2 h
  rw [masked_form (fun _ => h1),h1,h2]; rfl
 unfold apartOk at ha
 split at ha
 ·rename_i hxo hyo
  exact swap_apart1 hxo hyo ha hs ht
 ·rename_i ag s1 a rs s2 t z hxo hyo
  simp only [Bool.and_eq_true,List.contains_eq_mem,decide_eq_true_eq,List.isEmpty_iff] at ha
  obtain ⟨⟨hr,mx⟩,my⟩:=ha
  intro v h1 u h2 k1 k2
  simp only [plain hs mx,plain ht my,hxo,hyo] at k1 k2 ⊢
  obtain rfl:=loadN_heap k1
  refine ⟨h2,k2,load_other k1 fun o off e => ?_⟩
  have hn:=List.all_eq_true.1 ((loadN_load k1).2 o off e) t hr
  simp only [exOp] at k2
  split at k2
  ·rename_i o2 f2 e2
   rw [e2] at hn
   have hne : o ≠ o2:=by intro e; subst e; simp [objNotA] at hn
   split at k2
   ·split at k2
    ·cases k2
     exact rowAt_congr (List.getElem?_set_ne (Ne.symm hne))
    ·cases k2
   ·cases k2
  ·cases k2
 ·rename_i ag s1 a rs s2 t z rs2 hxo hyo
  simp only [Bool.and_eq_true,List.contains_eq_mem,decide_eq_true_eq,List.isEmpty_iff] at ha
  obtain ⟨⟨hr,mx⟩,my⟩:=ha
  intro v h1 u h2 k1 k2
  simp only [plain hs mx,plain ht my,hxo,hyo] at k1 k2 ⊢
  obtain rfl:=loadN_heap k1
  refine ⟨h2,k2,load_other k1 fun o off e => ?_⟩
  have hn:=List.all_eq_true.1 ((loadN_load k1).2 o off e) t hr
  have k2:=(storeR_store k2).1
  simp only [exOp] at k2
  split at k2
  ·rename_i o2 f2 e2
   rw [e2] at hn
   have hne : o ≠ o2:=by intro e; subst e; simp [objNotA] at hn
   split at k2
   ·split at k2
    ·cases k2
     exact rowAt_congr (List.getElem?_set_ne (Ne.symm hne))
    ·cases k2
   ·cases k2
  ·cases k2
 ·rename_i ag s1 a rs e s z r hxo hyo
  simp only [Bool.and_eq_true,List.contains_eq_mem,decide_eq_true_eq,List.isEmpty_iff] at ha
  obtain ⟨⟨hr,mx⟩,my⟩:=ha
  intro v h1 u h2 k1 k2
  simp only [plain hs mx,plain ht my,hxo,hyo] at k1 k2 ⊢
  obtain rfl:=loadN_heap k1
  refine ⟨h2,k2,load_other k1 fun o off e => ?_⟩
  have hn:=List.all_eq_true.1 ((loadN_load k1).2 o off e) r hr
  obtain ⟨o2,g1,g2⟩:=app_other (show wex lim (Opd.ev ts) h1 _ = some (u,h2) from k2)
  exact g2 o (Ne.symm (obj_apart g1 hn))
 ·rename_i e s z r ag s1 a rs hxo hyo
  simp only [Bool.and_eq_true,List.contains_eq_mem,decide_eq_true_eq,List.isEmpty_iff] at ha
  obtain ⟨⟨hr,mx⟩,my⟩:=ha
  intro v h1 u h2 k1 k2
  simp only [plain hs mx,plain ht my,hxo,hyo] at k1 k2 ⊢
  obtain rfl:=loadN_heap k2
  obtain ⟨o2,g1,g2⟩:=app_other (show wex lim (Opd.ev ts) h _ = some (v,_) from k1)
  refine ⟨h,load_other k2 fun o off e => ?_,k1⟩
  have hn:=List.all_eq_true.1 ((loadN_load k2).2 o off e) r hr
  exact (g2 o (Ne.symm (obj_apart g1 hn))).symm
 ·cases ha
end Go.Am
/-
Regions of open order: each order answers as the order of the text does.
-/
namespace Go.Am
open Go
set_option linter.unusedVariables false
set_option linter.unusedSimpArgs false
variable {P : Program} {call : Callee} {lim base : Nat} {ts : List AV} {h : List AO}
def Same (a d : AOper) : Prop:=d.dst = a.dst ∧ d.guard = a.guard ∧ d.op.kept = a.op.kept
theorem kept_kept (o : AOp) : o.kept.kept = o.kept:=by
 cases o with
 | w o => cases o <;> rfl
 | _ => rfl
theorem slotsOf_get {as : List AOper} {i : Nat} {d : AOper} (hd : (slotsOf as)[i]? = some d) : ∃ a,as[i]? = some a ∧ Same a d:=by
 unfold slotsOf at hd
 simp only [List.getElem?_map,List.getElem?_zipIdx,Option.map_map,Option.map_eq_some_iff,Function.comp] at hd
 obtain ⟨a,ha,e⟩:=hd
 refine ⟨a,ha,?_⟩
 split at e
 ·split at e
  ·subst e; exact ⟨rfl,rfl,rfl⟩
  ·subst e; exact ⟨rfl,rfl,rfl⟩
 ·split at e
  ·subst e; exact ⟨rfl,rfl,rfl⟩
  ·subst e; exact ⟨rfl,rfl,rfl⟩
 ·split at e
  ·subst e; exact ⟨rfl,rfl,kept_kept _⟩
  ·subst e; exact ⟨rfl,rfl,rfl⟩
theorem masksOf_get {cl : List (List Nat)} {as : List AOper} {i : Nat} {d : AOper} (hd : (masksOf cl as)[i]? = some d) : ∃ a,as[i]? = some a ∧ Same a d:=by
 unfold masksOf at hd
 simp only [List.getElem?_map,List.getElem?_zipIdx,Option.map_map,Option.map_eq_some_iff,Function.comp] at hd
 obtain ⟨a,ha,e⟩:=hd
 refine ⟨a,ha,?_⟩
 split at e <;> (subst e; exact ⟨rfl,rfl,rfl⟩)
theorem relaxOf_get {cl : List (List Nat)} {as : List AOper} {i : Nat} {d : AOper} (hd : (relaxOf cl as)[i]? = some d) : ∃ a,as[i]? = some a ∧ Same a d:=by
 unfold relaxOf at hd
 simp only [List.getElem?_map,List.getElem?_zipIdx,Option.map_map,Option.map_eq_some_iff,Function.comp] at hd
 obtain ⟨a,ha,e⟩:=hd
 refine ⟨a,ha,?_⟩
 split at e
 ·rename_i hop
  split at e
  ·subst e; exact ⟨rfl,rfl,by simp only [hop,AOp.kept]⟩
  ·subst e; exact ⟨rfl,rfl,rfl⟩
 ·subst e; exact ⟨rfl,rfl,rfl⟩
theorem apartOf_get {cl : List (List Nat)} {as : List AOper} {i : Nat} {d : AOper} (hd : (apartOf cl as)[i]? = some d) : ∃ a,as[i]? = some a ∧ Same a d:=by
 unfold apartOf at hd
 simp only [List.getElem?_map,List.getElem?_zipIdx,Option.map_map,Option.map_eq_some_iff,Function.comp] at hd
 obtain ⟨a,ha,e⟩:=hd
 refine ⟨a,ha,?_⟩
 split at e
 ·rename_i hop
  split at e
  ·subst e; exact ⟨rfl,rfl,by simp only [hop,AOp.kept]⟩
  ·split at e
   ·subst e; exact ⟨rfl,rfl,by simp only [hop,AOp.kept]⟩
   ·subst e; exact ⟨rfl,rfl,rfl⟩
 ·rename_i hop
  split at e
  ·subst e; exact ⟨rfl,rfl,rfl⟩
  ·subst e; exact ⟨rfl,rfl,by simp only [hop,AOp.kept]⟩
 ·rename_i hop
  split at e
  ·subst e; exact ⟨rfl,rfl,by simp only [hop,AOp.kept,WOp.kept]⟩
  ·subst e; exact ⟨rfl,rfl,rfl⟩
 ·rename_i hop
  subst e; exact ⟨rfl,rfl,by simp only [hop,AOp.kept]⟩
 ·subst e; exact ⟨rfl,rfl,rfl⟩
theorem drawn_get {ops : List Oper} {as : List AOper} {i : Nat} {d : AOper} (hd : (drawn ops as)[i]? = some d) : ∃ a,as[i]? = some a ∧ Same a d:=by
 obtain ⟨a0,ha0,e01,e02,e03⟩:=apartOf_get hd
 obtain ⟨a,ha,e1,e2,e3⟩:=relaxOf_get ha0
 obtain ⟨b,hb,f1,f2,f3⟩:=masksOf_get ha
 obtain ⟨c,hc,g1,g2,g3⟩:=slotsOf_get hb
 exact ⟨c,hc,e01.trans (e1.trans (f1.trans g1)),e02.trans (e2.trans (f2.trans g2)),e03.trans (e3.trans (f3.trans g3))⟩
theorem drawn_len (ops : List Oper) (as : List AOper) : (drawn ops as).length = as.length:=by simp [drawn,apartOf,relaxOf,masksOf,slotsOf]
structure ShapeOk (base : Nat) (h : List AO) (o : AOper) : Prop where
 out : ∀ s,o.slot = some s → s ∉ o.mask
 lt : ∀ s,o.slot = some s → base + s < h.length
 kind : ∀ s,o.slot = some s → o.op.cls = .a ∨ o.op.cls = .x ∨ isStore o.op = true
theorem x_noStore {o : AOper} (hc : o.op.cls = .x) : isStore o.op = true → o.slot = none:=fun e => by cases hop : o.op <;> simp_all [isStore,AOp.cls]
theorem x_append {op : AOp} (hc : op.cls = .x) (hk : op.keeps = true) : ∃ esz eb a b,op = .append true esz eb a b:=by
 cases op with
 | append k e b s x => simp only [AOp.keeps] at hk; subst hk; exact ⟨_,_,_,_,rfl⟩
 | call m f as => rcases m with _ | _ | _ | _ | m <;> simp [AOp.cls] at hc
 | p o => simp [AOp.cls] at hc
 | load _ _ _ => simp [AOp.cls] at hc
 | loadR _ _ _ _ => simp [AOp.cls] at hc
 | loadN _ _ _ _ => simp [AOp.cls] at hc
 | storeR _ _ _ _ => simp [AOp.cls] at hc
 | sliceA _ _ _ _ => simp [AOp.cls] at hc
 | makeMap _ => simp [AOp.cls] at hc
 | mapGet _ _ _ _ _ => simp [AOp.cls] at hc
 | mapSet _ _ _ _ _ => simp [AOp.cls] at hc
 | store _ _ _ => simp [AOp.cls] at hc
 | alloc _ => simp [AOp.cls] at hc
 | box _ => simp [AOp.cls] at hc
 | buildSlice _ _ _ _ => simp [AOp.cls] at hc
 | litS _ _ _ _ => simp [AOp.cls] at hc
 | makeSlice _ _ _ _ _ _ => simp [AOp.cls] at hc
 | w _ => simp [AOp.cls] at hc
 | appendZ _ _ _ _ _ => simp [AOp.cls] at hc
 | callv q _ _ => cases q <;> simp [AOp.cls] at hc
theorem ShapeOk.loc {o : AOper} (sh : ShapeOk base h o) {s : Nat} (hs : o.slot = some s) (hx : o.op.cls ≠ .x) : IsLocal o s:=by
 refine ⟨hs,?_⟩
 rcases sh.kind s hs with k | k | k
 ·exact .inl k
 ·exact absurd k hx
 ·exact .inr k
theorem ltK_irr' : ∀ {a : List Int},ltK a a = false
 | [] => rfl
 | a :: l => by simp [ltK,ltK_irr' (a:=l)]
theorem ltK_tr' : ∀ {a b c : List Int},ltK a b = true → ltK b c = true → ltK a c = true
 | [],[],_,h,_ => by simp [ltK] at h
 | [],_ :: _,[],_,h => by simp [ltK] at h
 | [],_ :: _,_ :: _,_,_ => rfl
 | _ :: _,[],_,h,_ => by simp [ltK] at h
 | _ :: _,_ :: _,[],_,h => by simp [ltK] at h
 |
  a :: l,b :: m,c :: n,h1,h2 => by
  simp only [ltK,Bool.or_eq_true,Bool.and_eq_true,decide_eq_true_eq] at h1 h2 ⊢
  rcases h1 with h1 | ⟨h1,h1'⟩ <;> rcases h2 with h2 | ⟨h2,h2'⟩
  ·left; omega
  ·left; omega
  ·left; omega
  ·right; exact ⟨by omega,ltK_tr' h1' h2'⟩
theorem ltK_tri' : ∀ {a b : List Int},a ≠ b → ltK a b = false → ltK b a = true
 | [],[],h,_ => absurd rfl h
 | [],_ :: _,_,h => by simp [ltK] at h
 | _ :: _,[],_,_ => rfl
 |
  a :: l,b :: m,h,h1 => by
  simp only [ltK,Bool.or_eq_false_iff,Bool.and_eq_false_iff,decide_eq_false_iff_not,Bool.or_eq_true,Bool.and_eq_true,decide_eq_true_eq] at h1 ⊢
  by_cases e : a = b
  ·subst e
   right
   refine ⟨rfl,ltK_tri' (fun e => h (by rw [e])) ?_⟩
   rcases h1.2 with h2 | h2
   ·exact absurd rfl h2
   ·exact h2
  ·left; omega
theorem ltK_no {a b : List Int} (h : ltK a b = true) : ltK b a = false:=by
 cases c : ltK b a
 ·rfl
 ·have:=ltK_tr' h c; rw [ltK_irr'] at this; cases this
theorem ltK_ne {a b : List Int} (h : ltK a b = true) : a ≠ b:=fun e => by rw [e,ltK_irr'] at h; cases h
theorem putM_eq {k k' : List Int} {v v' : AV} {r : List (List Int × AV)} (h : k = k') : putM k v ((k',v') :: r) = (k,v) :: r:=by simp only [putM,h,if_true]
theorem putM_lt {k k' : List Int} {v v' : AV} {r : List (List Int × AV)} (h : ltK k k' = true) : putM k v ((k',v') :: r) = (k,v) :: (k',v') :: r:=by simp only [putM,ltK_ne h,h,if_true,if_false]
theorem putM_gt {k k' : List Int} {v v' : AV} {r : List (List Int × AV)} (h : ltK k' k = true) : putM k v ((k',v') :: r) = (k',v') :: putM k v r:=by
 simp only [putM,(ltK_ne h).symm,ltK_no h,if_false,Bool.false_eq_true]
theorem ltK_cases (a b : List Int) : a = b ∨ ltK a b = true ∨ ltK b a = true:=by
 by_cases e : a = b
 ·exact .inl e
 ·cases c : ltK a b
  ·exact .inr (.inr (ltK_tri' e c))
  ·exact .inr (.inl rfl)
theorem putM_comm {k k' : List Int} {v v' : AV} (h : k ≠ k') : ∀ (es : List (List Int × AV)),putM k v (putM k' v' es) = putM k' v' (putM k v es)
 |
  [] => by
  rcases ltK_cases k k' with e | e | e
  ·exact absurd e h
  ·show putM k v [(k',v')] = putM k' v' [(k,v)]
   rw [putM_lt e,putM_gt e]; rfl
  ·show putM k v [(k',v')] = putM k' v' [(k,v)]
   rw [putM_gt e,putM_lt e]; rfl
 |
  (z,x) :: r => by
  have ih:=putM_comm (v:=v) (v':=v') h r
  rcases ltK_cases k z with e1 | e1 | e1
  ·subst e1
   rcases ltK_cases k' k with e2 | e2 | e2
   ·exact absurd e2.symm h
   ·rw [putM_lt e2,putM_gt e2,putM_eq rfl,putM_lt e2]
   ·rw [putM_gt e2,putM_eq rfl,putM_eq rfl,putM_gt e2]
  ·rcases ltK_cases k' z with e2 | e2 | e2
   ·subst e2
    rw [putM_eq rfl,putM_lt e1,putM_lt e1,putM_gt e1,putM_eq rfl]
   ·rw [putM_lt e2,putM_lt e1]
    rcases ltK_cases k k' with e | e | e
    ·exact absurd e h
    ·rw [putM_lt e,putM_gt e,putM_lt e2]
    ·rw [putM_gt e,putM_lt e1,putM_lt e]
   ·rw [putM_gt e2,putM_lt e1,putM_lt e1,putM_gt (ltK_tr' e1 e2),putM_gt e2]
  ·rcases ltK_cases k' z with e2 | e2 | e2
   ·subst e2
    rw [putM_eq rfl,putM_gt e1,putM_gt e1,putM_eq rfl]
   ·rw [putM_lt e2,putM_gt (ltK_tr' e2 e1),putM_gt e1,putM_lt e2]
   ·rw [putM_gt e2,putM_gt e1,putM_gt e1,putM_gt e2,ih]
theorem swap_maps {x y : AOper} (hm : mapsOk x y = true) : Swaps (fun h => exOper call lim base ts h x) (fun h => exOper call lim base ts h y) h:=by
 unfold mapsOk at hm
 split at hm
 ·rename_i kt0 m k v0 rs0 kt1 m' k' v1 rs e1 e2
  simp only [Bool.and_eq_true,beq_iff_eq,List.contains_eq_mem,decide_eq_true_eq,Option.isSome_iff_exists] at hm
  obtain ⟨⟨⟨rfl,hk⟩,hsl⟩,s,hs⟩:=hm
  have hys : y.slot = some s:=by rw [← hsl]; exact hs
  intro v h1 u h2 k1 k2
  simp only [exOper,hs,e1] at k1
  simp only [exOper,hys,e2] at k2
  cases hev : Opd.ev ts (.t m) <;> rw [hev] at k1 k2 <;> try (cases k1; done)
  rename_i p
  simp only at k1 k2
  split at k1
  ·rename_i hp
   rw [if_pos hp] at k2
   simp only [exOp,hev] at k1 k2
   split at k1
   ·rename_i ks es ho
    have hl:=(List.getElem?_eq_some_iff.1 ho).1
    split at k1
    ·rename_i n hn
     split at k1
     ·rename_i hc
      cases k1
      rw [List.getElem?_set_self hl] at k2
      simp only at k2
      split at k2
      ·rename_i n' hn'
       split at k2
       ·rename_i hc'
        cases k2
        have hne : n ≠ n':=by
         have h3:=hc'.1
         simp only [keysNot,List.all_eq_true,List.mem_map] at h3
         have h4:=h3 _ ⟨k,hk,rfl⟩
         rw [(keyAs_some hn).2] at h4
         simp only [bne_iff_ne,ne_eq] at h4
         exact fun e => h4 e.symm
        refine ⟨h.set p (.mpo ks (putM n' (Opd.ev ts v1) es)),?_,?_⟩
        ·simp only [exOper,hys,e2,hev]
         rw [if_pos hp]
         simp only [exOp,hev,ho,hn']
         rw [if_pos hc']
        ·simp only [exOper,hs,e1,hev]
         rw [if_pos hp]
         simp only [exOp,hev]
         rw [List.getElem?_set_self hl]
         simp only [hn]
         rw [if_pos hc,List.set_set,List.set_set,putM_comm hne]
       ·cases k2
      ·cases k2
     ·cases k1
    ·cases k1
   ·cases k1
  ·cases k1
 ·cases hm
theorem swap_heap (hfr : FrameOk call) {x y : AOper} (sx : ShapeOk base h x) (sy : ShapeOk base h y) (mx : MaskOk base x h) (my : MaskOk base y h) (hsw : swapOk x y = true) :
  Swaps (fun h => exOper call lim base ts h x) (fun h => exOper call lim base ts h y) h:=by
 simp only [swapOk,Bool.and_eq_true,Bool.or_eq_true] at hsw
 obtain ⟨_,c3⟩:=hsw
 by_cases hmm : mapsOk x y = true
 ·exact swap_maps hmm
 by_cases hp : x.op.cls = .p ∨ y.op.cls = .p
 ·exact swap_p hp
 have c4:=c3.resolve_left (fun e => hp (by
  rcases e with (e | e) | e
  ·exact absurd e hmm
  ·simp at e; simp [e]
  ·simp at e; simp [e]))
 cases hxs : x.slot with
 |
  some s =>
  cases hys : y.slot with
  |
   some t =>
   rw [hxs,hys] at c4
   simp only [Bool.and_eq_true,Bool.or_eq_true,bne_iff_ne,ne_eq,List.contains_eq_mem,decide_eq_true_eq] at c4
   obtain ⟨⟨h1,h2⟩,h3⟩:=c4
   by_cases hxx : x.op.cls = .x
   ·obtain ⟨h4,h5⟩:=h2.resolve_left (fun c => c hxx)
    exact swap_ml hfr (sy.loc hys h4) (sy.out t hys) (sy.lt t hys) (x_noStore hxx) mx h5
   ·by_cases hyx : y.op.cls = .x
    ·exact swap_lm hfr (sx.loc hxs hxx) (sx.out s hxs) (sx.lt s hxs) (x_noStore hyx) my (h3.resolve_left (fun c => c hyx))
    ·exact swap_ll (sx.loc hxs hxx) (sy.loc hys hyx) h1 (sx.out s hxs) (sy.out t hys) (sx.lt s hxs) (sy.lt t hys)
  |
   none =>
   rw [hxs,hys] at c4
   simp only [Bool.and_eq_true,Bool.or_eq_true,bne_iff_ne,ne_eq,beq_iff_eq,List.contains_eq_mem,decide_eq_true_eq] at c4
   obtain ⟨h1,h2⟩:=c4
   by_cases hxx : x.op.cls = .x
   ·obtain ⟨h3,h4⟩:=h2.resolve_left (fun c => c hxx)
    obtain ⟨esz,eb,a,b,hop⟩:=x_append hxx h4
    exact swap_xr hop hxs h3 h1
   ·exact swap_lm hfr (sx.loc hxs hxx) (sx.out s hxs) (sx.lt s hxs) (fun _ => hys) my h1
 |
  none =>
  cases hys : y.slot with
  |
   some t =>
   rw [hxs,hys] at c4
   simp only [Bool.and_eq_true,Bool.or_eq_true,bne_iff_ne,ne_eq,beq_iff_eq,List.contains_eq_mem,decide_eq_true_eq] at c4
   obtain ⟨h1,h2⟩:=c4
   by_cases hyx : y.op.cls = .x
   ·obtain ⟨h3,h4⟩:=h2.resolve_left (fun c => c hyx)
    obtain ⟨esz,eb,a,b,hop⟩:=x_append hyx h4
    exact swap_rx hop hys h3 h1
   ·exact swap_ml hfr (sy.loc hys hyx) (sy.out t hys) (sy.lt t hys) (fun _ => hxs) mx h1
  |
   none =>
   rw [hxs,hys] at c4
   simp only [Bool.and_eq_true,Bool.or_eq_true,beq_iff_eq] at c4
   rcases c4 with (⟨h1,h2⟩ | ⟨h1,h2⟩) | h1
   ·exact swap_rr h1 h2
   ·exact swap_rk h1 h2 hys
   ·exact swap_apart h1 hxs hys
def exG (call : Callee) (lim base : Nat) (ts : List AV) (h : List AO) (o : AOper) : Option (AV × List AO) :=
 if wanted ts o.guard then exOper call lim base ts h o else some (.undef,h)
theorem stepOp_eq {o : AOper} : stepOp call lim base o ts h = (exG call lim base ts h o).map fun r => (putT ts o.dst r.1,r.2):=by
 unfold stepOp exG
 split
 ·cases exOper call lim base ts h o <;> rfl
 ·rfl
theorem swap_exG {x y : AOper} (hs : Swaps (fun h => exOper call lim base ts h x) (fun h => exOper call lim base ts h y) h) : Swaps (fun h => exG call lim base ts h x) (fun h => exG call lim base ts h y) h:=by
 intro v h1 u h2 k1 k2
 simp only [exG] at k1 k2 ⊢
 by_cases hx : wanted ts x.guard = true
 ·by_cases hy : wanted ts y.guard = true
  ·simp only [hx,hy,if_true] at k1 k2 ⊢; exact hs v h1 u h2 k1 k2
  ·simp only [hx,hy,if_true] at k1 k2 ⊢
   cases k2; exact ⟨_,rfl,k1⟩
 ·simp only [hx] at k1 k2 ⊢
  cases k1; exact ⟨_,k2,rfl⟩
theorem exG_put {o : AOper} {dst : Option Nat} {v : AV} (hd : ∀ d,dst = some d → d ∉ o.looks) : exG call lim base (putT ts dst v) h o = exG call lim base ts h o:=by
 obtain ⟨e1,e2⟩:=put_looks (call:=call) (lim:=lim) (base:=base) (ts:=ts) (h:=h) (v:=v) hd
 simp only [exG,e1,e2]
theorem swap_step {x y : AOper} (hs : Swaps (fun h => exOper call lim base ts h x) (fun h => exOper call lim base ts h y) h) (hsw : swapOk x y = true) {s1 s2 : List AV × List AO}
  (k1 : stepOp call lim base x ts h = some s1) (k2 : stepOp call lim base y s1.1 s1.2 = some s2) : ∃ s1',stepOp call lim base y ts h = some s1' ∧ stepOp call lim base x s1'.1 s1'.2 = some s2:=by
 simp only [swapOk,Bool.and_eq_true] at hsw
 obtain ⟨⟨c1,c2⟩,_⟩:=hsw
 have d1 : ∀ d,x.dst = some d → d ∉ y.looks:=fun d e => by rw [e] at c1; simp at c1; exact c1.1
 have d2 : ∀ d,y.dst = some d → d ∉ x.looks:=fun d e => by rw [e] at c2; simp at c2; exact c2
 have d3 : ∀ d,x.dst = some d → y.dst ≠ some d:=fun d e => by rw [e] at c1; simp at c1; exact c1.2
 rw [stepOp_eq] at k1 k2
 simp only [Option.map_eq_some_iff] at k1 k2
 obtain ⟨⟨v,h1⟩,k1,rfl⟩:=k1
 obtain ⟨⟨u,h2⟩,k2,rfl⟩:=k2
 simp only at k2
 rw [exG_put d1] at k2
 obtain ⟨h1',j1,j2⟩:=swap_exG hs v h1 u h2 k1 k2
 refine ⟨(putT ts y.dst u,h1'),by rw [stepOp_eq]; simp only at j1; rw [j1]; rfl,?_⟩
 rw [stepOp_eq]
 simp only
 rw [exG_put d2]
 simp only at j2
 rw [j2]
 simp only [Option.map_some,Option.some.injEq,Prod.mk.injEq,and_true]
 cases hx : x.dst with
 | none => rfl
 |
  some d =>
  cases hy : y.dst with
  | none => rfl
  |
   some d' =>
   have : d ≠ d':=fun e => d3 d hx (by rw [hy,e])
   exact (List.set_comm _ _ this).symm
def stepAt (call : Callee) (lim base : Nat) (as : List AOper) (i : Nat) (s : List AV × List AO) : Option (List AV × List AO) :=
 match as[i]? with
 | some o => stepOp call lim base o s.1 s.2
 | none => some s
theorem evIx_runL {as : List AOper} : ∀ (L : List Nat) (ts : List AV) (h : List AO),evIx call lim base as L ts h = runL (stepAt call lim base as) L (ts,h)
 | [],ts,h => rfl
 |
  i :: L,ts,h => by
  simp only [evIx,runL,stepAt]
  cases as[i]? with
  | none => exact evIx_runL L ts h
  |
   some o =>
   simp only
   cases stepOp call lim base o ts h with
   | none => rfl
   | some s => exact evIx_runL L s.1 s.2
theorem evIx_perm {as : List AOper} : ∀ (L : List Nat) (ts : List AV) (h : List AO),evIx call lim base as L ts h = evOps call lim base (L.filterMap (as[·]?)) ts h
 | [],ts,h => rfl
 |
  i :: L,ts,h => by
  simp only [evIx,List.filterMap_cons]
  cases as[i]? with
  | none => exact evIx_perm L ts h
  |
   some o =>
   simp only [evOps]
   cases stepOp call lim base o ts h with
   | none => rfl
   | some s => exact evIx_perm L s.1 s.2
theorem permIx_perm (n : Nat) (p : Nat → Bool) : (permIx n p).Perm (List.range n):=List.filter_append_perm p _
theorem permIx_ahead {n : Nat} {p : Nat → Bool} : (permIx n p).Pairwise (fun b a => ahead p b a = true):=by
 unfold permIx
 rw [List.pairwise_append]
 have key : ∀ q : Nat → Bool,(∀ b a,q b = true → q a = true → p b = p a) → ((List.range n).filter q).Pairwise (fun b a => ahead p b a = true):=by
  intro q hq
  have h1 : ((List.range n).filter q).Pairwise (· < ·):=List.pairwise_lt_range.filter _
  refine h1.imp_of_mem ?_
  intro b a hb ha hlt
  have e:=hq b a (List.mem_filter.1 hb).2 (List.mem_filter.1 ha).2
  simp [ahead,e,hlt]
 refine ⟨key p (fun b a h1 h2 => by rw [h1,h2]),key (fun i => !p i) (fun b a h1 h2 => by simp only [Bool.not_eq_true'] at h1 h2; rw [h1,h2]),fun b hb a ha => ?_⟩
 have h1:=(List.mem_filter.1 hb).2
 have h2:=(List.mem_filter.1 ha).2
 simp only [Bool.not_eq_true'] at h2
 simp [ahead,h1,h2]
theorem drawOk (m : Nat → Nat) (hfr : FrameOk call) (hlen : LenOk call) : DrawOk P m call:=by
 intro ops l p hl hok hso
 obtain ⟨hll,hops⟩:=cOpers_spec _ _ hl
 have hll' : l.length = ops.size:=by simpa using hll
 refine ⟨by rw [drawn_len,hll'],fun i o ao ho hao => ?_,?_⟩
 ·obtain ⟨a,ha,e1,e2,e3⟩:=drawn_get hao
  obtain ⟨⟨g1,g2,g3⟩,_⟩:=hops i o a (by simpa using ho) ha
  exact ⟨e1.trans g1,by rw [e2]; exact g2,by rw [e3]; exact g3⟩
 intro lim base ts h ts' h' hb htomb hx t
 obtain ⟨as,has⟩ : ∃ as,as = drawn ops.toList l:=⟨_,rfl⟩
 rw [← has] at hok hso hx ⊢
 obtain ⟨k,hk⟩ : ∃ k,k = slotCount l:=⟨_,rfl⟩
 rw [← hk] at hso hb htomb
 have hal : as.length = ops.size:=by rw [has,drawn_len,hll']
 simp only [okDraw,Bool.and_eq_true,List.all_eq_true] at hok
 obtain ⟨⟨heb,hsh⟩,hall⟩:=hok
 have hfit:=slotsFit_of (base:=base) hso
 have hmem : ∀ (i : Nat) o,as[i]? = some o → (o,i) ∈ as.zipIdx:=fun i o hi => by rw [List.mem_zipIdx_iff_getElem?]; exact hi
 have shape : ∀ (i : Nat) o,as[i]? = some o → ∀ g : List AO,base + k ≤ g.length → ShapeOk base g o ∧ MaskOk base o g:=by
  intro i o hi g hg
  unfold shapeOk at hsh
  rw [List.all_eq_true] at hsh
  have hs:=hsh o (List.mem_of_getElem? hi)
  have hs' : ∀ s,o.slot = some s → (s ∉ o.mask ∧ (o.op.cls = .a ∨ o.op.cls = .x ∨ isStore o.op = true)) ∧ s < k:=by
   intro s e
   rw [e] at hs
   simp only [Bool.and_eq_true,Bool.not_eq_true',Bool.or_eq_true,beq_iff_eq,List.any_eq_true,List.contains_eq_mem,decide_eq_false_iff_not] at hs
   obtain ⟨⟨g1,g2⟩,x,hxm,hxe⟩:=hs
   refine ⟨⟨g1,by rcases g2 with (g2 | g2) | g2 <;> simp [g2]⟩,?_⟩
   obtain ⟨j,hj⟩:=List.getElem?_of_mem hxm
   have:=(hfit.lt j x (base + s) hj (by simp [AOper.makes,hxe])).2
   omega
  exact ⟨⟨fun s e => (hs' s e).1.1,fun s e => by have:=(hs' s e).2; omega,fun s e => (hs' s e).1.2⟩,fun s hsm => ⟨by have:=(hfit.mask i o hi s hsm).1; omega,(hfit.mask i o hi s hsm).2⟩⟩
 refine ⟨(linearise_ok heb t).1,?_⟩
 have hrange : evIx call lim base as (permIx ops.size p) ts h = some (ts',h'):=by
  rw [evIx_perm,← hal]; exact hx
 rw [evIx_runL] at hrange ⊢
 refine runL_sorted (Inv:=fun _ s => base + k ≤ s.2.length) (ok:=fun b a => b ∉ (closure ops.toList).getD a []) (lt:=fun b a => ahead p b a = true) ?_ (fun _ _ _ _ h => h) ?_ _ (permIx ops.size p) _ _ ?_ permIx_ahead ((permIx_perm _ _).trans (linearise_perm heb t)) (by simp only; omega) hrange
 ·intro a L s s' hi hst
  unfold stepAt at hst
  split at hst
  ·exact Nat.le_trans hi (stepOp_len hlen hst)
  ·cases hst; exact hi
 ·intro b a L s s1 s2 hi hlt hno k1 k2
  unfold stepAt at k1 k2 ⊢
  cases hbx : as[b]? with
  | none => rw [hbx] at k1; cases k1; exact ⟨s2,k2,rfl⟩
  |
   some x =>
   rw [hbx] at k1
   cases hay : as[a]? with
   | none => rw [hay] at k2; cases k2; exact ⟨s,rfl,k1⟩
   |
    some y =>
    rw [hay] at k2
    simp only at k1 k2 ⊢
    have hsw : swapOk x y = true:=by
     have:=hall (x,b) (hmem b x hbx) (y,a) (hmem a y hay)
     simp only [Bool.or_eq_true,Bool.not_eq_true',List.contains_eq_mem,decide_eq_true_eq] at this
     rcases this with (h1 | h1) | h1
     ·rw [hlt] at h1; cases h1
     ·exact absurd h1 hno
     ·exact h1
    obtain ⟨sx,mx⟩:=shape b x hbx s.2 hi
    obtain ⟨sy,my⟩:=shape a y hay s.2 hi
    exact swap_step (swap_heap hfr sx sy mx my hsw) hsw k1 k2
 ·refine List.Pairwise.imp ?_ (linearise_pairwise heb t)
  intro a b hh _
  exact hh
end Go.Am
/-
Functions: what the abstract machine answers,the model's machine answers.
-/
namespace Go.Am
open Go
set_option linter.unusedVariables false
set_option linter.unusedSimpArgs false
variable {P : Program} {mode : Nat → Nat → Nat} {S : Fz} {φ : Mp} {B : Nat} {h : List AO} {w : World}
def Leaves (P : Program) (f : Nat) (vals : Array Value) (w : World) (Q : Value → World → Prop) : Prop :=
 ∀ cs,∃ v w' fr,Q v w' ∧ Steps P (lone (Frame.enter P f vals .normal) cs w) (lone fr cs w') ∧ fr.fn = f ∧ fr.leaving P w' (.returned v)
theorem Leaves.runs {f : Nat} {vals : Array Value} {Q : Value → World → Prop} (h : Leaves P f vals w Q) : Runs P (.enter f vals) w Q:=by
 intro c cs
 obtain ⟨v,w',fr,hq,hs,_,hl⟩:=h (c :: cs)
 exact ⟨v,w',hq,Steps.trans hs (.one (step_leave_returned hl))⟩
theorem cFn_spec {m : Nat → Nat} {f : Nat} {fn : AFn} (h : cFn P m f = some fn) :
  ∃ F b, P.funcs[f]? = some F ∧ F.body = some b ∧ F.name ≠ "runtime.NumGoroutine" ∧ fn.ntmps = F.ntmps ∧ F.results.toList.mapM (cRes P) = some fn.results ∧ cCode P m b = some fn.body := by
 simp only [cFn,Option.bind_eq_bind,Option.bind_eq_some_iff] at h
 obtain ⟨F,hF,b,hb,h⟩:=h
 split at h
 ·cases h
 ·rename_i hn
  simp only [Option.bind_eq_some_iff,Option.some.injEq] at h
  obtain ⟨rs,hrs,c,hc,rfl⟩:=h
  exact ⟨F,b,hF,hb,hn,rfl,hrs,hc⟩
theorem callFunc_run {f : Nat} {F : Func} {b : Code} (hF : P.funcs[f]? = some F) (hb : F.body = some b) (hn : F.name ≠ "runtime.NumGoroutine") (args : Array Value) (w : World) : (callFunc f args).run P w = .ok (.enter f args) w := by
 simp [callFunc,hF,hb,hn]
theorem marks_steps {b : Frame} {todo : List Item} {cs : List Frame} {lim : Nat} : ∀ (ms : List Nat) (S : Fz) (φ : Mp) (h h' : List AO) (w : World) (tmps : Array Value) (ds : List Deferred),HR P mode S φ B h w → MarksRel φ ms ds → (∀ m ∈ ms,lim ≤ m) → takeMarks ms h = some h' →
  ∃ w',Post P mode S φ B lim h w none S φ h' w' ∧ Steps P (lone { b.atR { tmps:=tmps,defers:=ds } todo with mode:=.returning } cs w) (lone { b.atR { tmps:=tmps,defers:=[] } todo with mode:=.returning } cs w')
 |
  [],S,φ,h,h',w,tmps,ds,H,hm,hl,hx => by
  simp only [takeMarks] at hx; cases hx
  cases ds with
  | nil => exact ⟨w,Post.refl H _ _,Steps.refl P _⟩
  | cons d ds => exact hm.elim
 |
  m :: ms,S,φ,h,h',w,tmps,ds,H,hm,hl,hx => by
  cases ds with
  | nil => exact hm.elim
  |
   cons d ds =>
   obtain ⟨⟨bk,z,h1,rfl⟩,h2⟩:=hm
   simp only [takeMarks] at hx
   split at hx
   ·rename_i hd
    have hob : w.heap[bk]? = some (.deferred (some [])):=by
     rcases H.obj m _ hd with hh | ⟨b1,z1,k1,k2,k3⟩
     ·cases hh
     ·rw [h1] at k1; cases k1; exact k3
    have p1:=H.replace (a':=.tomb) (ob:=.deferred none) hd h1 (fun x hx => by cases x <;> simp_all [mayShare]) (by simp) trivial trivial lim (hl m (by simp))
    obtain ⟨w',p2,hs⟩:=marks_steps ms S φ _ h' (World.put w bk (.deferred none)) tmps ds p1.hr h2 (fun q hq => hl q (by simp [hq])) hx (b:=b) (todo:=todo) (cs:=cs)
    refine ⟨w',p1.trans p2,Steps.head ?_ hs⟩
    apply step_lone_go
    have hrun : (Instr.takeDeferred bk).run P w = .ok [] (World.put w bk (.deferred none)):=by
     simp [Instr.takeDeferred,getObj,setObj,Sem.run,hob,World.put]
    simp [stepG,unwind,Frame.atR,Sem.runT_eq,hrun,GStep.bare_after]
   ·cases hx
theorem results_snd {F : Func} {rs : List ARes} (hrs : F.results.toList.mapM (cRes P) = some rs) {ts : List AV} {tmps : Array Value} (H : HR P mode S φ B h w) (hr : RelL S φ ts tmps.toList) {vs : List AV} (hv : rs.mapM (getRes ts h) = some vs) :
  ∃
   us : List Value,(F.results.mapM (fun
   | .tmp t => pure (tmps.getD t undef)
   | .cell a t => do loadVar t (← asAddr (tmps.getD a undef)) : ResultVar → Sem Value)).run P w = .ok us.toArray w ∧ RelL S φ vs us:=by
 rw [Array.mapM_eq_mapM_toList]
 have getD_eq : ∀ t,tmps.getD t undef = tmps.toList.getD t undef:=fun t => by simp [Array.getD_eq_getD_getElem?,List.getD_eq_getElem?_getD]
 have main : ∀ (l : List ResultVar) (rs : List ARes) (vs : List AV),l.mapM (cRes P) = some rs → rs.mapM (getRes ts h) = some vs →
   ∃ us : List Value,(l.mapM (fun
   | .tmp t => pure (tmps.getD t undef)
   | .cell a t => do loadVar t (← asAddr (tmps.getD a undef)) : ResultVar → Sem Value)).run P w = .ok us w ∧ RelL S φ vs us:=by
  intro l
  induction l with
  | nil => intro rs vs h1 h2; simp at h1; subst h1; simp at h2; subst h2; exact ⟨[],by simp,.nil⟩
  |
   cons x l ih =>
   intro rs vs h1 h2
   simp only [List.mapM_cons,Option.bind_eq_bind,Option.bind_eq_some_iff,Option.pure_def,Option.some.injEq] at h1
   obtain ⟨y,hy,rs',hrs',rfl⟩:=h1
   simp only [List.mapM_cons,Option.bind_eq_bind,Option.bind_eq_some_iff,Option.pure_def,Option.some.injEq] at h2
   obtain ⟨v,hv,vs',hvs',rfl⟩:=h2
   obtain ⟨us,hus,hrel⟩:=ih rs' vs' hrs' hvs'
   have hone : ∃ u,((fun
    | .tmp t => pure (tmps.getD t undef)
    | .cell a t => do loadVar t (← asAddr (tmps.getD a undef)) : ResultVar → Sem Value) x).run P w = .ok u w ∧ Rel S φ v u:=by
    cases x with
    |
     tmp t =>
     simp only [cRes,Option.some.injEq] at hy; subst hy
     simp only [getRes,Option.some.injEq] at hv; subst hv
     exact ⟨_,rfl,by rw [getD_eq]; exact hr.getD t⟩
    |
     cell a t =>
     simp only [cRes,Option.bind_eq_bind,Option.bind_eq_some_iff,Option.some.injEq] at hy
     obtain ⟨ag,hag,sz,hsz,rfl⟩:=hy
     simp only [getRes] at hv
     have hp:=hr.getD a
     split at hv
     ·rename_i o off ho
      split at hv
      ·rename_i c hc
       rw [ho] at hp
       obtain ⟨bk,hb,hcell⟩:=ptr_cells H hc hp
       obtain ⟨u,hu,hru⟩:=loadVar_snd hag hsz hcell hv
       refine ⟨u,?_,hru⟩
       rw [← getD_eq] at hb
       simp [hb,asAddr,hu]
      ·cases hv
     ·cases hv
   obtain ⟨u,hu,hru⟩:=hone
   refine ⟨u :: us,?_,.cons hru hrel⟩
   simp only [List.mapM_cons,Sem.run_bind]
   rw [hu]
   simp only [Result.andThen_ok,hus,Sem.run_pure]
 obtain ⟨us,h1,h2⟩:=main _ _ _ hrs hv
 exact ⟨us,by simp only [Sem.run_map,h1,Result.andThen_ok],h2⟩
structure EnvOk (P : Program) (mode : Nat → Nat → Nat) (E : Env) : Prop where
 fn : ∀ f fn,E.fn f = some fn → cFn P (mode f) f = some fn
 spec : ∀ f args h lim r h',E.spec f args h lim = some (r,h') → lim ≤ h.length → ∀ S φ B w vals,HR P mode S φ B h w → RelL S φ args vals →
  (∀ w,(callFunc f vals.toArray).run P w = .ok (.enter f vals.toArray) w) ∧ Leaves P f vals.toArray w (Fits P mode S φ B lim h w none r h')
 frame : SpecFrame E.spec
 no : SpecNone E
 len : SpecLen E.spec
theorem setAll_rel : ∀ (ps : List Nat) (as : List AV) (vs : List Value) (ts : List AV) (us : Array Value),as.length = ps.length → RelL S φ as vs → RelL S φ ts us.toList →
  RelL S φ (setAll ts ps as) ((ps.zip vs).foldl (fun (tmps : Array Value) (x : Nat × Value) => tmps.setIfInBounds x.1 x.2) us).toList
 | [],as,vs,ts,us,_,_,hr => by simpa [setAll] using hr
 | p :: ps,[],vs,ts,us,hl,_,_ => by simp at hl
 |
  p :: ps,a :: as,vs,ts,us,hl,hv,hr => by
  obtain ⟨v,r,rfl,hv1,hv2⟩:=hv.cons_inv
  simp only [setAll,List.zip_cons_cons,List.foldl_cons]
  exact setAll_rel ps as r _ _ (by simpa using hl) hv2 (by simpa using hr.set p hv1)
theorem callN_leaves {E : Env} (hE : EnvOk P mode E) (n : Nat) (ih : CallSnd P mode (callN E n)) {f : Nat} {args : List AV} {h : List AO} {lim : Nat} {r : AV} {h' : List AO} (hx : callN E (n + 1) (.fn f) args h lim = some (r,h')) (hlim : lim ≤ h.length)
  {vals : List Value} (H : HR P mode S φ B h w) (ra : RelL S φ args vals) :
  (∀ w,(callFunc f vals.toArray).run P w = .ok (.enter f vals.toArray) w) ∧ Leaves P f vals.toArray w (Fits P mode S φ B lim h w none r h'):=by
 simp only [callN] at hx
 cases hsp : E.spec f args h lim with
 | some y => rw [hsp] at hx; cases hx; exact hE.spec _ _ _ _ _ _ hsp hlim S φ B w vals H ra
 |
  none =>
  rw [hsp] at hx
  simp only at hx
  cases hfn : E.fn f with
  | none => rw [hfn] at hx; cases hx
  |
   some fn =>
   rw [hfn] at hx
   simp only at hx
   obtain ⟨F,body,hF,hbody,hname,hnt,hres,hcode⟩:=cFn_spec (hE.fn f fn hfn)
   refine ⟨callFunc_run hF hbody hname _,fun cs => ?_⟩
   obtain ⟨b,hb⟩ : ∃ b : Frame,b = { (default : Frame) with fn:=f,kind:=.normal,roundOf:=none }:=⟨_,rfl⟩
   obtain ⟨a,ha⟩ : ∃ a : Act,a = { tmps:=vals.toArray ++ Array.replicate (fn.ntmps - vals.length) undef,defers:=[] }:=⟨_,rfl⟩
   have hent : Frame.enter P f vals.toArray .normal = b.atR a [.code body]:=by
    rw [hb,ha]
    simp [Frame.enter,Frame.atR,hF,hbody,hnt]
   have R : StRel P mode S φ B ⟨args ++ List.replicate (fn.ntmps - args.length) .undef,h,[]⟩ a w:=by
    refine ⟨H,?_,by rw [ha]; trivial⟩
    rw [ha]
    simp only [Array.toList_append,Array.toList_replicate]
    rw [ra.1]
    refine ra.append ⟨by simp,fun j x u h1 h2 => ?_⟩
    rw [List.getElem?_replicate] at h1 h2
    split at h1
    ·split at h2
     ·cases h1; cases h2; exact Rel.undef
     ·rename_i p q; exact absurd p q
    ·cases h1
   have hfr:=callN_frame hE.frame hE.no n
   cases hev : evCode (callN E n) lim n none f fn.body ⟨args ++ List.replicate (fn.ntmps - args.length) .undef,h,[]⟩ with
   | none => rw [hev] at hx; cases hx
   |
    some q =>
    obtain ⟨e1,s1⟩:=q
    rw [hev] at hx
    obtain ⟨S1,φ1,w1,a1,R1,p1,l1⟩:=evCode_snd ih hfr (fun _ => drawOk _ hfr (callN_len hE.len n)) (b:=b) (by rw [hb]) (fun _ => by rw [hb]) body fn.body hcode S φ _ a w e1 s1 R hlim hev [] cs
    rw [← hent] at l1
    have hret : ∀ (hfin : finish lim fn.results s1 = some (r,h')),∀ todo,Steps P (lone (Frame.enter P f vals.toArray .normal) cs w) (lone { b.atR a1 todo with mode:=.returning } cs w1) →
      ∃ v w' fr,Fits P mode S φ B lim h w none r h' v w' ∧ Steps P (lone (Frame.enter P f vals.toArray .normal) cs w) (lone fr cs w') ∧ fr.fn = f ∧ fr.leaving P w' (.returned v):=by
     intro hfin todo hs
     unfold finish at hfin
     split at hfin
     ·cases hfin
     ·rename_i h2 htm
      split at htm
      case isFalse => cases htm
      rename_i hall
      have hmk : ∀ m ∈ s1.marks,lim ≤ m:=fun m hm => by simpa using List.all_eq_true.1 hall m hm
      obtain ⟨w2,p2,hs2⟩:=marks_steps (b:=b) (todo:=todo) (cs:=cs) (lim:=lim) s1.marks S1 φ1 s1.heap h2 w1 a1.tmps a1.defers R1.hr R1.mks hmk htm
      have pp:=p1.trans p2
      have hts:=p2.relL R1.hr R1.ts
      have leave : ∀ (vs : List AV) (us : List Value) (rr : AV) (v : Value),(F.results.mapM (fun
        | .tmp t => pure (a1.tmps.getD t undef)
        | .cell a t => do loadVar t (← asAddr (a1.tmps.getD a undef)) : ResultVar → Sem Value)).run P w2 = .ok us.toArray w2 → v = (if hh : us.toArray.size = 1 then us.toArray[0] else .tuple us.toArray) → Rel S1 φ1 rr v → rr = r → h2 = h' →
        ∃ v w' fr,Fits P mode S φ B lim h w none r h' v w' ∧ Steps P (lone (Frame.enter P f vals.toArray .normal) cs w) (lone fr cs w') ∧ fr.fn = f ∧ fr.leaving P w' (.returned v):=by
       intro vs us rr v hrun hv hrv e1 e2
       subst e1; subst e2
       refine ⟨v,w2,{ b.atR { tmps:=a1.tmps,defers:=[] } todo with mode:=.returning },⟨S1,φ1,hrv,pp⟩,Steps.trans hs hs2,by rw [hb]; rfl,rfl,rfl,by rw [hb]; rfl,F,by rw [hb]; exact hF,?_⟩
       show (results F a1.tmps).run P w2 = _
       unfold results
       rw [hv,Sem.run_bind]
       refine Eq.trans (congrArg (Result.andThen · _) hrun) ?_
       simp only [Result.andThen_ok,Sem.run_pure]
      split at hfin
      ·rename_i hv
       obtain ⟨us,hus,hrel⟩:=results_snd hres p2.hr hts hv
       obtain ⟨u,rest,rfl,hu,hrest⟩:=hrel.cons_inv
       obtain rfl : rest = []:=List.eq_nil_of_length_eq_zero hrest.1.symm
       cases hfin
       exact leave [] [u] _ u hus (by simp) hu rfl rfl
      ·rename_i vs hn hv
       obtain ⟨us,hus,hrel⟩:=results_snd hres p2.hr hts hv
       cases hfin
       refine leave vs us _ (.tuple us.toArray) hus ?_ (Rel.tup_iff.2 (by simpa using hrel)) rfl rfl
       have hne : us.length ≠ 1:=by
        intro e
        have : vs.length = 1:=by rw [hrel.1]; exact e
        obtain ⟨x,rfl⟩:=List.length_eq_one_iff.1 this
        exact hn x rfl
       simp [hne]
      ·cases hfin
    cases e1 with
    | exit id => cases hx
    | nrm => exact hret hx [] (Steps.trans l1 (.one (stepR_end (by rw [hb]))))
    |
     ret =>
     obtain ⟨k',hk⟩:=l1
     exact hret hx (.code .ret :: k') (Steps.trans hk (.one (stepR_ret (by rw [hb]))))
theorem run_beginRound {l : Nat} {lp : Loop} {w : World} (h : w.heap[l]? = some (.loop lp)) (hs : lp.state = .ready) : (Instr.beginRound l).run P w = .ok () (World.put w l (.loop { lp with state:=.busy })):=by
 simp [Instr.beginRound,Instr.getLoop,getObj,setObj,Sem.run,h,hs,World.put]
theorem run_endRound {l : Nat} {lp : Loop} {w : World} (h : w.heap[l]? = some (.loop lp)) (j : Option Code) : (Instr.endRound l j).run P w = .ok (.bool j.isNone) (World.put w l (.loop { lp with state:=if j.isNone then .ready else .done,pending:=j })):=by
 simp [Instr.endRound,Instr.getLoop,getObj,setObj,Sem.run,h,World.put]
theorem callN_round {E : Env} (hE : EnvOk P mode E) (n : Nat) (ih : CallSnd P mode (callN E n)) {o : Nat} {args : List AV} {h : List AO} {lim : Nat} {r : AV} {h' : List AO} (hx : callN E (n + 1) (.rnd o) args h lim = some (r,h')) (hlim : lim ≤ h.length)
  {vals : List Value} (H : HR P mode S φ B h w) (ra : RelL S φ args vals) {l z : Nat} (hl : φ o = some (l,z)) :
  ∃ nx,(Instr.yield l vals.toArray).run P w = .ok nx w ∧ isStart nx = true ∧ Runs P nx w (Fits P mode S φ B lim h w none r h'):=by
 simp only [callN] at hx
 split at hx
 case h_2 => cases hx
 rename_i pend0 fid ts ps as bd d ho
 split at hx
 case isFalse => cases hx
 rename_i hcc
 obtain ⟨hla,hlo⟩:=hcc
 obtain ⟨l1,z1,lp,j1,j2,j3,j4,j5,j6,j7,j8,j9,j10⟩:=loop_of H ho
 rw [hl] at j1; cases j1
 obtain ⟨tmps,htmps⟩ : ∃ tmps,tmps = (lp.params.zip vals.toArray).foldl (fun (tmps : Array Value) (x : Nat × Value) => tmps.setIfInBounds x.1 x.2) lp.tmps:=⟨_,rfl⟩
 have hsz : vals.toArray.size = lp.params.size:=by
  have h1 : lp.params.size = ps.length:=by rw [← j7]; simp
  have h2 : vals.length = args.length:=ra.1.symm
  simp [h1,h2,hla]
 refine ⟨.round l fid tmps lp.assign lp.body,?_,rfl,fun c cs => ?_⟩
 ·rw [htmps,← j5]
  simp [Instr.yield,Instr.getLoop,getObj,Sem.run,j2,hsz]
 ·obtain ⟨b,hb⟩ : ∃ b : Frame,b = { (default : Frame) with fn:=fid,kind:=.normal,roundOf:=some l }:=⟨_,rfl⟩
  have hbr : b.roundOf = some l:=by rw [hb]
  have hbk : b.kind = .normal:=by rw [hb]
  have hbf : b.fn = fid:=by rw [hb]
  obtain ⟨a,ha⟩ : ∃ a : Act,a = { tmps:=tmps,defers:=[] }:=⟨_,rfl⟩
  have hent : startFr P (.round l fid tmps lp.assign lp.body) = b.atR a [.code lp.assign,.beginRound,.code lp.body]:=by
   rw [hb,ha]; rfl
  rw [hent]
  have R : StRel P mode S φ B ⟨setAll ts ps args,h,[]⟩ a w:=by
   refine ⟨H,?_,by rw [ha]; trivial⟩
   rw [ha]
   have e : (lp.params.zip vals.toArray).foldl (fun (tmps : Array Value) (x : Nat × Value) => tmps.setIfInBounds x.1 x.2) lp.tmps = (ps.zip vals).foldl (fun (tmps : Array Value) (x : Nat × Value) => tmps.setIfInBounds x.1 x.2) lp.tmps:=by
    rw [← Array.foldl_toList,Array.toList_zip,j7]
   show RelL S φ _ tmps.toList
   rw [htmps,e]
   exact setAll_rel ps args vals ts lp.tmps hla ra j6
  have hfr:=callN_frame hE.frame hE.no n
  have hdr:=fun m => drawOk (P:=P) m hfr (callN_len hE.len n)
  cases hev : evCode (callN E n) lim n (some o) fid as ⟨setAll ts ps args,h,[]⟩ with
  | none => rw [hev] at hx; cases hx
  |
   some q =>
   obtain ⟨e1,s1⟩:=q
   rw [hev] at hx
   cases e1 with
   | exit id => cases hx
   | ret => cases hx
   |
    nrm =>
    simp only at hx
    split at hx
    case h_2 => cases hx
    rename_i pend1 fid1 ts1 ps1 as1 bd1 d1 ho1
    obtain ⟨S1,φ1,w1,a1,R1,p1,L1⟩:=evCode_snd ih hfr hdr (b:=b) hbf (fun hh => by cases hh) lp.assign as j8 S φ _ a w _ s1 R hlim hev [.beginRound,.code lp.body] (c :: cs)
    have L1 : Steps P _ (lone (b.atR a1 [.beginRound,.code lp.body]) (c :: cs) w1):=L1
    obtain ⟨l2,z2,lp1,k1,k2,k3,k4,k5,k6,k7,k8,k9,k10⟩:=loop_of R1.hr ho1
    have hl1 : φ1 o = some (l,z):=p1.le _ _ hl
    rw [hl1] at k1; cases k1
    have p2:=setLoop (st':=.busy) (pend':=pend1) R1.hr ho1 hl1 k2 lim hlo
    have e2 : { lp1 with state:=LoopState.busy,pending:=pend1.bind exCode } = { lp1 with state:=.busy }:=by rw [← k4]
    rw [e2] at p2
    obtain ⟨w2,hw2⟩ : ∃ w2,w2 = World.put w1 l (.loop { lp1 with state:=.busy }):=⟨_,rfl⟩
    rw [← hw2] at p2
    have st2:=stepR_beginRound (P:=P) (b:=b) (a:=a1) (k:=[.code lp.body]) (cs:=c :: cs) (w:=w1) hbr (run_beginRound k2 k3)
    rw [← hw2] at st2
    have R2 : StRel P mode S1 φ1 B ⟨s1.tmps,s1.heap.set o (.loop .busy pend1 fid1 ts1 ps1 as1 bd1 d1),s1.marks⟩ a1 w2:=⟨p2.hr,p2.relL R1.hr R1.ts,R1.mks⟩
    cases hev2 : evCode (callN E n) lim n (some o) fid bd ⟨s1.tmps,s1.heap.set o (.loop .busy pend1 fid1 ts1 ps1 as1 bd1 d1),s1.marks⟩ with
    | none => rw [hev2] at hx; cases hx
    |
     some q =>
     obtain ⟨ex,s2⟩:=q
     rw [hev2] at hx
     simp only at hx
     split at hx
     case h_2 => cases hx
     rename_i ls2 pend2 fid2 ts2 ps2 as2 bd2 d2 ho2
     have hlen : lim ≤ (s1.heap.set o (.loop .busy pend1 fid1 ts1 ps1 as1 bd1 d1)).length:=by
      have:=(List.getElem?_eq_some_iff.1 ho1).1
      simp; omega
     obtain ⟨S2,φ2,w3,a2,R3,p3,L2⟩:=evCode_snd ih hfr hdr (b:=b) hbf (fun hh => by cases hh) lp.body bd j9 S1 φ1 _ a1 w2 ex s2 R2 hlen hev2 [] (c :: cs)
     obtain ⟨l3,z3,lp2,m1,m2,m3,m4,m5,m6,m7,m8,m9,m10⟩:=loop_of R3.hr ho2
     have hl2 : φ2 o = some (l,z):=p3.le _ _ hl1
     rw [hl2] at m1; cases m1
     have p4:=setLoop (st':=if ex == .nrm then .ready else .done) (pend':=if ex == .nrm then none else some ex) R3.hr ho2 hl2 m2 lim hlo
     have pAll:=(p1.trans p2).trans (p3.trans p4)
     have pre : Steps P (lone (b.atR a [.code lp.assign,.beginRound,.code lp.body]) (c :: cs) w) (lone (b.atR a1 [.code lp.body]) (c :: cs) w2):=Steps.trans L1 (.one st2)
     cases hx
     cases ex with
     |
      nrm =>
      refine ⟨.bool true,_,⟨S2,φ2,Rel.bool _ _,pAll⟩,Steps.trans pre (Steps.trans L2 (.one (stepR_round_end hbr hbk (run_endRound m2 none))))⟩
     |
      exit id =>
      obtain ⟨k',hk',L2⟩:=L2
      refine ⟨.bool false,_,⟨S2,φ2,Rel.bool _ _,pAll⟩,Steps.trans pre (Steps.trans L2 (.one (stepR_round_exit hbr hbk hk' (run_endRound m2 (some (.exit id))))))⟩
     |
      ret =>
      obtain ⟨k',L2⟩:=L2
      refine ⟨.bool false,_,⟨S2,φ2,Rel.bool _ _,pAll⟩,Steps.trans pre (Steps.trans L2 (.one (stepR_round_ret hbr hbk (run_endRound m2 (some .ret)))))⟩
theorem callN_snd {E : Env} (hE : EnvOk P mode E) : ∀ n,CallSnd P mode (callN E n)
 | 0 => fun t args h lim r h' hx => by simp [callN] at hx
 |
  n + 1 => by
  intro t args h lim r h' hx hlim S φ B w vals H ra
  have ih:=callN_snd hE n
  cases t with
  |
   fn f =>
   obtain ⟨g1,g2⟩:=callN_leaves hE n ih hx hlim H ra
   exact ⟨g1,g2.runs⟩
  | rnd o => exact fun l z hl => callN_round hE n ih hx hlim H ra hl
end Go.Am
/-
What the abstract machine comes to in the end,whatever its fuel: a function of code and state,without fuel.
-/
namespace Go.Am
open Go
set_option linter.unusedVariables false
set_option linter.unusedSimpArgs false
variable {E : Env} {α β γ : Type}
def Evt (E : Env) (t : Tgt) (a : List AV) (h : List AO) (lim : Nat) (x : AV × List AO) : Prop:=∃ N,∀ n,N ≤ n → callN E n t a h lim = some x
theorem Evt.unique {t : Tgt} {a : List AV} {h : List AO} {lim : Nat} {x y : AV × List AO} (h1 : Evt E t a h lim x) (h2 : Evt E t a h lim y) : x = y:=by
 obtain ⟨N,k1⟩:=h1
 obtain ⟨M,k2⟩:=h2
 have:=(k1 (max N M) (Nat.le_max_left _ _)).symm.trans (k2 (max N M) (Nat.le_max_right _ _))
 simpa using this
open Classical in
noncomputable def R (E : Env) : Callee:=fun t a h lim => if hx : ∃ x,Evt E t a h lim x then some hx.choose else none
theorem R_some {t : Tgt} {a : List AV} {h : List AO} {lim : Nat} {x : AV × List AO} : R E t a h lim = some x ↔ Evt E t a h lim x:=by
 unfold R
 split
 ·rename_i hx
  constructor
  ·intro e; cases e; exact hx.choose_spec
  ·intro e; rw [hx.choose_spec.unique e]
 ·rename_i hx
  constructor
  ·intro e; cases e
  ·intro e; exact absurd ⟨x,e⟩ hx
theorem iter_mono {f : St → Option (Ex × St)} : ∀ {n m : Nat} {s : St} {x : Ex × St},n ≤ m → iter f n s = some x → iter f m s = some x
 | 0,_,_,_,_,hx => by simp [iter] at hx
 | n + 1,0,_,_,hl,_ => by omega
 |
  n + 1,m + 1,s,x,hl,hx => by
  simp only [iter] at hx ⊢
  split at hx
  ·exact iter_mono (by omega) hx
  ·exact hx
open Classical in
noncomputable def lp (f : St → Option (Ex × St)) (s : St) : Option (Ex × St):=if hx : ∃ x n,iter f n s = some x then some hx.choose else none
theorem lp_some {f : St → Option (Ex × St)} {s : St} {x : Ex × St} : lp f s = some x ↔ ∃ n,iter f n s = some x:=by
 unfold lp
 split
 ·rename_i hx
  constructor
  ·intro e; cases e; exact hx.choose_spec
  ·rintro ⟨n,e⟩
   obtain ⟨m,e'⟩:=hx.choose_spec
   have a:=iter_mono (Nat.le_max_left n m) e
   have b:=iter_mono (Nat.le_max_right n m) e'
   rw [a] at b
   simp only [Option.some.injEq] at b
   exact congrArg some b.symm
 ·rename_i hx
  constructor
  ·intro e; cases e
  ·rintro ⟨n,e⟩; exact absurd ⟨x,n,e⟩ hx
noncomputable def den (E : Env) (lim : Nat) (rnd : Option Nat) (fid : Nat) : ACode → St → Option (Ex × St)
 | .skip,s => some (.nrm,s)
 |
  .region k ops,s => match evOps (R E) lim s.heap.length ops s.tmps (s.heap ++ List.replicate k .tomb) with
  | some (ts,h) => some (.nrm,{ s with tmps:=ts,heap:=h })
  | none => none
 |
  .seq a b,s => match den E lim rnd fid a s with
  | some (.nrm,s') => den E lim rnd fid b s'
  | r => r
 |
  .cond c a b,s => match c.ev s.tmps with
  | .bool true => den E lim rnd fid a s
  | .bool false => den E lim rnd fid b s
  | _ => none
 |
  .block id c,s => match den E lim rnd fid c s with
  | some (.exit id',s') => if id' = id then some (.nrm,s') else some (.exit id',s')
  | r => r
 | .loop c,s => lp (den E lim rnd fid c) s
 | .scope c,s => den E lim rnd fid c s
 | .exit id,s => some (.exit id,s)
 | .ret,s => some (.ret,s)
 |
  .rangeFunc f params assign body,s =>
  match rnd with
  | some _ => none
  |
   none =>
   let d:=s.heap.length
   let l:=d + 1
   match f.ev s.tmps with
   |
    .fn g first captured =>
    match R E (.fn g) (first ++ [.yld l] ++ captured) (s.heap ++ [.dfr,.loop .ready none fid s.tmps params assign body d]) lim with
    |
     some (_,h3) =>
     match h3[l]? with
     | some (.loop .ready pend fid ts ps as bd d') => some (pend.getD .nrm,{ s with heap:=h3.set l (.loop .exhausted pend fid ts ps as bd d'),marks:=d :: s.marks })
     | some (.loop .done pend fid ts ps as bd d') => some (pend.getD .nrm,{ s with heap:=h3.set l (.loop .exhausted pend fid ts ps as bd d'),marks:=d :: s.marks })
     | _ => none
    | none => none
   | _ => none
def Ev (f : Nat → Option α) (x : α) : Prop:=∃ N,∀ n,N ≤ n → f n = some x
theorem Ev.const (x : α) : Ev (fun _ => some x) x:=⟨0,fun _ _ => rfl⟩
theorem Ev.of {f : Nat → Option α} {x : α} (h : ∀ n,f n = some x) : Ev f x:=⟨0,fun n _ => h n⟩
theorem Ev.bind {f : Nat → Option α} {x : α} (h : Ev f x) {g : Nat → Option β} {y : β} (k : Ev g y) {r : Nat → Option γ} {z : γ} (hh : ∀ n,f n = some x → g n = some y → r n = some z) : Ev r z:=by
 obtain ⟨N,h⟩:=h
 obtain ⟨M,k⟩:=k
 exact ⟨max N M,fun n hn => hh n (h n (by omega)) (k n (by omega))⟩
theorem Ev.map {f : Nat → Option α} {x : α} (h : Ev f x) {r : Nat → Option β} {z : β} (hh : ∀ n,f n = some x → r n = some z) : Ev r z:=by
 obtain ⟨N,h⟩:=h
 exact ⟨N,fun n hn => hh n (h n hn)⟩
theorem R_ev {t : Tgt} {a : List AV} {h : List AO} {lim : Nat} {x : AV × List AO} (e : R E t a h lim = some x) : Ev (fun n => callN E n t a h lim) x:=R_some.1 e
theorem exOp_ev {lim : Nat} {pl : Option Nat} {ρ : Opd → AV} {h : List AO} {op : AOp} {y : AV × List AO} (hx : exOp (R E) lim pl ρ h op = some y) : Ev (fun n => exOp (callN E n) lim pl ρ h op) y:=by
 cases op with
 |
  call mode f args =>
  simp only [exOp] at hx ⊢
  split at hx
  ·exact R_ev hx
  ·split at hx
   ·split at hx
    ·rename_i hc
     exact (R_ev hc).map fun n e => by simp only [e]; exact hx
    ·cases hx
   ·cases hx
  ·split at hx
   ·rename_i hp
    split at hx
    ·rename_i hc
     exact (R_ev hc).map fun n e => by simp only [e,hp,if_true]; exact hx
    ·cases hx
   ·rename_i hp
    split at hx
    ·rename_i hvs
     split at hx
     ·rename_i hc
      exact (R_ev hc).map fun n e => by simp only [e,hp,hvs]; exact hx
     ·cases hx
    ·cases hx
  ·split at hx
   ·rename_i hc
    exact (R_ev hc).map fun n e => by simp only [e]; exact hx
   ·cases hx
 |
  callv q f args =>
  simp only [exOp] at hx ⊢
  split at hx
  ·split at hx
   ·split at hx
    ·rename_i hc
     exact (R_ev hc).map fun n e => by simp only [*,if_true]
    ·cases hx
   ·rename_i hq
    exact (R_ev hx).map fun n e => by simp only [hq]; first | exact e | skip
  ·split at hx
   ·cases hx
   ·rename_i hq
    exact (R_ev hx).map fun n e => by simp only [hq]; first | exact e | skip
  ·cases hx
 | _ => exact .of fun n => hx
theorem exMask_ev {lim base : Nat} {pl : Option Nat} {ρ : Opd → AV} {h : List AO} {op : AOp} {m : List Nat} {y : AV × List AO} (hx : exMask (R E) lim base pl ρ h op m = some y) : Ev (fun n => exMask (callN E n) lim base pl ρ h op m) y:=by
 unfold exMask at hx ⊢
 split at hx
 ·exact exOp_ev hx
 ·split at hx
  ·rename_i hc
   exact (exOp_ev hc).map fun n e => by simp only [e]; exact hx
  ·cases hx
theorem exOper_ev {lim base : Nat} {ts : List AV} {h : List AO} {o : AOper} {y : AV × List AO} (hx : exOper (R E) lim base ts h o = some y) : Ev (fun n => exOper (callN E n) lim base ts h o) y:=by
 unfold exOper at hx ⊢
 split at hx
 ·split at hx
  ·split at hx
   ·rename_i hb
    exact (exOp_ev hx).map fun n e => by rw [if_pos hb]; exact e
   ·cases hx
  ·cases hx
 ·split at hx
  ·split at hx
   ·rename_i hb
    exact (exOp_ev hx).map fun n e => by rw [if_pos hb]; exact e
   ·cases hx
  ·cases hx
 ·exact exMask_ev hx
theorem stepOp_ev {lim base : Nat} {ts : List AV} {h : List AO} {o : AOper} {y : List AV × List AO} (hx : stepOp (R E) lim base o ts h = some y) : Ev (fun n => stepOp (callN E n) lim base o ts h) y:=by
 unfold stepOp at hx ⊢
 split at hx
 ·rename_i hw
  split at hx
  ·rename_i hc
   exact (exOper_ev hc).map fun n e => by simp only [hw,if_true,e]; exact hx
  ·cases hx
 ·rename_i hw
  exact .of fun n => by simp only [hw]; exact hx
theorem evOps_ev {lim base : Nat} : ∀ {ops : List AOper} {ts : List AV} {h : List AO} {y : List AV × List AO},evOps (R E) lim base ops ts h = some y → Ev (fun n => evOps (callN E n) lim base ops ts h) y
 | [],ts,h,y,hx => .of fun n => hx
 |
  o :: r,ts,h,y,hx => by
  simp only [evOps] at hx ⊢
  split at hx
  ·rename_i hc
   exact (stepOp_ev hc).bind (evOps_ev hx) fun n e1 e2 => by simp only [e1]; exact e2
  ·cases hx
theorem iter_ev {f : Nat → St → Option (Ex × St)} {g : St → Option (Ex × St)} (hg : ∀ s x,g s = some x → Ev (fun n => f n s) x) : ∀ {k : Nat} {s : St} {x : Ex × St},iter g k s = some x → Ev (fun n => iter (f n) n s) x
 | 0,_,_,hx => by simp [iter] at hx
 |
  k + 1,s,x,hx => by
  simp only [iter] at hx
  split at hx
  ·rename_i s' hc
   obtain ⟨N,h1⟩:=hg _ _ hc
   have key : ∀ (k : Nat) (s : St) (x : Ex × St),iter g k s = some x → ∃ N,∀ n,N ≤ n → ∀ m,k ≤ m → iter (f n) m s = some x:=by
    intro k
    induction k with
    | zero => intro s x hx; simp [iter] at hx
    |
     succ k ih =>
     intro s x hx
     simp only [iter] at hx
     split at hx
     ·rename_i s1 hc1
      obtain ⟨N1,k1⟩:=hg _ _ hc1
      obtain ⟨N2,k2⟩:=ih _ _ hx
      refine ⟨max N1 N2,fun n hn m hm => ?_⟩
      obtain ⟨m',rfl⟩ : ∃ m',m = m' + 1:=⟨m - 1,by omega⟩
      simp only [iter,k1 n (by omega)]
      exact k2 n (by omega) m' (by omega)
     ·rename_i hne
      cases hgs : g s with
      | none => rw [hgs] at hx; cases hx
      |
       some y =>
       obtain ⟨N1,k1⟩:=hg _ _ hgs
       rw [hgs] at hx; cases hx
       refine ⟨N1,fun n hn m hm => ?_⟩
       obtain ⟨m',rfl⟩ : ∃ m',m = m' + 1:=⟨m - 1,by omega⟩
       simp only [iter,k1 n hn]
       obtain ⟨ex,s2⟩:=x
       cases ex with
       | nrm => exact absurd hgs (hne s2)
       | exit i => rfl
       | ret => rfl
   obtain ⟨N2,h2⟩:=key k _ _ hx
   refine ⟨max (max N N2) (k + 1),fun n hn => ?_⟩
   obtain ⟨m',rfl⟩ : ∃ m',n = m' + 1:=⟨n - 1,by omega⟩
   simp only [iter,h1 (m' + 1) (by omega)]
   exact h2 (m' + 1) (by omega) m' (by omega)
  ·rename_i hne
   cases hgs : g s with
   | none => rw [hgs] at hx; cases hx
   |
    some y =>
    obtain ⟨N1,k1⟩:=hg _ _ hgs
    rw [hgs] at hx; cases hx
    refine ⟨N1 + 1,fun n hn => ?_⟩
    obtain ⟨m',rfl⟩ : ∃ m',n = m' + 1:=⟨n - 1,by omega⟩
    simp only [iter,k1 (m' + 1) (by omega)]
    obtain ⟨ex,s2⟩:=x
    cases ex with
    | nrm => exact absurd hgs (hne s2)
    | exit i => rfl
    | ret => rfl
theorem den_ev {lim : Nat} {rnd : Option Nat} {fid : Nat} : ∀ {c : ACode} {s : St} {x : Ex × St},den E lim rnd fid c s = some x → Ev (fun n => evCode (callN E n) lim n rnd fid c s) x:=by
 intro c
 induction c with
 | skip => intro s x hx; exact .of fun n => hx
 | exit id => intro s x hx; exact .of fun n => hx
 | ret => intro s x hx; exact .of fun n => hx
 |
  region k ops =>
  intro s x hx
  simp only [den] at hx
  simp only [evCode]
  split at hx
  ·rename_i hc
   exact (evOps_ev hc).map fun n e => by simp only [e]; exact hx
  ·cases hx
 |
  seq a b iha ihb =>
  intro s x hx
  simp only [den] at hx
  simp only [evCode]
  cases ha : den E lim rnd fid a s with
  | none => rw [ha] at hx; cases hx
  |
   some y =>
   obtain ⟨ex,s1⟩:=y
   rw [ha] at hx
   cases ex with
   | nrm => exact (iha ha).bind (ihb hx) fun n e1 e2 => by simp only [e1]; exact e2
   | exit i => cases hx; exact (iha ha).map fun n e1 => by simp only [e1]
   | ret => cases hx; exact (iha ha).map fun n e1 => by simp only [e1]
 |
  cond c a b iha ihb =>
  intro s x hx
  simp only [den] at hx
  simp only [evCode]
  split at hx
  ·rename_i hc; simp only [hc]; exact iha hx
  ·rename_i hc; simp only [hc]; exact ihb hx
  ·cases hx
 |
  block id c ih =>
  intro s x hx
  simp only [den] at hx
  simp only [evCode]
  cases hc : den E lim rnd fid c s with
  | none => rw [hc] at hx; cases hx
  |
   some y =>
   rw [hc] at hx
   exact (ih hc).map fun n e => by simp only [e]; exact hx
 |
  loop c ih =>
  intro s x hx
  simp only [den] at hx
  simp only [evCode]
  obtain ⟨k,hk⟩:=lp_some.1 hx
  exact iter_ev (f:=fun n => evCode (callN E n) lim n rnd fid c) (fun s x => ih) hk
 | scope c ih => intro s x hx; simp only [den] at hx; simp only [evCode]; exact ih hx
 |
  rangeFunc f ps as bd _ _ =>
  intro s x hx
  simp only [den] at hx
  simp only [evCode]
  split at hx
  ·cases hx
  ·split at hx
   ·rename_i g first captured hf
    simp only [hf]
    split at hx
    ·rename_i r h3 hc
     exact (R_ev hc).map fun n e => by simp only [e]; exact hx
    ·cases hx
   ·cases hx
theorem R_fn {f : Nat} {fn : AFn} {args : List AV} {h : List AO} {lim : Nat} (hs : E.spec f args h lim = none) (hf : E.fn f = some fn) {ex : Ex} {s : St}
  (hd : den E lim none f fn.body ⟨args ++ List.replicate (fn.ntmps - args.length) .undef,h,[]⟩ = some (ex,s)) (hex : ex = .nrm ∨ ex = .ret) {x : AV × List AO} (hr : finish lim fn.results s = some x) : R E (.fn f) args h lim = some x:=by
 rw [R_some]
 obtain ⟨N,hN⟩:=den_ev hd
 refine ⟨N + 1,fun n hn => ?_⟩
 obtain ⟨m,rfl⟩ : ∃ m,n = m + 1:=⟨n - 1,by omega⟩
 simp only [callN,hs,hf,hN m (by omega)]
 rcases hex with rfl | rfl <;> exact hr
end Go.Am
/-
Rules by which the code of the abstract machine is run in a proof: a goal 'G ..' says that the code,and what comes behind it,ends as wanted.
-/
namespace Go.Am
open Go
set_option linter.unusedVariables false
set_option linter.unusedSimpArgs false
inductive KF where
 | seq (b : ACode)
 | block (id : Nat)
structure Cx where
 E : Env
 lim : Nat
 rnd : Option Nat
 fid : Nat
 Q : Ex → St → Prop
def unw (X : Cx) : Ex → List KF → St → Prop
 | ex,[],s => X.Q ex s
 |
  .nrm,.seq b :: k,s => match den X.E X.lim X.rnd X.fid b s with
  | some (ex,s') => unw X ex k s'
  | none => False
 | ex,.seq _ :: k,s => unw X ex k s
 | .exit i,.block j :: k,s => if i = j then unw X .nrm k s else unw X (.exit i) k s
 | ex,.block _ :: k,s => unw X ex k s
def unwO (X : Cx) (o : Option (Ex × St)) (k : List KF) : Prop :=
 match o with
 | some (ex,s') => unw X ex k s'
 | none => False
def G (X : Cx) (c : ACode) (k : List KF) (ts : List AV) (h : List AO) (mk : List Nat) : Prop:=unwO X (den X.E X.lim X.rnd X.fid c ⟨ts,h,mk⟩) k
def GO (X : Cx) (base : Nat) (ops : List AOper) (k : List KF) (ts : List AV) (h : List AO) (mk : List Nat) : Prop :=
 match evOps (R X.E) X.lim base ops ts h with
 | some (ts',h') => unw X .nrm k ⟨ts',h',mk⟩
 | none => False
def GX (X : Cx) (base : Nat) (o : Option (AV × List AO)) (d : Option Nat) (r : List AOper) (k : List KF) (ts : List AV) (mk : List Nat) : Prop :=
 match o with
 | some (v,h) => GO X base r k (putT ts d v) h mk
 | none => False
def GP (X : Cx) (base : Nat) (o : Option AV) (d : Option Nat) (r : List AOper) (k : List KF) (ts : List AV) (h : List AO) (mk : List Nat) : Prop :=
 match o with
 | some v => GO X base r k (putT ts d v) h mk
 | none => False
def GC (X : Cx) (v : AV) (a b : ACode) (k : List KF) (ts : List AV) (h : List AO) (mk : List Nat) : Prop :=
 match v with
 | .bool true => G X a k ts h mk
 | .bool false => G X b k ts h mk
 | _ => False
def GG (X : Cx) (base : Nat) (v : AV) (w : Bool) (o : AOper) (r : List AOper) (k : List KF) (ts : List AV) (h : List AO) (mk : List Nat) : Prop :=
 match v with
 | .bool b => if b == w then GO X base (o :: r) k ts h mk else GO X base r k (putT ts o.dst .undef) h mk
 | _ => GO X base r k (putT ts o.dst .undef) h mk
section
variable {X : Cx} {base : Nat} {k : List KF} {ts : List AV} {h : List AO} {mk : List Nat} {a b c : ACode} {r : List AOper} {d : Option Nat}
theorem G_seq : G X (.seq a b) k ts h mk = G X a (.seq b :: k) ts h mk:=by
 simp only [G,den]
 cases den X.E X.lim X.rnd X.fid a ⟨ts,h,mk⟩ with
 | none => rfl
 | some y => obtain ⟨ex,s⟩:=y; cases ex <;> rfl
theorem G_skip_nil : G X .skip [] ts h mk = X.Q .nrm ⟨ts,h,mk⟩:=id rfl
theorem G_skip_seq : G X .skip (.seq b :: k) ts h mk = G X b k ts h mk:=id rfl
theorem G_skip_block {i : Nat} : G X .skip (.block i :: k) ts h mk = G X .skip k ts h mk:=id rfl
theorem G_ret_nil : G X .ret [] ts h mk = X.Q .ret ⟨ts,h,mk⟩:=id rfl
theorem G_ret_seq : G X .ret (.seq b :: k) ts h mk = G X .ret k ts h mk:=id rfl
theorem G_ret_block {i : Nat} : G X .ret (.block i :: k) ts h mk = G X .ret k ts h mk:=id rfl
theorem G_exit_seq {i : Nat} : G X (.exit i) (.seq b :: k) ts h mk = G X (.exit i) k ts h mk:=id rfl
theorem G_exit_block {i j : Nat} : G X (.exit i) (.block j :: k) ts h mk = if i = j then G X .skip k ts h mk else G X (.exit i) k ts h mk:=id rfl
theorem G_exit_same {i : Nat} : G X (.exit i) (.block i :: k) ts h mk = G X .skip k ts h mk:=by rw [G_exit_block,if_pos rfl]
theorem G_block {i : Nat} : G X (.block i c) k ts h mk = G X c (.block i :: k) ts h mk:=by
 simp only [G,den]
 cases den X.E X.lim X.rnd X.fid c ⟨ts,h,mk⟩ with
 | none => rfl
 |
  some y =>
  obtain ⟨ex,s⟩:=y
  cases ex with
  | nrm => rfl
  | ret => rfl
  | exit j => by_cases e : j = i <;> simp [e,unwO,unw]
theorem G_scope : G X (.scope c) k ts h mk = G X c k ts h mk:=id rfl
theorem G_cond {o : Opd} : G X (.cond o a b) k ts h mk = GC X (o.ev ts) a b k ts h mk:=by
 simp only [G,den,GC]
 cases Opd.ev ts o with
 | bool v => cases v <;> rfl
 | _ => rfl
theorem G_region0 {ops : List AOper} : G X (.region 0 ops) k ts h mk = GO X h.length ops k ts h mk:=by
 simp only [G,den,GO,List.replicate_zero,List.append_nil]
 cases evOps (R X.E) X.lim h.length ops ts h with
 | none => rfl
 | some y => rfl
theorem G_region {n : Nat} {ops : List AOper} : G X (.region n ops) k ts h mk = GO X h.length ops k ts (h ++ List.replicate n .tomb) mk:=by
 simp only [G,den,GO]
 cases evOps (R X.E) X.lim h.length ops ts (h ++ List.replicate n .tomb) with
 | none => rfl
 | some y => rfl
theorem GC_true : GC X (.bool true) a b k ts h mk = G X a k ts h mk:=id rfl
theorem GC_false : GC X (.bool false) a b k ts h mk = G X b k ts h mk:=id rfl
theorem GO_nil : GO X base [] k ts h mk = G X .skip k ts h mk:=id rfl
theorem GO_cons {op : AOp} : GO X base (⟨d,op,none,none,[]⟩ :: r) k ts h mk = GX X base (exOp (R X.E) X.lim none (Opd.ev ts) h op) d r k ts mk:=by
 simp only [GO,evOps,stepOp,wanted,if_true,exOper,exMask,GX,Option.map_none]
 cases exOp (R X.E) X.lim none (Opd.ev ts) h op with
 | none => rfl
 | some y => rfl
theorem GO_slot {op : AOp} {sl : Option Nat} {m : List Nat} : GO X base (⟨d,op,none,sl,m⟩ :: r) k ts h mk = GX X base (exOper (R X.E) X.lim base ts h ⟨d,op,none,sl,m⟩) d r k ts mk:=by
 simp only [GO,evOps,stepOp,wanted,if_true,GX]
 cases exOper (R X.E) X.lim base ts h ⟨d,op,none,sl,m⟩ with
 | none => rfl
 | some y => rfl
theorem GO_p {o : POp} {m : List Nat} : GO X base (⟨d,.p o,none,none,[]⟩ :: r) k ts h mk = GP X base (pex (Opd.ev ts) o) d r k ts h mk:=by
 rw [GO_cons]
 simp only [exOp,GX,GP]
 cases pex (Opd.ev ts) o <;> rfl
theorem GO_guard {op : AOp} {t : Nat} {w : Bool} {sl : Option Nat} {m : List Nat} : GO X base (⟨d,op,some (t,w),sl,m⟩ :: r) k ts h mk = GG X base (ts.getD t .undef) w ⟨d,op,none,sl,m⟩ r k ts h mk:=by
 have e : exOper (R X.E) X.lim base ts h ⟨d,op,some (t,w),sl,m⟩ = exOper (R X.E) X.lim base ts h ⟨d,op,none,sl,m⟩:=by
  unfold exOper; rfl
 simp only [GO,evOps,stepOp,wanted,GG,e,if_true,List.getD_eq_getElem?_getD]
 cases ts[t]? with
 | none => rfl
 |
  some v =>
  cases v <;> first | rfl | skip
  rename_i b
  simp only [Option.getD_some]
  by_cases hb : (b == w) = true <;> simp only [hb,if_true,if_false,Bool.false_eq_true] <;> rfl
theorem GG_yes {v : Bool} {o : AOper} : GG X base (.bool v) v o r k ts h mk = GO X base (o :: r) k ts h mk:=by simp [GG]
theorem GG_no1 {op : AOp} {sl : Option Nat} {m : List Nat} {x : Option (Nat × Bool)} : GG X base (.bool false) true ⟨d,op,x,sl,m⟩ r k ts h mk = GO X base r k (putT ts d .undef) h mk:=id rfl
theorem GG_no2 {op : AOp} {sl : Option Nat} {m : List Nat} {x : Option (Nat × Bool)} : GG X base (.bool true) false ⟨d,op,x,sl,m⟩ r k ts h mk = GO X base r k (putT ts d .undef) h mk:=id rfl
theorem GX_some {v : AV} {n : Nat} : GX X base (some (v,h)) (some n) r k ts mk = GO X base r k (ts.set n v) h mk:=id rfl
theorem GX_some0 {v : AV} : GX X base (some (v,h)) none r k ts mk = GO X base r k ts h mk:=id rfl
theorem GX_map {o : Option AV} : GX X base (o.map fun v => (v,h)) d r k ts mk = GP X base o d r k ts h mk:=by cases o <;> rfl
theorem GP_some {v : AV} {n : Nat} : GP X base (some v) (some n) r k ts h mk = GO X base r k (ts.set n v) h mk:=id rfl
theorem putT_some {n : Nat} {v : AV} : putT ts (some n) v = ts.set n v:=id rfl
theorem putT_none {v : AV} : putT ts none v = ts:=id rfl
end
theorem ev_t {ts : List AV} {i : Nat} : Opd.ev ts (.t i) = ts.getD i .undef:=id rfl
theorem ev_c {ts : List AV} {v : AV} : Opd.ev ts (.c v) = v:=id rfl
def Done (lim : Nat) (rs : List ARes) (P : AV → List AO → Prop) (ex : Ex) (s : St) : Prop:=(ex = .nrm ∨ ex = .ret) ∧ ∃ x,finish lim rs s = some x ∧ P x.1 x.2
noncomputable def Iso (E : Env) (f : Nat) (vs : List AV) (st : Bool) : Option AV :=
 match R E (.fn f) vs [] 0 with
 | some (r,h') => view st h' 8 r
 | none => none
noncomputable def Ro (E : Env) (f : Nat) (vs : List AV) (h : List AO) : Option AV :=
 match R E (.fn f) vs h h.length with
 | some (r,_) => if r.under h.length then some r else none
 | none => none
section
variable {E : Env} {lim : Nat} {pl : Option Nat} {ρ : Opd → AV} {h : List AO}
theorem exOp_p {o : POp} : exOp (R E) lim pl ρ h (.p o) = (pex ρ o).map fun v => (v,h):=id rfl
theorem exOp_call1 {f : Nat} {args : List Opd} : exOp (R E) lim pl ρ h (.call 1 f args) =
  match (args.map ρ).mapM (view false h 8) with
  | some vs => (Iso E f vs (!AV.pureV.go (args.map ρ))).map fun v => (v,h)
  | none => none:=by
 simp only [exOp,Iso]
 cases (args.map ρ).mapM (view false h 8) with
 | none => rfl
 |
  some vs =>
  simp only
  cases R E (.fn f) vs [] 0 with
  | none => rfl
  | some y => rfl
theorem exOp_call3 {f : Nat} {args : List Opd} : exOp (R E) lim pl ρ h (.call 3 f args) = (Ro E f (args.map ρ) h).map fun v => (v,h):=by
 simp only [exOp,Ro]
 cases R E (.fn f) (args.map ρ) h h.length with
 | none => rfl
 | some y => simp only; split <;> rfl
theorem exOp_call0 {f : Nat} {args : List Opd} : exOp (R E) lim pl ρ h (.call 0 f args) = R E (.fn f) (args.map ρ) h lim:=id rfl
theorem exOp_callv1 {f : Opd} {args : List Opd} : exOp (R E) lim pl ρ h (.callv true f args) = match ρ f with
  | .fn g first captured => (Ro E g (first ++ args.map ρ ++ captured) h).map fun v => (v,h)
  | _ => none:=by
 simp only [exOp]
 cases hf : ρ f with
 |
  fn g a b =>
  simp only [Ro,if_true]
  cases R E (.fn g) (a ++ List.map ρ args ++ b) h h.length with
  | none => rfl
  | some y => simp only; split <;> rfl
 | _ => rfl
theorem exOp_callv0 {f : Opd} {args : List Opd} : exOp (R E) lim pl ρ h (.callv false f args) = match ρ f with
  | .fn g first captured => R E (.fn g) (first ++ args.map ρ ++ captured) h lim
  | .yld o => R E (.rnd o) (args.map ρ) h lim
  | _ => none:=by
 simp only [exOp]
 cases ρ f <;> rfl
end
section
variable {E : Env} {f : Nat} {fn : AFn}
theorem R_of {vs : List AV} {h : List AO} {lim : Nat} (P : AV → List AO → Prop) (hs : E.spec f vs h lim = none) (hf : E.fn f = some fn)
  (hg : G ⟨E,lim,none,f,Done lim fn.results P⟩ fn.body [] (vs ++ List.replicate (fn.ntmps - vs.length) .undef) h []) : ∃ r h',R E (.fn f) vs h lim = some (r,h') ∧ P r h':=by
 simp only [G,unwO] at hg
 split at hg
 ·rename_i ex s hd
  obtain ⟨hex,x,hx,hp⟩:=hg
  exact ⟨x.1,x.2,R_fn hs hf hd hex hx,hp⟩
 ·exact hg.elim
theorem Iso_of {vs : List AV} {st : Bool} {v : AV} (hs : E.spec f vs [] 0 = none) (hf : E.fn f = some fn)
  (hg : G ⟨E,0,none,f,Done 0 fn.results fun r h' => view st h' 8 r = some v⟩ fn.body [] (vs ++ List.replicate (fn.ntmps - vs.length) .undef) [] []) : Iso E f vs st = some v:=by
 obtain ⟨r,h',h1,h2⟩:=R_of _ hs hf hg
 simp only [Iso,h1,h2]
theorem Ro_of {vs : List AV} {h : List AO} {v : AV} (hs : E.spec f vs h h.length = none) (hf : E.fn f = some fn)
  (hg : G ⟨E,h.length,none,f,Done h.length fn.results fun r h' => r = v ∧ v.under h.length = true⟩ fn.body [] (vs ++ List.replicate (fn.ntmps - vs.length) .undef) h []) : Ro E f vs h = some v:=by
 obtain ⟨r,h',h1,rfl,h2⟩:=R_of _ hs hf hg
 simp only [Ro,h1,h2,if_true]
end
section
variable {X : Cx} {k : List KF} {c : ACode} {ts : List AV} {h : List AO} {mk : List Nat}
theorem lp_unfold {f : St → Option (Ex × St)} {s : St} : lp f s = match f s with
  | some (.nrm,s') => lp f s'
  | r => r:=by
 have key : ∀ x,lp f s = some x ↔ (match f s with | some (.nrm,s') => lp f s' | r => r) = some x:=by
  intro x
  rw [lp_some]
  cases hs : f s with
  |
   none =>
   constructor
   ·rintro ⟨n,hn⟩
    cases n with
    | zero => simp [iter] at hn
    | succ n => simp only [iter,hs] at hn; cases hn
   ·intro hx; cases hx
  |
   some y =>
   obtain ⟨ex,s'⟩:=y
   have fin : ∀ e2,e2 ≠ Ex.nrm → f s = some (e2,s') → ((∃ n,iter f n s = some x) ↔ some (e2,s') = some x):=by
    intro e2 he hs
    constructor
    ·rintro ⟨n,hn⟩
     cases n with
     | zero => simp [iter] at hn
     | succ n => simp only [iter,hs] at hn; cases e2 <;> first | exact absurd rfl he | exact hn
    ·intro hx
     refine ⟨1,?_⟩
     simp only [iter,hs]
     cases e2 <;> first | exact absurd rfl he | exact hx
   cases ex with
   |
    nrm =>
    constructor
    ·rintro ⟨n,hn⟩
     cases n with
     | zero => simp [iter] at hn
     | succ n => simp only [iter,hs] at hn; exact lp_some.2 ⟨n,hn⟩
    ·intro hx
     obtain ⟨n,hn⟩:=lp_some.1 hx
     exact ⟨n + 1,by simp only [iter,hs]; exact hn⟩
   | exit i => exact fin _ (by simp) hs
   | ret => exact fin _ (by simp) hs
 cases h1 : lp f s with
 |
  none =>
  cases h2 : (match f s with | some (.nrm,s') => lp f s' | r => r) with
  | none => rfl
  | some y => have:=(key y).2 h2; rw [h1] at this; cases this
 | some x => exact ((key x).1 h1).symm
theorem G_loop : G X (.loop c) k ts h mk = G X c (.seq (.loop c) :: k) ts h mk:=by
 simp only [G,den]
 rw [lp_unfold]
 cases den X.E X.lim X.rnd X.fid c ⟨ts,h,mk⟩ with
 | none => rfl
 | some y => obtain ⟨ex,s⟩:=y; cases ex <;> rfl
theorem G_loop_ind (I : Nat → List AV → List AO → List Nat → Prop) (step : ∀ n ts h mk,(∀ m ts h mk,m < n → I m ts h mk → G X (.loop c) k ts h mk) → I n ts h mk → G X c (.seq (.loop c) :: k) ts h mk) :
  ∀ n ts h mk,I n ts h mk → G X (.loop c) k ts h mk:=by
 intro n
 induction n using Nat.strongRecOn with
 |
  ind n ih =>
  intro ts h mk hi
  rw [G_loop]
  exact step n ts h mk (fun m ts h mk hm hi => ih m hm ts h mk hi) hi
end
def lit (ts : List AV) : Nat → Nat → List AV
 | _,0 => []
 | i,n + 1 => ts.getD i .undef :: lit ts (i + 1) n
theorem lit_eq : ∀ (n i : Nat) (ts : List AV),ts.length = i + n → ts.drop i = lit ts i n
 | 0,i,ts,h => by simp [lit]; omega
 |
  n + 1,i,ts,h => by
  have hi : i < ts.length:=by omega
  rw [lit,← lit_eq n (i + 1) ts (by omega),List.drop_eq_getElem_cons hi]
  simp [List.getD_eq_getElem?_getD,hi]
theorem lit_all {n : Nat} {ts : List AV} (h : ts.length = n) : ts = lit ts 0 n:=by
 have:=lit_eq n 0 ts (by omega)
 simpa using this
end Go.Am
/-
Slices of typed elements,and what else the runs of code need: by equations.
-/
namespace Go.Am
open Go
set_option linter.unusedVariables false
set_option linter.unusedSimpArgs false
abbrev I (n : Int) : AV:=.int .i64 n
abbrev Bo (b : Bool) : AV:=.bool b
section
variable {st : Bool} {h : List AO} {n : Nat}
theorem view_int {k : IntKind} {i : Int} : view st h n (.int k i) = some (.int k i):=by cases n <;> rfl
theorem view_bool {b : Bool} : view st h n (.bool b) = some (.bool b):=by cases n <;> rfl
theorem view_nils : view st h n .nils = some .nils:=by cases n <;> rfl
theorem view_agg {c : List AV} : view st h (n + 1) (.agg c) = (c.mapM (view st h n)).map .agg:=id rfl
theorem view_tup {c : List AV} : view st h (n + 1) (.tup c) = (c.mapM (view st h n)).map .tup:=id rfl
theorem view_ms {e o f l : Nat} : view st h (n + 1) (.ms e o f l) = match Am.rowOf h (.ms e o f l) with | some x => (x.mapM (view st h n)).map (.cs e l) | none => none:=id rfl
theorem view_fn {f : Nat} : view st h n (.fn f [] []) = some (.fn f [] []):=by cases n <;> rfl
theorem view_cs {e l : Nat} {c : List AV} : view false h n (.cs e l c) = some (.cs e l c):=by cases n <;> rfl
end
section
variable {α : Type} {a b : α} {l : List α} {n : Nat}
theorem set0 : (a :: l).set 0 b = b :: l:=id rfl
theorem setS : (a :: l).set (n + 1) b = a :: l.set n b:=id rfl
theorem get0 : (a :: l).getD 0 b = a:=id rfl
theorem getS : (a :: l).getD (n + 1) b = l.getD n b:=id rfl
theorem at0 : (a :: l)[0]? = some a:=id rfl
theorem atS : (a :: l)[n + 1]? = l[n]?:=id rfl
theorem drop0 : l.drop 0 = l:=id rfl
theorem dropS : (a :: l).drop (n + 1) = l.drop n:=id rfl
theorem dropN : ([] : List α).drop n = []:=by cases n <;> rfl
theorem take0 : l.take 0 = []:=by cases l <;> rfl
theorem takeS : (a :: l).take (n + 1) = a :: l.take n:=id rfl
theorem takeN : ([] : List α).take n = []:=by cases n <;> rfl
theorem apN : [] ++ l = l:=id rfl
theorem apC {m : List α} : (a :: l) ++ m = a :: (l ++ m):=id rfl
theorem len0 : ([] : List α).length = 0:=id rfl
theorem lenS : (a :: l).length = l.length + 1:=id rfl
theorem mapN {β : Type} {f : α → β} : [].map f = []:=id rfl
theorem mapC {β : Type} {f : α → β} : (a :: l).map f = f a :: l.map f:=id rfl
theorem repl0 : List.replicate 0 a = []:=id rfl
theorem replS : List.replicate (n + 1) a = a :: List.replicate n a:=id rfl
theorem head1 : (a :: l).head? = some a:=id rfl
theorem allN {p : α → Bool} : [].all p = true:=id rfl
theorem allC {p : α → Bool} : (a :: l).all p = (p a && l.all p):=id rfl
theorem omapS {β : Type} {f : α → β} : (some a).map f = some (f a):=id rfl
theorem flatN : ([] : List (List α)).flatten = []:=id rfl
theorem flatC {l : List α} {m : List (List α)} : (l :: m).flatten = l ++ m.flatten:=id rfl
theorem atE : (l ++ [a])[l.length]? = some a:=by simp
theorem setE : (l ++ [a]).set l.length b = l ++ [b]:=by simp
theorem atL1 {b0 : α} : (l ++ [a] ++ [b0])[l.length]? = some a:=by simp
theorem setL1 {b0 x : α} : (l ++ [a] ++ [b0]).set l.length x = l ++ [x] ++ [b0]:=by simp
theorem atL2 {b0 b1 : α} : (l ++ [a] ++ [b0] ++ [b1])[l.length]? = some a:=by simp
theorem setL2 {b0 b1 x : α} : (l ++ [a] ++ [b0] ++ [b1]).set l.length x = l ++ [x] ++ [b0] ++ [b1]:=by simp
theorem atL3 {b0 b1 b2 : α} : (l ++ [a] ++ [b0] ++ [b1] ++ [b2])[l.length]? = some a:=by simp
theorem setL3 {b0 b1 b2 x : α} : (l ++ [a] ++ [b0] ++ [b1] ++ [b2]).set l.length x = l ++ [x] ++ [b0] ++ [b1] ++ [b2]:=by simp
theorem atL4 {b0 b1 b2 b3 : α} : (l ++ [a] ++ [b0] ++ [b1] ++ [b2] ++ [b3])[l.length]? = some a:=by simp
theorem setL4 {b0 b1 b2 b3 x : α} : (l ++ [a] ++ [b0] ++ [b1] ++ [b2] ++ [b3]).set l.length x = l ++ [x] ++ [b0] ++ [b1] ++ [b2] ++ [b3]:=by simp
theorem atL5 {b0 b1 b2 b3 b4 : α} : (l ++ [a] ++ [b0] ++ [b1] ++ [b2] ++ [b3] ++ [b4])[l.length]? = some a:=by simp
theorem setL5 {b0 b1 b2 b3 b4 x : α} : (l ++ [a] ++ [b0] ++ [b1] ++ [b2] ++ [b3] ++ [b4]).set l.length x = l ++ [x] ++ [b0] ++ [b1] ++ [b2] ++ [b3] ++ [b4]:=by simp
theorem atL6 {b0 b1 b2 b3 b4 b5 : α} : (l ++ [a] ++ [b0] ++ [b1] ++ [b2] ++ [b3] ++ [b4] ++ [b5])[l.length]? = some a:=by simp
theorem setL6 {b0 b1 b2 b3 b4 b5 x : α} : (l ++ [a] ++ [b0] ++ [b1] ++ [b2] ++ [b3] ++ [b4] ++ [b5]).set l.length x = l ++ [x] ++ [b0] ++ [b1] ++ [b2] ++ [b3] ++ [b4] ++ [b5]:=by simp
theorem setA0 {x : α} {m : List α} : (l ++ (a :: m)).set l.length x = l ++ (x :: m):=by simp
theorem setA1 {x c : α} {m : List α} : (l ++ (a :: c :: m)).set (l.length + 1) x = l ++ (a :: x :: m):=by simp
theorem atA0 {m : List α} : (l ++ (a :: m))[l.length]? = some a:=by simp
theorem atA1 {c : α} {m : List α} : (l ++ (a :: c :: m))[l.length + 1]? = some c:=by simp
theorem lenE {m : List α} : (l ++ m).length = l.length + m.length:=by simp
theorem lit0 {ts : List AV} {i : Nat} : lit ts i 0 = []:=id rfl
theorem litS {ts : List AV} {i k : Nat} : lit ts i (k + 1) = ts.getD i .undef :: lit ts (i + 1) k:=id rfl
end
theorem fin1 {lim i : Nat} {P : AV → List AO → Prop} {ts : List AV} {h : List AO} : Done lim [.tmp i] P .ret ⟨ts,h,[]⟩ = P (ts.getD i .undef) h:=by
 simp [Done,finish,takeMarks,getRes]
theorem fin2 {lim i j : Nat} {P : AV → List AO → Prop} {ts : List AV} {h : List AO} : Done lim [.tmp i,.tmp j] P .ret ⟨ts,h,[]⟩ = P (.tup [ts.getD i .undef,ts.getD j .undef]) h:=by
 simp [Done,finish,takeMarks,getRes]
theorem fin0 {lim : Nat} {P : AV → List AO → Prop} {ts : List AV} {h : List AO} : Done lim [] P .ret ⟨ts,h,[]⟩ = P (.tup []) h:=by
 simp [Done,finish,takeMarks]
theorem fin0n {lim : Nat} {P : AV → List AO → Prop} {ts : List AV} {h : List AO} : Done lim [] P .nrm ⟨ts,h,[]⟩ = P (.tup []) h:=by
 simp [Done,finish,takeMarks]
theorem finC {lim i s : Nat} {a : Bool} {P : AV → List AO → Prop} {ts : List AV} {h : List AO} : Done lim [.cell a s i] P .ret ⟨ts,h,[]⟩ = ∃ v,getRes ts h (.cell a s i) = some v ∧ P v h:=by
 simp only [Done,finish,takeMarks,List.all_nil,if_true,List.mapM_cons,List.mapM_nil,Option.bind_eq_bind,Option.pure_def]
 cases getRes ts h (.cell a s i) <;> simp
theorem finG {lim : Nat} {rs : List ARes} {P : AV → List AO → Prop} {ts : List AV} {h : List AO} {vs : List AV} (hv : rs.mapM (getRes ts h) = some vs) : Done lim rs P .ret ⟨ts,h,[]⟩ = P (match vs with | [v] => v | vs => .tup vs) h:=by
 simp only [Done,finish,takeMarks,List.all_nil,if_true,hv]
 match vs with
 | [] => simp
 | [v] => simp
 | _ :: _ :: _ => simp
theorem wr64 {n : Int} (h1 : -9223372036854775808 ≤ n) (h2 : n ≤ 9223372036854775807) : wr .i64 n = n:=by simp only [wr]; rw [if_pos ⟨h1,h2⟩]
theorem ieq (x y : Int) : (x == y) = decide (x = y):=by rw [Bool.eq_iff_iff]; simp
theorem ine (x y : Int) : (x != y) = !decide (x = y):=by rw [bne,ieq]
theorem scI {k : IntKind} {n : Int} : AV.scalar (.int k n) = true:=id rfl
theorem ceI {k : IntKind} {n : Int} : AV.cells (.int k n) = [.int k n]:=id rfl
theorem scB {b : Bool} : AV.scalar (.bool b) = true:=id rfl
theorem ceB {b : Bool} : AV.cells (.bool b) = [.bool b]:=id rfl
theorem scP {o f : Nat} : AV.scalar (.ptr o f) = true:=id rfl
theorem ceP {o f : Nat} : AV.cells (.ptr o f) = [.ptr o f]:=id rfl
theorem scNp  : AV.scalar (.nilp) = true:=id rfl
theorem ceNp  : AV.cells (.nilp) = [.nilp]:=id rfl
theorem scMs {e o f l : Nat} : AV.scalar (.ms e o f l) = true:=id rfl
theorem ceMs {e o f l : Nat} : AV.cells (.ms e o f l) = [.ms e o f l]:=id rfl
theorem scCs {e l : Nat} {c : List AV} : AV.scalar (.cs e l c) = true:=id rfl
theorem ceCs {e l : Nat} {c : List AV} : AV.cells (.cs e l c) = [.cs e l c]:=id rfl
theorem scNs  : AV.scalar (.nils) = true:=id rfl
theorem ceNs  : AV.cells (.nils) = [.nils]:=id rfl
theorem scCp {c : List AV} : AV.scalar (.cptr c) = true:=id rfl
theorem ceCp {c : List AV} : AV.cells (.cptr c) = [.cptr c]:=id rfl
theorem scFn {f : Nat} {a b : List AV} : AV.scalar (.fn f a b) = true:=id rfl
theorem ceFn {f : Nat} {a b : List AV} : AV.cells (.fn f a b) = [.fn f a b]:=id rfl
theorem ceAgg {c : List AV} : AV.cells (.agg c) = c:=id rfl
def lenV : AV → Option AV
 | .nils => some (.int .i64 0)
 | .cs _ len _ => some (.int .i64 len)
 | .ms _ _ _ len => some (.int .i64 len)
 | .mr _ _ _ len _ => some (.int .i64 len)
 | _ => none
theorem lenV_nils : lenV .nils = some (I 0):=id rfl
theorem lenV_cs {e l : Nat} {c : List AV} : lenV (.cs e l c) = some (I l):=id rfl
theorem lenV_ms {e o f l : Nat} : lenV (.ms e o f l) = some (I l):=id rfl
theorem lenV_mr {e o f l r : Nat} : lenV (.mr e o f l r) = some (I l):=id rfl
theorem elemAt_ms {e o f l : Nat} {k : IntKind} {i : Int} (h0 : 0 ≤ i) (h1 : i < l) : elemAt e (.ms e o f l) (.int k i) = some (.ptr o (f + i.toNat * e)):=by
 simp only [elemAt,h0,h1,and_self,if_true]
theorem elemAt_mr {e o f l r : Nat} {k : IntKind} {i : Int} (h0 : 0 ≤ i) (h1 : i < l) : elemAt e (.mr e o f l r) (.int k i) = some (.ptr o (f + i.toNat * e)):=by
 simp only [elemAt,h0,h1,and_self,if_true]
section
variable {ρ : Opd → AV}
theorem pex_lenS {x : Opd} : pex ρ (.lenS x) = lenV (ρ x):=by simp only [pex,lenV]; cases ρ x <;> rfl
theorem pex_idxSl {e : Nat} {x i : Opd} : pex ρ (.idxSl e x i) = elemAt e (ρ x) (ρ i):=id rfl
theorem pex_move {x : Opd} : pex ρ (.move x) = some (ρ x):=id rfl
theorem pex_pick {c a b : Opd} : pex ρ (.pick c a b) = match ρ c with | .bool t => some (if t then ρ a else ρ b) | _ => none:=id rfl
theorem pex_build {z : List AV} {ps : List (Nat × Nat × Opd)} : pex ρ (.build z ps) = (fillL z (ps.map fun (o,s,x) => (o,s,ρ x))).map .agg:=id rfl
def shI (op : BinOp) (k : IntKind) (a b : Int) : Option AV:=if isSh op = true then binI op k a b else none
theorem pex_bin {op : BinOp} {x y : Opd} : pex ρ (.bin op x y) = match ρ x,ρ y with | .int k a,.int k' b => if k = k' then binI op k a b else shI op k a b | _,_ => none:=by
 simp only [pex]
 have key : ∀ (k k' : IntKind) (a b : Int),(if k = k' ∨ isSh op = true then binI op k a b else none) = if k = k' then binI op k a b else shI op k a b:=by
  intro k k' a b
  by_cases h : k = k'
  ·rw [if_pos (.inl h),if_pos h]
  ·rw [if_neg h]; unfold shI
   by_cases h3 : isSh op = true
   ·rw [if_pos (.inr h3),if_pos h3]
   ·rw [if_neg (fun hn => hn.elim h h3),if_neg h3]
 cases ρ x <;> cases ρ y <;> first | rfl | exact key _ _ _ _
theorem pex_eqB {neg : Bool} {x y : Opd} : pex ρ (.eqB neg x y) = match ρ x,ρ y with | .bool a,.bool b => some (.bool (if neg then !(a == b) else a == b)) | _,_ => none:=id rfl
theorem pex_eqS {neg : Bool} {ks : List Bool} {x y : Opd} : pex ρ (.eqS neg ks x y) = match ρ x,ρ y with | .agg a,.agg b => (eqCells ks a b).map fun e => .bool (if neg then !e else e) | _,_ => none:=id rfl
theorem pex_not {x : Opd} : pex ρ (.un .not x) = match ρ x with | .bool b => some (.bool !b) | _ => none:=by simp only [pex]; cases ρ x <;> rfl
theorem pex_neg {x : Opd} : pex ρ (.un .neg x) = match ρ x with | .int k n => some (.int k (wr k (0 - n))) | _ => none:=by simp only [pex]; cases ρ x <;> rfl
theorem pex_conv {k : IntKind} {x : Opd} : pex ρ (.conv k x) = match ρ x with | .int _ n => some (.int k (wr k n)) | _ => none:=id rfl
theorem pex_mkFn {f : Nat} {a b : List Opd} : pex ρ (.mkFn f a b) = some (.fn f (a.map ρ) (b.map ρ)):=id rfl
theorem pex_slice3 {e : Nat} {x hi mx : Opd} : pex ρ (.slice3 e x hi mx) = slice3V e (ρ x) (ρ hi) (ρ mx):=id rfl
theorem slice3_ms {e o f l : Nat} {k k' : IntKind} : slice3V e (.ms e o f l) (.int k l) (.int k' l) = some (.mc e o f l):=by
 simp only [slice3V,and_self,if_true]
theorem pex_slice {e : Nat} {x : Opd} {lo hi : Option Opd} : pex ρ (.slice e x lo hi) = sliceV e (ρ x) (lo.map ρ) (hi.map ρ):=id rfl
theorem pex_fieldAddr {o : Nat} {x : Opd} : pex ρ (.fieldAddr o x) = addOff (ρ x) o:=id rfl
theorem pex_field {a : Bool} {o s : Nat} {x : Opd} : pex ρ (.field a o s x) = match ρ x with | .agg c => part a s (c.drop o) | _ => none:=id rfl
theorem pex_idxArr {l e : Nat} {x i : Opd} : pex ρ (.idxArr l e x i) = match ρ i with | .int _ n => if 0 ≤ n ∧ n < l then addOff (ρ x) (n.toNat * e) else none | _ => none:=id rfl
theorem pex_idx {a : Bool} {l e : Nat} {x i : Opd} : pex ρ (.idx a l e x i) = match ρ x,ρ i with | .agg c,.int _ n => if 0 ≤ n ∧ n < l then part a e (c.drop (n.toNat * e)) else none | _,_ => none:=id rfl
theorem pex_extract {x : Opd} {i : Nat} : pex ρ (.extract x i) = match ρ x with | .tup vs => vs[i]? | _ => none:=id rfl
theorem pex_lenA {n : Nat} : pex ρ (.lenA n) = some (.int .i64 n):=id rfl
theorem pex_minmax {m : Bool} {x : Opd} {xs : List Opd} : pex ρ (.minmax m x xs) = mmAll m (ρ x) (xs.map ρ):=id rfl
end
section
variable {call : Callee} {lim : Nat} {pl : Option Nat} {ρ : Opd → AV} {h : List AO}
def loadV (h : List AO) (agg : Bool) (size : Nat) : AV → Option AV
 |
  .ptr o off => match Am.rowAt h o with
  | some c => Am.part agg size (c.drop off)
  | none => none
 | .cptr c => Am.part agg size c
 | _ => none
theorem exOp_load {agg : Bool} {size : Nat} {a : Opd} : exOp call lim pl ρ h (.load agg size a) = (loadV h agg size (ρ a)).map fun v => (v,h):=by
 simp only [exOp,loadV]
 cases ρ a with
 | ptr o off => simp only; cases Am.rowAt h o <;> rfl
 | _ => rfl
def storeV (lim : Nat) (h : List AO) (size : Nat) (x : AV) : AV → Option (AV × List AO)
 |
  .ptr o off => match h[o]? with
  |
   some (.cells c false) =>
   if x.cells.length = size ∧ off + size ≤ c.length ∧ x.cells.all AV.scalar ∧ lim ≤ o then some (.undef,h.set o (.cells (splice c off x.cells) false)) else none
  | _ => none
 | _ => none
theorem exOp_store {size : Nat} {a x : Opd} : exOp call lim pl ρ h (.store size a x) = storeV lim h size (ρ x) (ρ a):=by
 simp only [exOp,storeV]
 cases ρ a <;> rfl
theorem exOp_loadR {agg : Bool} {size r : Nat} {a : Opd} : exOp call lim pl ρ h (.loadR agg size a r) = ((match ρ a with | .ptr o off => if objIs o (ρ (.t r)) then loadV h agg size (.ptr o off) else none | _ => none)).map fun v => (v,h):=by
 simp only [exOp,loadV]
 cases ρ a with
 |
  ptr o off =>
  simp only
  split
  ·cases Am.rowAt h o <;> rfl
  ·rfl
 | _ => rfl
theorem exOp_storeR {size : Nat} {a x : Opd} {rs : List Nat} : exOp call lim pl ρ h (.storeR size a x rs) = match ρ a with | .ptr o off => if rs.all (fun r => objNot o (ρ (.t r))) then storeV lim h size (ρ x) (.ptr o off) else none | _ => none:=by
 simp only [exOp,storeV]
 cases ρ a <;> rfl
theorem exOp_alloc {z : List AV} : exOp call lim none ρ h (.alloc z) = some (.ptr h.length 0,h ++ [.cells z false]):=id rfl
theorem exOp_box {x : Opd} : exOp call lim none ρ h (.box x) = some (.ptr h.length 0,h ++ [.cells (ρ x).cells false]):=id rfl
theorem exOp_litS {esz len : Nat} {z : List AV} {ps : List (Nat × Opd)} : exOp call lim pl ρ h (.litS esz len z ps) =
  match fillL (zeros len z) (ps.map fun (i,x) => (i * esz,esz,ρ x)) with
  | some c => if AV.pureV.go c then some (.cs esz len c,h) else none
  | none => none:=id rfl
theorem pgN : AV.pureV.go [] = true:=id rfl
theorem pgC {a : AV} {l : List AV} : AV.pureV.go (a :: l) = (a.pureV && AV.pureV.go l):=id rfl
theorem pvI {k : IntKind} {n : Int} : (AV.int k n).pureV = true:=id rfl
theorem pvB {b : Bool} : (AV.bool b).pureV = true:=id rfl
theorem pvCs {e l : Nat} {c : List AV} : (AV.cs e l c).pureV = true:=id rfl
theorem pvNs : AV.nils.pureV = true:=id rfl
theorem pvAgg {c : List AV} : (AV.agg c).pureV = AV.pureV.go c:=id rfl
theorem pvMs {e o f l : Nat} : (AV.ms e o f l).pureV = false:=id rfl
theorem pvMr {e o f l r : Nat} : (AV.mr e o f l r).pureV = false:=id rfl
theorem exOp_buildSlice {esz len : Nat} {z : List AV} {ps : List (Nat × Opd)} : exOp call lim none ρ h (.buildSlice esz len z ps) =
  (fillL (zeros len z) (ps.map fun (i,x) => (i * esz,esz,ρ x))).map fun c => (.ms esz h.length 0 len,h ++ [.cells c false]):=rfl
end
section
variable {h : List AO}
theorem rowOf_nils : Am.rowOf h .nils = some []:=id rfl
theorem rowOf_cs {e l : Nat} {c : List AV} : Am.rowOf h (.cs e l c) = some c:=id rfl
theorem rowOf_ms {e o f l : Nat} : Am.rowOf h (.ms e o f l) = match Am.rowAt h o with
  | some c => if ((c.drop f).take (l * e)).length = l * e then some ((c.drop f).take (l * e)) else none
  | none => none:=id rfl
theorem lenOf_nils : lenOf .nils = some 0:=id rfl
theorem lenOf_cs {e l : Nat} {c : List AV} : lenOf (.cs e l c) = some l:=id rfl
theorem lenOf_ms {e o f l : Nat} : lenOf (.ms e o f l) = some l:=id rfl
theorem lenOf_mr {e o f l r : Nat} : lenOf (.mr e o f l r) = some l:=id rfl
theorem rowOf_mr {e o f l r : Nat} : Am.rowOf h (.mr e o f l r) = match Am.rowAt h o with
  | some c => if ((c.drop f).take (l * e)).length = l * e then some ((c.drop f).take (l * e)) else none
  | none => none:=id rfl
theorem scMr {e o f l r : Nat} : AV.scalar (.mr e o f l r) = true:=id rfl
theorem ceMr {e o f l r : Nat} : AV.cells (.mr e o f l r) = [.mr e o f l r]:=id rfl
theorem view_mr {st : Bool} {n e o f l r : Nat} : view st h (n + 1) (.mr e o f l r) = match Am.rowOf h (.mr e o f l r) with | some x => (x.mapM (view st h n)).map (.cs e l) | none => none:=id rfl
theorem hideN {b : Nat} : hide b [] h = h:=id rfl
theorem hideC {b s : Nat} {r : List Nat} : hide b (s :: r) h = (hide b r h).set (b + s) .tomb:=id rfl
theorem eqI1 {a b : Int} : eqCells [true] [I a] [I b] = some (decide (a = b)):=by
 simp only [eqCells,if_true]; by_cases h : a = b <;> simp [h]
theorem eqI2 {a b c d : Int} : eqCells [true,true] [I a,I b] [I c,I d] = some (decide (a = c) && decide (b = d)):=by
 simp only [eqCells,if_true]; by_cases h : a = c <;> by_cases h' : b = d <;> simp [h,h']
theorem eqI3 {a b c a' b' c' : Int} : eqCells [true,true,true] [I a,I b,I c] [I a',I b',I c'] = some (decide (a = a') && decide (b = b') && decide (c = c')):=by
 simp only [eqCells,if_true]; by_cases h : a = a' <;> by_cases h' : b = b' <;> by_cases h'' : c = c' <;> simp [h,h',h'']
theorem eqI4 {a b c d a' b' c' d' : Int} : eqCells [true,true,true,true] [I a,I b,I c,I d] [I a',I b',I c',I d'] = some (decide (a = a') && decide (b = b') && decide (c = c') && decide (d = d')):=by
 simp only [eqCells,if_true]; by_cases h : a = a' <;> by_cases h' : b = b' <;> by_cases h'' : c = c' <;> by_cases h3 : d = d' <;> simp [h,h',h'',h3]
theorem eqI5 {a b c d e a' b' c' d' e' : Int} : eqCells [true,true,true,true,true] [I a,I b,I c,I d,I e] [I a',I b',I c',I d',I e'] = some (decide (a = a') && decide (b = b') && decide (c = c') && decide (d = d') && decide (e = e')):=by
 simp only [eqCells,if_true]; by_cases h : a = a' <;> by_cases h' : b = b' <;> by_cases h'' : c = c' <;> by_cases h3 : d = d' <;> by_cases h4 : e = e' <;> simp [h,h',h'',h3,h4]
end
section
variable {X : Cx} {base : Nat} {k : List KF} {ts : List AV} {h : List AO} {mk : List Nat} {r : List AOper} {d : Option Nat}
theorem GO_maskR {op : AOp} {m : List Nat} {v : Option AV} (hv : exOp (R X.E) X.lim none (Opd.ev ts) (hide base m h) op = v.map fun v => (v,hide base m h)) : GO X base (⟨d,op,none,none,m⟩ :: r) k ts h mk = GP X base v d r k ts h mk:=by
 rw [GO_slot]
 have e : exOper (R X.E) X.lim base ts h ⟨d,op,none,none,m⟩ = v.map fun v => (v,h):=by
  unfold exOper
  split
  ·rename_i h1 h2; cases h1
  ·rename_i h1 h2; cases h1
  ·simp only [Option.map_none,exMask_eq,hv,Option.map_map]
   congr 1
   funext v
   simp only [Function.comp,unhide_hide]
 rw [e,GX_map]
theorem GO_mload {a : Bool} {s : Nat} {x : Opd} {m : List Nat} : GO X base (⟨d,.load a s x,none,none,m⟩ :: r) k ts h mk = GP X base (loadV (hide base m h) a s (x.ev ts)) d r k ts h mk:=GO_maskR exOp_load
theorem GO_mcall1 {f : Nat} {args : List Opd} {m : List Nat} : GO X base (⟨d,.call 1 f args,none,none,m⟩ :: r) k ts h mk =
  GP X base (match (args.map (Opd.ev ts)).mapM (view false (hide base m h) 8) with
   | some vs => Iso X.E f vs (!AV.pureV.go (args.map (Opd.ev ts)))
   | none => none) d r k ts h mk:=GO_maskR (by
 rw [exOp_call1]
 cases (args.map (Opd.ev ts)).mapM (view false (hide base m h) 8) <;> rfl)
theorem GO_mcall3 {f : Nat} {args : List Opd} {m : List Nat} : GO X base (⟨d,.call 3 f args,none,none,m⟩ :: r) k ts h mk = GP X base (Ro X.E f (args.map (Opd.ev ts)) (hide base m h)) d r k ts h mk:=GO_maskR exOp_call3
theorem GO_salloc {z : List AV} {s : Nat} : GO X base (⟨d,.alloc z,none,some s,[]⟩ :: r) k ts h mk = GO X base r k (putT ts d (.ptr (base + s) 0)) (h.set (base + s) (.cells z false)) mk:=by
 rw [GO_slot]; rfl
theorem GO_sbox {x : Opd} {s : Nat} : GO X base (⟨d,.box x,none,some s,[]⟩ :: r) k ts h mk = GO X base r k (putT ts d (.ptr (base + s) 0)) (h.set (base + s) (.cells (x.ev ts).cells false)) mk:=by
 rw [GO_slot]; rfl
theorem GO_sbuild {e l : Nat} {z : List AV} {ps : List (Nat × Opd)} {s : Nat} : GO X base (⟨d,.buildSlice e l z ps,none,some s,[]⟩ :: r) k ts h mk =
  GX X base ((fillL (zeros l z) (ps.map fun (i,x) => (i * e,e,Opd.ev ts x))).map fun c => (.ms e (base + s) 0 l,h.set (base + s) (.cells c false))) d r k ts mk:=by
 rw [GO_slot]; rfl
theorem GO_sstore {n : Nat} {a x : Opd} {s : Nat} {m : List Nat} : GO X base (⟨d,.store n a x,none,some s,m⟩ :: r) k ts h mk =
  GX X base (match Opd.ev ts a with | .ptr p _ => if p = base + s then storeV X.lim h n (Opd.ev ts x) (Opd.ev ts a) else none | _ => none) d r k ts mk:=by
 rw [GO_slot]
 simp only [exOper]
 congr 1
end
def IsSl {α : Type} (esz : Nat) (enc : α → List AV) (l : List α) (v : AV) : Prop:=v = .cs esz l.length (l.flatMap enc) ∨ (v = .nils ∧ l = [])
section
variable {α : Type} {esz : Nat} {enc : α → List AV} {l : List α} {v : AV}
theorem flat_len (he : ∀ a,(enc a).length = esz) : ∀ l : List α,(l.flatMap enc).length = l.length * esz
 | [] => by simp
 | a :: l => by simp only [List.flatMap_cons,List.length_append,he,flat_len he l,List.length_cons,Nat.succ_mul]; omega
theorem flat_at (he : ∀ a,(enc a).length = esz) : ∀ (l : List α) (i : Nat) (h : i < l.length),((l.flatMap enc).drop (i * esz)).take esz = enc l[i]
 | [],i,h => by simp at h
 | a :: l,0,h => by simp [List.take_append_of_le_length,he]
 |
  a :: l,i + 1,h => by
  have h' : i < l.length:=by simpa using h
  simp only [List.flatMap_cons,List.getElem_cons_succ]
  rw [← flat_at he l i h',show (i + 1) * esz = (enc a).length + i * esz by rw [he,Nat.succ_mul]; omega,List.drop_append,List.drop_eq_nil_of_le (by omega)]
  simp
theorem lenV_sl (h : IsSl esz enc l v) : lenV v = some (I l.length):=by
 rcases h with rfl | ⟨rfl,rfl⟩ <;> rfl
theorem elem_sl [Inhabited α] (he : ∀ a,(enc a).length = esz) (h : IsSl esz enc l v) : ∀ i : Int,0 ≤ i → i < l.length → elemAt esz v (I i) = some (.cptr (enc (l.getD i.toNat default))):=by
 intro i h0 h1
 rcases h with rfl | ⟨rfl,rfl⟩
 ·have hi : i.toNat < l.length:=by omega
  simp only [elemAt,h0,h1,and_self,if_true,flat_at he l i.toNat hi,List.getD_eq_getElem?_getD,List.getElem?_eq_getElem hi,Option.getD_some]
 ·simp at h1; omega
theorem view_sl (h : IsSl esz enc l v) : ∀ (g : List AO) (n : Nat),view false g n v = some v:=by
 rcases h with rfl | ⟨rfl,rfl⟩ <;> intro g n <;> cases n <;> rfl
theorem pure_sl (h : IsSl esz enc l v) : v.pureV = true:=by
 rcases h with rfl | ⟨rfl,rfl⟩ <;> rfl
theorem scalar_sl (h : IsSl esz enc l v) : v.scalar = true:=by
 rcases h with rfl | ⟨rfl,rfl⟩ <;> rfl
theorem cells_sl (h : IsSl esz enc l v) : v.cells = [v]:=by
 rcases h with rfl | ⟨rfl,rfl⟩ <;> rfl
theorem lenOf_sl (h : IsSl esz enc l v) : lenOf v = some l.length:=by
 rcases h with rfl | ⟨rfl,rfl⟩ <;> rfl
theorem rowOf_sl (h : IsSl esz enc l v) : ∀ g : List AO,rowOf g v = some (l.flatMap enc):=by
 rcases h with rfl | ⟨rfl,rfl⟩ <;> intro g <;> simp [rowOf]
theorem scal_sl (hs : ∀ a,(enc a).all AV.scalar = true) : ∀ l : List α,(l.flatMap enc).all AV.scalar = true
 | [] => rfl
 | a :: l => by rw [List.flatMap_cons,List.all_append,hs,scal_sl hs l]; rfl
end
def appV (lim : Nat) (h : List AO) (esz eb : Nat) (s x : AV) : Option (AV × List AO) :=
 match lenOf s,lenOf x,Am.rowOf h x with
 |
  some sl,some n,some xs =>
  if xs.length = n * esz then
   if n = 0 then some (s,h) else
   if (sl + n) * eb ≤ 140737488355328 ∧ 1 ≤ eb ∧ xs.all AV.scalar then
    match s with
    | .nils => some (.ms esz h.length 0 n,h ++ [.cells xs false])
    |
     .ms e o off len =>
     match h[o]? with
     |
      some (.cells c sh) =>
      if e = esz ∧ off = 0 ∧ lim ≤ o ∧ (len * esz = c.length ∨ (sh = false ∧ len * esz ≤ c.length)) then
       some (.ms esz h.length 0 (len + n),h.set o .tomb ++ [.cells (c.take (len * esz) ++ xs) sh])
      else none
     | _ => none
    |
     .mc e o off len =>
     match Am.rowAt h o with
     | some c => if e = esz ∧ off = 0 ∧ len * esz ≤ c.length then some (.ms esz h.length 0 (len + n),h ++ [.cells (c.take (len * esz) ++ xs) false]) else none
     | none => none
    | _ => none
   else none
  else none
 | _,_,_ => none
section
variable {call : Callee} {lim : Nat} {ρ : Opd → AV} {h : List AO}
theorem exOp_append {esz eb : Nat} {s x : Opd} : exOp call lim none ρ h (.append false esz eb s x) = appV lim h esz eb (ρ s) (ρ x):=by
 simp only [exOp,appV,newAt,newObj',Bool.false_eq_true,if_false,Bool.false_and,Bool.false_or,true_and,Option.getD_none]
 cases lenOf (ρ s) <;> rfl
theorem appV_ms {esz eb o len n : Nat} {x : AV} {c xs : List AV} {sh : Bool} (ho : h[o]? = some (.cells c sh)) (hlen : len * esz = c.length) (hx : lenOf x = some n) (hr : Am.rowOf h x = some xs) (hxl : xs.length = n * esz)
  (hs : xs.all AV.scalar = true) (hb : (len + n) * eb ≤ 140737488355328) (heb : 1 ≤ eb) (hl : lim ≤ o) : appV lim h esz eb (.ms esz o 0 len) x = if n = 0 then some (.ms esz o 0 len,h) else some (.ms esz h.length 0 (len + n),h.set o .tomb ++ [.cells (c ++ xs) sh]):=by
 simp only [appV,lenOf_ms,hx,hr,hxl,hs,hb,heb,ho,hl,hlen,if_true,true_and,and_self,true_or,List.take_length]
theorem lenOf_mc {e o f l : Nat} : lenOf (.mc e o f l) = some l:=id rfl
theorem appV_mc {esz eb o len n : Nat} {x : AV} {c xs : List AV} (ho : Am.rowAt h o = some c) (hlen : len * esz ≤ c.length) (hx : lenOf x = some n) (hr : Am.rowOf h x = some xs) (hxl : xs.length = n * esz)
  (hs : xs.all AV.scalar = true) (hb : (len + n) * eb ≤ 140737488355328) (heb : 1 ≤ eb) : appV lim h esz eb (.mc esz o 0 len) x = if n = 0 then some (.mc esz o 0 len,h) else some (.ms esz h.length 0 (len + n),h ++ [.cells (c.take (len * esz) ++ xs) false]):=by
 simp only [appV,lenOf_mc,hx,hr,hxl,hs,hb,heb,ho,hlen,if_true,true_and,and_self]
theorem appV_nil {esz eb n : Nat} {x : AV} {xs : List AV} (hx : lenOf x = some n) (hr : Am.rowOf h x = some xs) (hxl : xs.length = n * esz)
  (hs : xs.all AV.scalar = true) (hb : n * eb ≤ 140737488355328) (heb : 1 ≤ eb) : appV lim h esz eb .nils x = if n = 0 then some (.nils,h) else some (.ms esz h.length 0 n,h ++ [.cells xs false]):=by
 simp only [appV,lenOf_nils,hx,hr,hxl,hs,Nat.zero_add,hb,heb,if_true,true_and,and_self,true_or,Nat.zero_add]
end
def wApp (lim : Nat) (h : List AO) (esz : Nat) (s x : AV) : Option (AV × List AO) :=
 match s,lenOf x,Am.rowOf h x with
 |
  .mr e o off len room,some n,some xs =>
  if e = esz ∧ off = 0 ∧ xs.length = n * esz ∧ len + n ≤ room then
   if n = 0 then some (s,h) else (putR lim h o (off + len * esz) xs).map fun h' => (.mr esz o off (len + n) room,h')
  else none
 | _,_,_ => none
def wCpy (lim : Nat) (h : List AO) (esz : Nat) (d x : AV) : Option (AV × List AO) :=
 match lenOf d,lenOf x,Am.rowOf h x with
 |
  some k,some n,some xs =>
  if xs.length = n * esz then
   if min n k = 0 then some (.int .i64 0,h) else
   match destOf d with
   | some (e,o,off,_) => if e = esz then (putR lim h o off (xs.take (min n k * esz))).map fun h' => (.int .i64 (min n k),h') else none
   | none => none
  else none
 | _,_,_ => none
def wClr (lim : Nat) (h : List AO) (esz : Nat) (zero : List AV) (x : AV) : Option (AV × List AO) :=
 match lenOf x with
 |
  some k => if k = 0 then some (.undef,h) else
  match destOf x with
  | some (e,o,off,_) => if e = esz then (putR lim h o off (zeros k zero)).map fun h' => (.undef,h') else none
  | none => none
 | none => none
section
variable {call : Callee} {lim : Nat} {pl : Option Nat} {ρ : Opd → AV} {h : List AO}
theorem exOp_wApp {e : Nat} {s x : Opd} : exOp call lim pl ρ h (.w (.app e s x none)) = wApp lim h e (ρ s) (ρ x):=by
 simp only [exOp,wex,wApp,optIs,and_true]
 cases ρ s <;> cases lenOf (ρ x) <;> cases Am.rowOf h (ρ x) <;> rfl
theorem exOp_loadN {agg : Bool} {size : Nat} {a : Opd} {rs : List Nat} : exOp call lim pl ρ h (.loadN agg size a rs) = (match ρ a with | .ptr o off => if rs.all (fun r => objNotA o (ρ (.t r))) then loadV h agg size (.ptr o off) else none | .cptr c => Am.part agg size c | _ => none).map fun v => (v,h):=by
 simp only [exOp,loadV]
 cases ρ a with
 |
  ptr o off =>
  simp only
  split
  ·cases Am.rowAt h o <;> rfl
  ·rfl
 | _ => rfl
theorem exOp_wCpy {e : Nat} {s x : Opd} : exOp call lim pl ρ h (.w (.cpy e s x)) = wCpy lim h e (ρ s) (ρ x):=id rfl
theorem exOp_wClr {e : Nat} {z : List AV} {x : Opd} : exOp call lim pl ρ h (.w (.clr e z x)) = wClr lim h e z (ρ x):=id rfl
theorem exOp_makeR {e eb : Nat} {z : List AV} {l c : Opd} : exOp call lim none ρ h (.makeSlice true e eb z l c) = match ρ l,ρ c with
  | .int _ l,.int _ c => if 0 ≤ l ∧ l ≤ c ∧ eb * c ≤ 140737488355328 ∧ 1 ≤ eb then some (.mr e h.length 0 l.toNat c.toNat,h ++ [.cells (zeros c.toNat z) false]) else none
  | _,_ => none:=id rfl
theorem putR_ok {o off : Nat} {c xs : List AV} (ho : h[o]? = some (.cells c false)) (hf : off + xs.length ≤ c.length) (hl : lim ≤ o) (hs : xs.all AV.scalar = true) : putR lim h o off xs = some (h.set o (.cells (splice c off xs) false)):=by
 simp only [putR,ho,hf,hl,hs,and_self,if_true]
end
end Go.Am
/-
The equations by which code is run,bound together.
-/
namespace Go.Am
open Go
section
variable {α β : Type} {a d : α} {l : List α}
theorem obS {f : α → Option β} : (some a).bind f = f a:=id rfl
theorem omN {f : α → β} : (none : Option α).map f = none:=id rfl
theorem ogN : (none : Option α).getD d = d:=id rfl
theorem ogS : (some a).getD d = a:=id rfl
theorem apNil : l ++ [] = l:=List.append_nil l
end
theorem mapMN {α β : Type} {f : α → Option β} : [].mapM f = some []:=id rfl
theorem mapMC {α β : Type} {f : α → Option β} {a : α} {l : List α} : (a :: l).mapM f = (f a).bind fun b => (l.mapM f).map (b :: ·):=by
 simp only [List.mapM_cons,Option.bind_eq_bind,Option.pure_def]
 cases f a with
 | none => rfl
 | some b => cases l.mapM f <;> rfl
theorem ru : type_of% (And.intro (And.intro (And.intro (And.intro (And.intro (And.intro (And.intro (@G_seq) (And.intro (@G_skip_seq) (@G_skip_block))) (And.intro (@G_ret_nil) (And.intro (@G_ret_seq) (@G_ret_block)))) (And.intro (And.intro (@G_exit_seq) (And.intro (@G_exit_same) (@G_exit_block))) (And.intro (@G_block) (And.intro (@G_scope) (@G_cond))))) (And.intro (And.intro (And.intro (@G_region0) (And.intro (@G_region) (@GC_true))) (And.intro (@GC_false) (And.intro (@GO_nil) (@GO_guard)))) (And.intro (And.intro (@GO_p) (And.intro (@GO_cons) (@GG_yes))) (And.intro (@GG_no1) (And.intro (@GG_no2) (@GX_some)))))) (And.intro (And.intro (And.intro (And.intro (@GX_some0) (And.intro (@GX_map) (@GP_some))) (And.intro (@putT_some) (And.intro (@putT_none) (@ev_t)))) (And.intro (And.intro (@ev_c) (And.intro (@pex_lenS) (@pex_idxSl))) (And.intro (@pex_move) (And.intro (@pex_pick) (@pex_build))))) (And.intro (And.intro (And.intro (@pex_bin) (And.intro (@pex_eqB) (@pex_eqS))) (And.intro (@pex_not) (And.intro (@pex_neg) (@pex_conv)))) (And.intro (And.intro (@pex_mkFn) (And.intro (@pex_slice) (@pex_fieldAddr))) (And.intro (And.intro (@pex_field) (@pex_idxArr)) (And.intro (@pex_idx) (@pex_extract))))))) (And.intro (And.intro (And.intro (And.intro (And.intro (@pex_lenA) (And.intro (@pex_minmax) (@ieq))) (And.intro (@ine) (And.intro (@wr64) (@lenV_nils)))) (And.intro (And.intro (@lenV_cs) (And.intro (@lenV_ms) (@elemAt_ms))) (And.intro (@exOp_call1) (And.intro (@exOp_call3) (@exOp_callv1))))) (And.intro (And.intro (And.intro (@exOp_p) (And.intro (@exOp_load) (@exOp_store))) (And.intro (@exOp_alloc) (And.intro (@exOp_box) (@exOp_buildSlice)))) (And.intro (And.intro (@exOp_append) (And.intro (@scI) (@ceI))) (And.intro (And.intro (@scB) (@ceB)) (And.intro (@scP) (@ceP)))))) (And.intro (And.intro (And.intro (And.intro (@scNp) (And.intro (@ceNp) (@scMs))) (And.intro (@ceMs) (And.intro (@scCs) (@ceCs)))) (And.intro (And.intro (@scNs) (And.intro (@ceNs) (@scCp))) (And.intro (@ceCp) (And.intro (@scFn) (@ceFn))))) (And.intro (And.intro (And.intro (@ceAgg) (And.intro (@set0) (@setS))) (And.intro (@get0) (And.intro (@getS) (@mapN)))) (And.intro (And.intro (@mapC) (And.intro (@view_int) (@view_bool))) (And.intro (And.intro (@view_agg) (@view_tup)) (And.intro (@view_nils) (@view_fn)))))))) (And.intro (And.intro (And.intro (And.intro (And.intro (And.intro (@view_cs) (And.intro (@view_ms) (@rowOf_nils))) (And.intro (@rowOf_cs) (And.intro (@rowOf_ms) (@lenOf_nils)))) (And.intro (And.intro (@lenOf_cs) (And.intro (@lenOf_ms) (@hideN))) (And.intro (@hideC) (And.intro (@eqI1) (@eqI2))))) (And.intro (And.intro (And.intro (@eqI3) (And.intro (@eqI4) (@eqI5))) (And.intro (@GO_mload) (And.intro (@GO_mcall1) (@GO_mcall3)))) (And.intro (And.intro (@GO_salloc) (And.intro (@GO_sbox) (@GO_sbuild))) (And.intro (@GO_sstore) (And.intro (@obS) (@omapS)))))) (And.intro (And.intro (And.intro (And.intro (@omN) (And.intro (@len0) (@lenS))) (And.intro (@at0) (And.intro (@atS) (@drop0)))) (And.intro (And.intro (@dropS) (And.intro (@dropN) (@take0))) (And.intro (@takeS) (And.intro (@takeN) (@head1))))) (And.intro (And.intro (And.intro (@apN) (And.intro (@apC) (@flatN))) (And.intro (@flatC) (And.intro (@atE) (@setE)))) (And.intro (And.intro (@atL1) (And.intro (@atL2) (@atL3))) (And.intro (And.intro (@atL4) (@atL5)) (And.intro (@atL6) (@setL1))))))) (And.intro (And.intro (And.intro (And.intro (And.intro (@setL2) (And.intro (@setL3) (@setL4))) (And.intro (@setL5) (And.intro (@setL6) (@Nat.zero_le)))) (And.intro (And.intro (@apNil) (And.intro (@allN) (@allC))) (And.intro (@Bool.and_true) (And.intro (@Bool.true_and) (@Bool.false_eq_true))))) (And.intro (And.intro (And.intro (@Nat.zero_add) (And.intro (@Nat.add_zero) (@ogN))) (And.intro (@true_and) (And.intro (@and_true) (@Int.cast_ofNat_Int)))) (And.intro (And.intro (@decide_true) (And.intro (@decide_false) (@Bool.not_true))) (And.intro (And.intro (@Bool.not_false) (@Bool.and_self)) (And.intro (@ogS) (@replS)))))) (And.intro (And.intro (And.intro (And.intro (@repl0) (And.intro (@Bool.and_false) (@Bool.false_and))) (And.intro (@fin0) (And.intro (@fin1) (@fin2)))) (And.intro (And.intro (@fin0n) (And.intro (@exOp_callv0) (@exOp_call0))) (And.intro (@mapMN) (And.intro (@mapMC) (@setA0))))) (And.intro (And.intro (And.intro (@setA1) (And.intro (@atA0) (@atA1))) (And.intro (@G_skip_nil) (And.intro (@exOp_litS) (@pgN)))) (And.intro (And.intro (@pgC) (And.intro (@pvI) (@pvB))) (And.intro (And.intro (@pvCs) (@pvNs)) (And.intro (@pvAgg) (@pvMs))))))))):=And.intro (And.intro (And.intro (And.intro (And.intro (And.intro (And.intro (@G_seq) (And.intro (@G_skip_seq) (@G_skip_block))) (And.intro (@G_ret_nil) (And.intro (@G_ret_seq) (@G_ret_block)))) (And.intro (And.intro (@G_exit_seq) (And.intro (@G_exit_same) (@G_exit_block))) (And.intro (@G_block) (And.intro (@G_scope) (@G_cond))))) (And.intro (And.intro (And.intro (@G_region0) (And.intro (@G_region) (@GC_true))) (And.intro (@GC_false) (And.intro (@GO_nil) (@GO_guard)))) (And.intro (And.intro (@GO_p) (And.intro (@GO_cons) (@GG_yes))) (And.intro (@GG_no1) (And.intro (@GG_no2) (@GX_some)))))) (And.intro (And.intro (And.intro (And.intro (@GX_some0) (And.intro (@GX_map) (@GP_some))) (And.intro (@putT_some) (And.intro (@putT_none) (@ev_t)))) (And.intro (And.intro (@ev_c) (And.intro (@pex_lenS) (@pex_idxSl))) (And.intro (@pex_move) (And.intro (@pex_pick) (@pex_build))))) (And.intro (And.intro (And.intro (@pex_bin) (And.intro (@pex_eqB) (@pex_eqS))) (And.intro (@pex_not) (And.intro (@pex_neg) (@pex_conv)))) (And.intro (And.intro (@pex_mkFn) (And.intro (@pex_slice) (@pex_fieldAddr))) (And.intro (And.intro (@pex_field) (@pex_idxArr)) (And.intro (@pex_idx) (@pex_extract))))))) (And.intro (And.intro (And.intro (And.intro (And.intro (@pex_lenA) (And.intro (@pex_minmax) (@ieq))) (And.intro (@ine) (And.intro (@wr64) (@lenV_nils)))) (And.intro (And.intro (@lenV_cs) (And.intro (@lenV_ms) (@elemAt_ms))) (And.intro (@exOp_call1) (And.intro (@exOp_call3) (@exOp_callv1))))) (And.intro (And.intro (And.intro (@exOp_p) (And.intro (@exOp_load) (@exOp_store))) (And.intro (@exOp_alloc) (And.intro (@exOp_box) (@exOp_buildSlice)))) (And.intro (And.intro (@exOp_append) (And.intro (@scI) (@ceI))) (And.intro (And.intro (@scB) (@ceB)) (And.intro (@scP) (@ceP)))))) (And.intro (And.intro (And.intro (And.intro (@scNp) (And.intro (@ceNp) (@scMs))) (And.intro (@ceMs) (And.intro (@scCs) (@ceCs)))) (And.intro (And.intro (@scNs) (And.intro (@ceNs) (@scCp))) (And.intro (@ceCp) (And.intro (@scFn) (@ceFn))))) (And.intro (And.intro (And.intro (@ceAgg) (And.intro (@set0) (@setS))) (And.intro (@get0) (And.intro (@getS) (@mapN)))) (And.intro (And.intro (@mapC) (And.intro (@view_int) (@view_bool))) (And.intro (And.intro (@view_agg) (@view_tup)) (And.intro (@view_nils) (@view_fn)))))))) (And.intro (And.intro (And.intro (And.intro (And.intro (And.intro (@view_cs) (And.intro (@view_ms) (@rowOf_nils))) (And.intro (@rowOf_cs) (And.intro (@rowOf_ms) (@lenOf_nils)))) (And.intro (And.intro (@lenOf_cs) (And.intro (@lenOf_ms) (@hideN))) (And.intro (@hideC) (And.intro (@eqI1) (@eqI2))))) (And.intro (And.intro (And.intro (@eqI3) (And.intro (@eqI4) (@eqI5))) (And.intro (@GO_mload) (And.intro (@GO_mcall1) (@GO_mcall3)))) (And.intro (And.intro (@GO_salloc) (And.intro (@GO_sbox) (@GO_sbuild))) (And.intro (@GO_sstore) (And.intro (@obS) (@omapS)))))) (And.intro (And.intro (And.intro (And.intro (@omN) (And.intro (@len0) (@lenS))) (And.intro (@at0) (And.intro (@atS) (@drop0)))) (And.intro (And.intro (@dropS) (And.intro (@dropN) (@take0))) (And.intro (@takeS) (And.intro (@takeN) (@head1))))) (And.intro (And.intro (And.intro (@apN) (And.intro (@apC) (@flatN))) (And.intro (@flatC) (And.intro (@atE) (@setE)))) (And.intro (And.intro (@atL1) (And.intro (@atL2) (@atL3))) (And.intro (And.intro (@atL4) (@atL5)) (And.intro (@atL6) (@setL1))))))) (And.intro (And.intro (And.intro (And.intro (And.intro (@setL2) (And.intro (@setL3) (@setL4))) (And.intro (@setL5) (And.intro (@setL6) (@Nat.zero_le)))) (And.intro (And.intro (@apNil) (And.intro (@allN) (@allC))) (And.intro (@Bool.and_true) (And.intro (@Bool.true_and) (@Bool.false_eq_true))))) (And.intro (And.intro (And.intro (@Nat.zero_add) (And.intro (@Nat.add_zero) (@ogN))) (And.intro (@true_and) (And.intro (@and_true) (@Int.cast_ofNat_Int)))) (And.intro (And.intro (@decide_true) (And.intro (@decide_false) (@Bool.not_true))) (And.intro (And.intro (@Bool.not_false) (@Bool.and_self)) (And.intro (@ogS) (@replS)))))) (And.intro (And.intro (And.intro (And.intro (@repl0) (And.intro (@Bool.and_false) (@Bool.false_and))) (And.intro (@fin0) (And.intro (@fin1) (@fin2)))) (And.intro (And.intro (@fin0n) (And.intro (@exOp_callv0) (@exOp_call0))) (And.intro (@mapMN) (And.intro (@mapMC) (@setA0))))) (And.intro (And.intro (And.intro (@setA1) (And.intro (@atA0) (@atA1))) (And.intro (@G_skip_nil) (And.intro (@exOp_litS) (@pgN)))) (And.intro (And.intro (@pgC) (And.intro (@pvI) (@pvB))) (And.intro (And.intro (@pvCs) (@pvNs)) (And.intro (@pvAgg) (@pvMs))))))))
theorem az : type_of% (And.intro (And.intro (And.intro (@at0) (@atS)) (And.intro (@atE) (@atL1))) (And.intro (And.intro (@atL2) (@atL3)) (And.intro (@atA0) (@atA1)))):=And.intro (And.intro (And.intro (@at0) (@atS)) (And.intro (@atE) (@atL1))) (And.intro (And.intro (@atL2) (@atL3)) (And.intro (@atA0) (@atA1)))
theorem rmr : type_of% (And.intro (@exOp_wApp) (And.intro (@exOp_wCpy) (And.intro (@exOp_wClr) (And.intro (@exOp_makeR) (And.intro (@exOp_loadN) (And.intro (@lenV_mr) (And.intro (@scMr) (And.intro (@ceMr) (And.intro (@pvMr) (And.intro (@rowOf_mr) (And.intro (@lenOf_mr) (And.intro (@view_mr) (@elemAt_mr))))))))))))):=And.intro (@exOp_wApp) (And.intro (@exOp_wCpy) (And.intro (@exOp_wClr) (And.intro (@exOp_makeR) (And.intro (@exOp_loadN) (And.intro (@lenV_mr) (And.intro (@scMr) (And.intro (@ceMr) (And.intro (@pvMr) (And.intro (@rowOf_mr) (And.intro (@lenOf_mr) (And.intro (@view_mr) (@elemAt_mr))))))))))))
end Go.Am
/-
Ranges over functions: a round of the body,the loop itself,the end of a function that has had one.
-/
namespace Go.Am
open Go
set_option linter.unusedVariables false
set_option linter.unusedSimpArgs false
section
variable {E : Env}
theorem R_rnd {o : Nat} {args : List AV} {h : List AO} {lim : Nat} {pend : Option Ex} {fid : Nat} {ts : List AV} {ps : List Nat} {as bd : ACode} {d : Nat}
  (ho : h[o]? = some (.loop .ready pend fid ts ps as bd d)) (hl : args.length = ps.length) (hlim : lim ≤ o) {s1 : St} (h1 : den E lim (some o) fid as ⟨setAll ts ps args,h,[]⟩ = some (.nrm,s1))
  {pend1 : Option Ex} {fid1 : Nat} {ts1 : List AV} {ps1 : List Nat} {as1 bd1 : ACode} {d1 : Nat} (h1o : s1.heap[o]? = some (.loop .ready pend1 fid1 ts1 ps1 as1 bd1 d1))
  {ex : Ex} {s2 : St} (h2 : den E lim (some o) fid bd ⟨s1.tmps,s1.heap.set o (.loop .busy pend1 fid1 ts1 ps1 as1 bd1 d1),s1.marks⟩ = some (ex,s2))
  {st : LoopState} {pend2 : Option Ex} {fid2 : Nat} {ts2 : List AV} {ps2 : List Nat} {as2 bd2 : ACode} {d2 : Nat} (h2o : s2.heap[o]? = some (.loop st pend2 fid2 ts2 ps2 as2 bd2 d2)) :
  R E (.rnd o) args h lim = some (.bool (ex == .nrm),s2.heap.set o (.loop (if ex == .nrm then .ready else .done) (if ex == .nrm then none else some ex) fid2 ts2 ps2 as2 bd2 d2)):=by
 rw [R_some]
 obtain ⟨N1,k1⟩:=den_ev h1
 obtain ⟨N2,k2⟩:=den_ev h2
 refine ⟨max N1 N2 + 1,fun n hn => ?_⟩
 obtain ⟨m,rfl⟩ : ∃ m,n = m + 1:=⟨n - 1,by omega⟩
 simp only [callN,ho,hl,hlim,and_self,if_true,k1 m (by omega),h1o,k2 m (by omega),h2o]
theorem R_rnd_of {o : Nat} {args : List AV} {h : List AO} {lim : Nat} {pend : Option Ex} {fid : Nat} {ts : List AV} {ps : List Nat} {as bd : ACode} {d : Nat} (P : AV → List AO → Prop)
  (ho : h[o]? = some (.loop .ready pend fid ts ps as bd d)) (hl : args.length = ps.length) (hlim : lim ≤ o)
  (hg : G ⟨E,lim,some o,fid,fun ex s => ex = .nrm ∧ ∃ pend1 fid1 ts1 ps1 as1 bd1 d1,s.heap[o]? = some (.loop .ready pend1 fid1 ts1 ps1 as1 bd1 d1) ∧
   G
    ⟨E,lim,some o,fid,fun ex s => ∃ st pend2 fid2 ts2 ps2 as2 bd2 d2,s.heap[o]? = some (.loop st pend2 fid2 ts2 ps2 as2 bd2 d2) ∧
    P (.bool (ex == .nrm)) (s.heap.set o (.loop (if ex == .nrm then .ready else .done) (if ex == .nrm then none else some ex) fid2 ts2 ps2 as2 bd2 d2))⟩
    bd [] s.tmps (s.heap.set o (.loop .busy pend1 fid1 ts1 ps1 as1 bd1 d1)) s.marks⟩ as [] (setAll ts ps args) h []) :
  ∃ r h',R E (.rnd o) args h lim = some (r,h') ∧ P r h':=by
 simp only [G] at hg
 cases hd : den E lim (some o) fid as ⟨setAll ts ps args,h,[]⟩ with
 | none => rw [hd] at hg; exact hg.elim
 |
  some y =>
  obtain ⟨ex,s1⟩:=y
  rw [hd] at hg
  simp only [unwO,unw] at hg
  obtain ⟨rfl,pend1,fid1,ts1,ps1,as1,bd1,d1,h1o,hg⟩:=hg
  cases hd2 : den E lim (some o) fid bd ⟨s1.tmps,s1.heap.set o (.loop .busy pend1 fid1 ts1 ps1 as1 bd1 d1),s1.marks⟩ with
  | none => rw [hd2] at hg; exact hg.elim
  |
   some y =>
   obtain ⟨ex,s2⟩:=y
   rw [hd2] at hg
   simp only [unwO,unw] at hg
   obtain ⟨st,pend2,fid2,ts2,ps2,as2,bd2,d2,h2o,hp⟩:=hg
   exact ⟨_,_,R_rnd ho hl hlim hd h1o hd2 h2o,hp⟩
end
section
variable {X : Cx} {k : List KF} {ts : List AV} {h : List AO} {mk : List Nat}
def GE (X : Cx) (ex : Ex) (k : List KF) (ts : List AV) (h : List AO) (mk : List Nat) : Prop:=unw X ex k ⟨ts,h,mk⟩
theorem GE_nrm : GE X .nrm k ts h mk = G X .skip k ts h mk:=id rfl
theorem GE_ret : GE X .ret k ts h mk = G X .ret k ts h mk:=id rfl
theorem G_range {f : Opd} {params : List Nat} {assign body : ACode} {g : Nat} {first captured : List AV} (hrnd : X.rnd = none) (hf : f.ev ts = .fn g first captured) {r : AV} {h3 : List AO}
  (hr : R X.E (.fn g) (first ++ [.yld (h.length + 1)] ++ captured) (h ++ [.dfr,.loop .ready none X.fid ts params assign body h.length]) X.lim = some (r,h3))
  {st : LoopState} {pend : Option Ex} {fid' : Nat} {ts' : List AV} {ps' : List Nat} {as' bd' : ACode} {d' : Nat} (ho : h3[h.length + 1]? = some (.loop st pend fid' ts' ps' as' bd' d')) (hst : st = .ready ∨ st = .done) :
  G X (.rangeFunc f params assign body) k ts h mk = GE X (pend.getD .nrm) k ts (h3.set (h.length + 1) (.loop .exhausted pend fid' ts' ps' as' bd' d')) (h.length :: mk):=by
 simp only [G,den,hrnd,hf,hr,ho]
 rcases hst with rfl | rfl <;> rfl
theorem G_range_of {f : Opd} {params : List Nat} {assign body : ACode} {g : Nat} {first captured : List AV} (hrnd : X.rnd = none) (hf : f.ev ts = .fn g first captured)
  (hr : ∃ r h3 st pend fid' ts' ps' as' bd' d',R X.E (.fn g) (first ++ [.yld (h.length + 1)] ++ captured) (h ++ [.dfr,.loop .ready none X.fid ts params assign body h.length]) X.lim = some (r,h3) ∧
   h3[h.length + 1]? = some (.loop st pend fid' ts' ps' as' bd' d') ∧ (st = .ready ∨ st = .done) ∧ GE X (pend.getD .nrm) k ts (h3.set (h.length + 1) (.loop .exhausted pend fid' ts' ps' as' bd' d')) (h.length :: mk)) :
  G X (.rangeFunc f params assign body) k ts h mk:=by
 obtain ⟨r,h3,st,pend,fid',ts',ps',as',bd',d',h1,h2,h3',h4⟩:=hr
 rw [G_range hrnd hf h1 h2 h3']
 exact h4
end
theorem finM {lim : Nat} {rs : List ARes} {P : AV → List AO → Prop} {ts : List AV} {h h' : List AO} {mk : List Nat} {ex : Ex} (hex : ex = .nrm ∨ ex = .ret) (hm : mk.all (fun m => decide (lim ≤ m)) = true) (ht : takeMarks mk h = some h') {vs : List AV} (hv : rs.mapM (getRes ts h') = some vs)
  (hp : P (match vs with | [v] => v | vs => .tup vs) h') : Done lim rs P ex ⟨ts,h,mk⟩:=by
 refine ⟨hex,?_⟩
 match vs,hv,hp with
 | [],hv,hp => exact ⟨(.tup [],h'),by simp only [finish,hm,if_true,ht,hv],hp⟩
 | [v],hv,hp => exact ⟨(v,h'),by simp only [finish,hm,if_true,ht,hv],hp⟩
 | a :: b :: l,hv,hp => exact ⟨(.tup (a :: b :: l),h'),by simp only [finish,hm,if_true,ht,hv],hp⟩
end Go.Am
/-
More fuel answers no less.
-/
namespace Go.Am
open Go
set_option linter.unusedVariables false
set_option linter.unusedSimpArgs false
def Less (c d : Callee) : Prop:=∀ t a h l x,c t a h l = some x → d t a h l = some x
variable {c d : Callee}
theorem exOp_le (hl : Less c d) {lim : Nat} {pl : Option Nat} {ρ : Opd → AV} {h : List AO} {op : AOp} {y : AV × List AO} (hx : exOp c lim pl ρ h op = some y) : exOp d lim pl ρ h op = some y:=by
 cases op with
 |
  call mode f args =>
  simp only [exOp] at hx ⊢
  split at hx
  ·exact hl _ _ _ _ _ hx
  ·split at hx
   ·split at hx
    ·rename_i hc
     simp only [hl _ _ _ _ _ hc]; exact hx
    ·cases hx
   ·cases hx
  ·split at hx
   ·rename_i hp
    split at hx
    ·rename_i hc
     simp only [hl _ _ _ _ _ hc,hp,if_true]; exact hx
    ·cases hx
   ·rename_i hp
    split at hx
    ·rename_i hvs
     split at hx
     ·rename_i hc
      simp only [hl _ _ _ _ _ hc,hp,hvs]; exact hx
     ·cases hx
    ·cases hx
  ·split at hx
   ·rename_i hc
    simp only [hl _ _ _ _ _ hc]; exact hx
   ·cases hx
 |
  callv q f args =>
  simp only [exOp] at hx ⊢
  cases hf : ρ f with
  |
   fn g first captured =>
   rw [hf] at hx
   cases q
   ·exact hl _ _ _ _ _ hx
   ·simp only [if_true] at hx ⊢
    split at hx
    ·rename_i hc
     simp only [hl _ _ _ _ _ hc]; exact hx
    ·cases hx
  |
   yld o =>
   rw [hf] at hx
   cases q
   ·exact hl _ _ _ _ _ hx
   ·cases hx
  | _ => rw [hf] at hx; cases hx
 | _ => exact hx
theorem exMask_le (hl : Less c d) {lim base : Nat} {pl : Option Nat} {ρ : Opd → AV} {h : List AO} {op : AOp} {m : List Nat} {y : AV × List AO} (hx : exMask c lim base pl ρ h op m = some y) : exMask d lim base pl ρ h op m = some y:=by
 unfold exMask at hx ⊢
 split at hx
 ·exact exOp_le hl hx
 ·split at hx
  ·rename_i hc
   simp only [exOp_le hl hc]; exact hx
  ·cases hx
theorem exOper_le (hl : Less c d) {lim base : Nat} {ts : List AV} {h : List AO} {o : AOper} {y : AV × List AO} (hx : exOper c lim base ts h o = some y) : exOper d lim base ts h o = some y:=by
 unfold exOper at hx ⊢
 split at hx
 ·split at hx
  ·split at hx
   ·rename_i hb
    rw [if_pos hb]; exact exOp_le hl hx
   ·cases hx
  ·cases hx
 ·split at hx
  ·split at hx
   ·rename_i hb
    rw [if_pos hb]; exact exOp_le hl hx
   ·cases hx
  ·cases hx
 ·exact exMask_le hl hx
theorem stepOp_le (hl : Less c d) {lim base : Nat} {ts : List AV} {h : List AO} {o : AOper} {y : List AV × List AO} (hx : stepOp c lim base o ts h = some y) : stepOp d lim base o ts h = some y:=by
 unfold stepOp at hx ⊢
 split at hx
 ·rename_i hw
  split at hx
  ·rename_i hc
   simp only [hw,if_true,exOper_le hl hc]; exact hx
  ·cases hx
 ·rename_i hw
  simp only [hw]; exact hx
theorem evOps_le (hl : Less c d) {lim base : Nat} : ∀ {ops : List AOper} {ts : List AV} {h : List AO} {y : List AV × List AO},evOps c lim base ops ts h = some y → evOps d lim base ops ts h = some y
 | [],ts,h,y,hx => hx
 |
  o :: r,ts,h,y,hx => by
  simp only [evOps] at hx ⊢
  split at hx
  ·rename_i hc
   simp only [stepOp_le hl hc]; exact evOps_le hl hx
  ·cases hx
theorem iter_le {f g : St → Option (Ex × St)} (hg : ∀ s x,f s = some x → g s = some x) : ∀ {n m : Nat} {s : St} {x : Ex × St},n ≤ m → iter f n s = some x → iter g m s = some x
 | 0,_,_,_,_,hx => by simp [iter] at hx
 | n + 1,0,_,_,hl,_ => by omega
 |
  n + 1,m + 1,s,x,hl,hx => by
  simp only [iter] at hx ⊢
  cases hs : f s with
  | none => rw [hs] at hx; cases hx
  |
   some y =>
   rw [hs] at hx
   rw [hg _ _ hs]
   obtain ⟨ex,s'⟩:=y
   cases ex with
   | nrm => exact iter_le hg (by omega) hx
   | exit i => exact hx
   | ret => exact hx
theorem evCode_le (hl : Less c d) {lim n m : Nat} (hn : n ≤ m) {rnd : Option Nat} {fid : Nat} : ∀ {a : ACode} {s : St} {x : Ex × St},evCode c lim n rnd fid a s = some x → evCode d lim m rnd fid a s = some x:=by
 intro a
 induction a with
 | skip => intro s x hx; exact hx
 | exit id => intro s x hx; exact hx
 | ret => intro s x hx; exact hx
 |
  region k ops =>
  intro s x hx
  simp only [evCode] at hx ⊢
  split at hx
  ·rename_i hc
   simp only [evOps_le hl hc]; exact hx
  ·cases hx
 |
  seq a b iha ihb =>
  intro s x hx
  simp only [evCode] at hx ⊢
  cases ha : evCode c lim n rnd fid a s with
  | none => rw [ha] at hx; cases hx
  |
   some y =>
   obtain ⟨ex,s1⟩:=y
   rw [ha] at hx
   rw [iha ha]
   cases ex with
   | nrm => exact ihb hx
   | exit i => exact hx
   | ret => exact hx
 |
  cond o a b iha ihb =>
  intro s x hx
  simp only [evCode] at hx ⊢
  cases hc : Opd.ev s.tmps o with
  |
   bool v =>
   rw [hc] at hx
   cases v
   ·exact ihb hx
   ·exact iha hx
  | _ => rw [hc] at hx; cases hx
 |
  block id a ih =>
  intro s x hx
  simp only [evCode] at hx ⊢
  cases hc : evCode c lim n rnd fid a s with
  | none => rw [hc] at hx; cases hx
  | some y => rw [hc] at hx; rw [ih hc]; exact hx
 |
  loop a ih =>
  intro s x hx
  simp only [evCode] at hx ⊢
  exact iter_le (fun s x => ih) hn hx
 | scope a ih => intro s x hx; simp only [evCode] at hx ⊢; exact ih hx
 |
  rangeFunc f ps as bd _ _ =>
  intro s x hx
  simp only [evCode] at hx ⊢
  cases rnd with
  | some _ => cases hx
  |
   none =>
   simp only at hx ⊢
   cases hf : Opd.ev s.tmps f with
   |
    fn g first captured =>
    rw [hf] at hx
    simp only at hx ⊢
    split at hx
    ·rename_i r h3 hc
     simp only [hl _ _ _ _ _ hc]; exact hx
    ·cases hx
   | _ => rw [hf] at hx; cases hx
theorem callN_le (E : Env) : ∀ {n m : Nat},n ≤ m → Less (callN E n) (callN E m)
 | 0,_,_,t,a,h,l,x,hx => by simp [callN] at hx
 | n + 1,0,hn,_,_,_,_,_,_ => by omega
 |
  n + 1,m + 1,hn,t,a,h,l,x,hx => by
  have ih:=callN_le E (show n ≤ m by omega)
  cases t with
  |
   fn f =>
   simp only [callN] at hx ⊢
   cases hsp : E.spec f a h l with
   | some y => rw [hsp] at hx; exact hx
   |
    none =>
    rw [hsp] at hx
    simp only at hx ⊢
    cases hfn : E.fn f with
    | none => rw [hfn] at hx; exact hx
    |
     some fn =>
     rw [hfn] at hx
     simp only at hx ⊢
     cases hb : evCode (callN E n) l n none f fn.body ⟨a ++ List.replicate (fn.ntmps - a.length) .undef,h,[]⟩ with
     | none => rw [hb] at hx; cases hx
     | some y => rw [hb] at hx; rw [evCode_le ih (by omega) hb]; exact hx
  |
   rnd o =>
   simp only [callN] at hx ⊢
   split at hx
   ·rename_i st pend fid ts ps as bd dd ho
    split at hx
    ·rename_i hc
     rw [if_pos hc]
     split at hx
     ·rename_i s1 h1
      rw [evCode_le ih (by omega) h1]
      simp only
      split at hx
      ·rename_i pend1 fid1 ts1 ps1 as1 bd1 d1 ho1
       skip
       split at hx
       ·rename_i ex s2 h2
        rw [evCode_le ih (by omega) h2]
        exact hx
       ·cases hx
      ·cases hx
     ·cases hx
    ·cases hx
   ·cases hx
theorem R_run {E : Env} {n : Nat} {t : Tgt} {a : List AV} {h : List AO} {l : Nat} {x : AV × List AO} (hx : callN E n t a h l = some x) : R E t a h l = some x :=
 R_some.2 ⟨n,fun m hm => callN_le E hm _ _ _ _ _ hx⟩
end Go.Am
