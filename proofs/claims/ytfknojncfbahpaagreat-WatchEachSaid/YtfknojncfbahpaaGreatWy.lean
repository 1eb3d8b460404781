/-
Helpers of the outright laws; the law of the sober watchman.
-/
import Derived.Test.YtfknojncfbahpaaGreatWs
import Derived.Test.YtfknojncfbahpaaGreatWv
namespace Go.Proofs.YtfknojncfbahpaaGreat.S
open Go Go.Am Go.Proofs.YtfknojncfbahpaaGreat.T
set_option maxRecDepth 100000
set_option linter.unusedSimpArgs false
set_option linter.unusedVariables false
section
variable {b : Bk} {o w s : AV}
theorem bla_ris' : ris b.t.ws.length b.bla:=by
 unfold Bk.bla
 cases h : (alls b.t.ws.length).filter b.fal with
 | nil => exact ris_nil
 |
  cons W R =>
  have : W ∈ (alls b.t.ws.length).filter b.fal:=by rw [h]; simp
  exact mem_alls.1 (List.mem_filter.1 this).1
theorem w15 (H : BkIn b o w s) (st : Bool) : Iso E 15 [bkV b o w s] st = some (Bo (!b.far && b.valid)):=by
 have c58:=fun st => w58 H st
 cases hf : b.far <;> simp only [hf] at c58
 ·have K:=H.ok (far_huge hf)
  have c49:=fun st => w49 K st
  have e49 : ∀ {x : Bool},b.valid = x → decide (chkB b = 0) = x:=by
   intro x hx; subst hx; unfold chkB; cases b.valid <;> rfl
  have e49:=e49 rfl
  refine Iso_of (es _ _ _ _) e15 ?_
  simp only [f15,bkV] at c58 c49 ⊢
  simp (disch:=first|assumption|omega|(simp only[az];done)) only [ru,eq_self,if_true,binI,AO.row?,loadV,Am.rowAt,Am.part,Nat.reduceAdd,Nat.reduceSub,view_sl H.t.o,view_sl H.t.w,view_sl H.s,pure_sl H.t.o,pure_sl H.t.w,pure_sl H.s,c58,c49,e49]
 ·refine Iso_of (es _ _ _ _) e15 ?_
  simp only [f15,bkV] at c58 ⊢
  simp (disch:=first|assumption|omega|(simp only[az];done)) only [ru,eq_self,if_true,if_false,AO.row?,loadV,Am.rowAt,Am.part,Nat.reduceAdd,Nat.reduceSub,view_sl H.t.o,view_sl H.t.w,view_sl H.s,pure_sl H.t.o,pure_sl H.t.w,pure_sl H.s,c58]
theorem w34 (e : Int) (st : Bool) : Iso E 34 [I e] st = some (Bo (decide (e = 0) || decide (e = 3))):=by
 refine Iso_of (es _ _ _ _) e34 ?_
 simp only [f34]
 by_cases h : e = 0
 ·subst h
  simp (disch:=first|assumption|omega|(simp only[az];done)) only [ru,eq_self,if_true,BEq.rfl,binI,Nat.reduceSub,Int.reduceEq]
  rfl
 ·simp (disch:=first|assumption|omega|(simp only[az];done)) only [ru,eq_self,if_true,if_false,binI,Nat.reduceSub,h,Bool.false_or]
theorem w34a (st : Bool) : Iso E 34 [I 0] st = some (Bo true):=w34 0 st
theorem w34b (st : Bool) : Iso E 34 [I 3] st = some (Bo true):=w34 3 st
theorem w19 (H : BkOk b o w s) (hv : b.valid = true) : Iso E 19 [bkV b o w s] false = some (.tup [I (if b.sts = [] then 100 else (b.bla.length : Int)),Bo true]):=by
 obtain ⟨v,e,c60,A⟩:=w60 H
 have h1:=ris_len (bla_ris' (b:=b))
 generalize hy : (v,e) = y at A
 cases A with
 | bad h => rw [hv] at h; cases h
 | arg _ hf => cases hf
 |
  none _ hf hn =>
  cases hy
  rw [if_pos hn]
  refine Iso_of (es _ _ _ _) e19 ?_
  simp only [f19,bkV] at c60 ⊢
  simp (disch:=first|assumption|omega|(simp only[az];done)) only [ru,eq_self,if_true,BEq.rfl,binI,AO.row?,loadV,Am.rowAt,Am.part,Nat.reduceAdd,Nat.reduceSub,view_sl H.t.o,view_sl H.t.w,view_sl H.s,pure_sl H.t.o,pure_sl H.t.w,pure_sl H.s,c60]
 |
  ok _ hf hs hp =>
  rw [← hy] at hp
  cases hp
  rw [if_neg hs]
  have p1 : (b.bla.length : Int) ≤ b.t.ws.length:=by omega
  have p0 : (b.bla.length : Int) ≥ 0:=by omega
  refine Iso_of (es _ _ _ _) e19 ?_
  simp only [f19,bkV] at c60 ⊢
  simp (disch:=first|assumption|omega|(simp only[az];done)) only [ru,eq_self,if_true,if_false,BEq.rfl,binI,AO.row?,loadV,Am.rowAt,Am.part,addOff,Nat.reduceAdd,Nat.reduceSub,Int.reduceEq,lenV_sl H.t.w,view_sl H.t.o,view_sl H.t.w,view_sl H.s,pure_sl H.t.o,pure_sl H.t.w,pure_sl H.s,c60,p1,p0]
theorem alls_hd (k : Nat) : ∃ R,alls k = [] :: R:=by
 unfold alls
 rw [List.range_succ_eq_map,List.flatMap_cons]
 exact ⟨_,rfl⟩
theorem can_nil (hv : b.valid = true) : b.can [] = true:=by
 simp only [Bk.valid,Bool.and_eq_true,inR_iff] at hv
 have : S.rn [] = 0:=rfl
 simp only [Bk.can,this,List.length_nil,List.any_nil,Bool.not_false,Bool.and_true,Bool.and_eq_true,decide_eq_true_eq]
 omega
theorem kp_none {t : Trap} {q : Nat → Bool} (hq : ∀ i,q i = false) : solB (t.kp q) = true ↔ ∃ x,Tr t x:=by
 rw [solB_iff]
 refine exists_congr fun x => ?_
 rw [tr_kp,tr_all]
 exact and_congr_right fun _ => ⟨fun h i hi => h i hi (hq i),fun h i hi _ => h i hi⟩
theorem sober_sts (hv : b.valid = true) (h : ∃ x,Tr b.t x) : ∃ R,b.sts = [] :: R:=by
 obtain ⟨R,hR⟩:=alls_hd b.t.T
 have : b.st [] = true:=by
  unfold Bk.st
  rw [can_nil hv,(kp_none (t:=b.t) (q:=qG b.t []) fun i => rfl).2 h]; rfl
 exact ⟨R.filter b.st,by unfold Bk.sts; rw [hR,List.filter_cons,if_pos this]⟩
theorem sober_mus {R : List (List Int)} (h : b.sts = [] :: R) : b.mus = []:=by
 unfold Bk.mus
 rw [List.map_eq_nil_iff,List.filter_eq_nil_iff]
 intro t _
 have e0 : inG ((t : Nat) : Int) [] = 2:=rfl
 rw [h]
 simp only [agr,e0]
 split <;> decide
theorem tims_nil : tims b.t [] = []:=by simp [tims]
theorem sober_bla (hv : b.valid = true) (hs : b.sts ≠ []) : b.bla = [] ↔ ∃ x,Tr b.t x:=by
 have e : b.fal [] = true ↔ ∃ x,Tr b.t x:=by
  unfold Bk.fal
  rw [tims_nil,can_nil hv,Bool.true_and]
  exact kp_none fun i => rfl
 obtain ⟨R,hR⟩:=alls_hd b.t.ws.length
 obtain ⟨W,hW,hf⟩:=fal_ex hv hs
 constructor
 ·intro h
  have m : W ∈ (alls b.t.ws.length).filter b.fal:=List.mem_filter.2 ⟨mem_alls.2 hW,hf⟩
  unfold Bk.bla at h
  cases hz : (alls b.t.ws.length).filter b.fal with
  | nil => rw [hz] at m; simp at m
  |
   cons W' R' =>
   rw [hz] at h
   have h : W' = []:=h
   have m' : W' ∈ (alls b.t.ws.length).filter b.fal:=by rw [hz]; simp
   rw [h] at m'
   exact e.1 (List.mem_filter.1 m').2
 ·intro h
  unfold Bk.bla
  rw [hR,List.filter_cons,if_pos (e.2 h)]; rfl
theorem AnB.no {α : Type} {D : Int → α} {P : α → Prop} {x : α} (A : AnB b true D P x) (hv : b.valid = true) (hs : b.sts = []) : x = D 3:=by
 cases A with
 | bad h => rw [hv] at h; cases h
 | arg _ hf => cases hf
 | none => rfl
 | ok _ _ h _ => exact absurd hs h
theorem AnB.yes {α : Type} {D : Int → α} {P : α → Prop} {x : α} (A : AnB b true D P x) (hv : b.valid = true) (hs : b.sts ≠ []) : P x:=by
 cases A with
 | bad h => rw [hv] at h; cases h
 | arg _ hf => cases hf
 | none _ _ h => exact absurd h hs
 | ok _ _ _ hp => exact hp
set_option maxHeartbeats 8000000 in
theorem l5 (H0 : BkIn b o w s) : Iso E 5 [bkV b o w s] false = some (Bo true):=by
 have c15:=fun st => w15 H0 st
 obtain ⟨r,hr⟩ : ∃ r,r = (!b.far && b.valid):=⟨_,rfl⟩
 rw [← hr] at c15
 cases r
 ·refine Iso_of (es _ _ _ _) e5 ?_
  simp only [f5,bkV] at c15 ⊢
  simp (disch:=first|assumption|omega|(simp only[az];done)) only [ru,eq_self,if_true,AO.row?,loadV,Am.rowAt,Am.part,Nat.reduceAdd,Nat.reduceSub,view_sl H0.t.o,view_sl H0.t.w,view_sl H0.s,pure_sl H0.t.o,pure_sl H0.t.w,pure_sl H0.s,c15,w17]
 obtain ⟨hf,hv⟩ : b.far = false ∧ b.valid = true:=by simpa using hr.symm
 have H:=H0.ok (far_huge hf)
 have V:=valid_trb (bk_t hv)
 obtain ⟨x,c32,hx⟩:=s36 H.t V (C:=b.t.C) (T:=b.t.T) (trC V) (trT V)
 have hx : x = true ↔ ∃ y,Tr b.t y:=hx
 have c19:=w19 H hv
 obtain ⟨v1,l1,e1,c28,i1,A1⟩:=w28 H
 obtain ⟨v2,l2,e2,c27,i2,A2⟩:=w27 H
 obtain ⟨v3,l3,e3,c33,i3,A3⟩:=w33 H
 by_cases hs : b.sts = []
 ·have h1:=A1.no hv hs
  have h2:=A2.no hv hs
  have h3:=A3.no hv hs
  obtain ⟨rfl,rfl⟩ : l1 = [] ∧ e1 = 3:=by simpa using h1
  obtain ⟨rfl,rfl⟩ : l2 = [] ∧ e2 = 3:=by simpa using h2
  obtain ⟨rfl,rfl⟩ : l3 = [] ∧ e3 = 3:=by simpa using h3
  rw [if_pos hs] at c19
  obtain rfl : x = false:=by
   cases x
   ·rfl
   ·obtain ⟨R,hR⟩:=sober_sts hv (hx.1 rfl)
    rw [hs] at hR; cases hR
  refine Iso_of (es _ _ _ _) e5 ?_
  simp only [f5,bkV,trV] at c15 c32 c19 c28 c27 c33 ⊢
  simp (disch:=first|assumption|omega|(simp only[az];done)) only [ru,eq_self,if_true,if_false,BEq.rfl,binI,AO.row?,loadV,Am.rowAt,Am.part,addOff,Nat.reduceAdd,Nat.reduceSub,Int.reduceEq,Int.reduceLT,view_sl H.t.o,view_sl H.t.w,view_sl H.s,pure_sl H.t.o,pure_sl H.t.w,pure_sl H.s,c15,c32,c19,c28,c27,c33,w34b,w17,gUn]
 ·have h1:=A1.yes hv hs
  have h2:=A2.yes hv hs
  have h3:=A3.yes hv hs
  obtain ⟨rfl,rfl⟩ : l1 = b.sts.getD 0 [] ∧ e1 = 0:=by simpa using h1
  obtain ⟨rfl,rfl⟩ : l2 = b.mus ∧ e2 = 0:=by simpa using h2
  obtain ⟨rfl,rfl⟩ : l3 = b.bla ∧ e3 = 0:=by simpa using h3
  rw [if_neg hs] at c19
  have sb:=sober_bla hv hs
  have bl:=ris_len (bla_ris' (b:=b))
  have w8:=valid_w8 (bk_t hv)
  have p1 : (b.bla.length : Int) < 100:=by omega
  cases x
  ·have hb : ¬ b.bla = []:=fun h => by
    have:=hx.2 (sb.1 h); cases this
   have p0 : ¬ (b.bla.length : Int) = 0:=by
    have : b.bla.length ≠ 0:=fun h => hb (List.eq_nil_of_length_eq_zero h)
    omega
   refine Iso_of (es _ _ _ _) e5 ?_
   simp only [f5,bkV,trV] at c15 c32 c19 c28 c27 c33 ⊢
   simp (disch:=first|assumption|omega|(simp only[az];done)) only [ru,eq_self,if_true,if_false,BEq.rfl,binI,AO.row?,loadV,Am.rowAt,Am.part,addOff,Nat.reduceAdd,Nat.reduceSub,view_sl H.t.o,view_sl H.t.w,view_sl H.s,pure_sl H.t.o,pure_sl H.t.w,pure_sl H.s,c15,c32,c19,c28,c27,c33,lenV_sl i3,w34a,w17,gUn,p1,p0]
  ·have hb:=sb.2 (hx.1 rfl)
   obtain ⟨R,hR⟩:=sober_sts hv (hx.1 rfl)
   have hm:=sober_mus hR
   have hg : b.sts.getD 0 [] = []:=by rw [hR]; rfl
   rw [hb] at c19 i3
   rw [hm] at i2
   rw [hg] at i1
   refine Iso_of (es _ _ _ _) e5 ?_
   simp only [f5,bkV,trV] at c15 c32 c19 c28 c27 c33 ⊢
   simp (disch:=first|assumption|omega|(simp only[az];done)) only [ru,eq_self,if_true,if_false,BEq.rfl,binI,AO.row?,loadV,Am.rowAt,Am.part,addOff,Nat.reduceAdd,Nat.reduceSub,Int.reduceLT,Int.reduceAdd,view_sl H.t.o,view_sl H.t.w,view_sl H.s,pure_sl H.t.o,pure_sl H.t.w,pure_sl H.s,c15,c32,c19,c28,c27,c33,lenV_sl i1,lenV_sl i2,lenV_sl i3,w34a,w17]
end
end Go.Proofs.YtfknojncfbahpaaGreat.S
