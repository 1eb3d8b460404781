/-
The law of the stories.
-/
import Derived.Test.YtfknojncfbahpaaGreatXa
import Derived.Test.YtfknojncfbahpaaGreatWz
namespace Go.Proofs.YtfknojncfbahpaaGreat.S
open Go Go.Am Go.Proofs.YtfknojncfbahpaaGreat.T
set_option maxRecDepth 100000
set_option linter.unusedSimpArgs false
set_option linter.unusedVariables false
theorem cpyE {l : List Int} {v : AV} {h : List AO} {b lim : Nat} (ho : OutE intL 1 b h v l) (hl : l.length ≤ 1000000) (hlim : lim ≤ h.length) :
  ∃ q x0 x1,q < 2 ∧ appG true lim (h.length + 1) 1 8 (h ++ .cells [] false :: .tomb :: []) (.ms 1 h.length 0 0) v = some (.ms 1 (h.length + q) 0 l.length,h ++ x0 :: x1 :: []) ∧ [x0,x1][q]? = some (.cells (l.flatMap intL) false):=by
 rcases ho with ⟨rfl,rfl⟩ | ⟨hne,o,_,rfl,hc⟩
 ·refine ⟨0,.cells [] false,.tomb,by omega,?_,rfl⟩
  rw [appG_zero (sl:=0) rfl rfl rfl]; rfl
 ·have hz : l.length ≠ 0:=fun h => hne (List.eq_nil_of_length_eq_zero h)
  have ol:=(List.getElem?_eq_some_iff.1 hc).1
  have hr : Am.rowOf (h ++ .cells [] false :: .tomb :: []) (.ms 1 o 0 l.length) = some (l.flatMap intL):=by
   have : (h ++ .cells [] false :: .tomb :: [])[o]? = some (.cells (l.flatMap intL) false):=by rw [List.getElem?_append_left ol]; exact hc
   have e : (l.flatMap intL).length = l.length:=by simpa using flat_len intE l
   simp only [rowOf_ms,Am.rowAt,this,Option.bind_some,AO.row?,List.drop_zero,Nat.mul_one,← e,List.take_length,if_true]
  refine ⟨1,.ro [],.cells (l.flatMap intL) false,by omega,?_,rfl⟩
  rw [appG_ms (c:=[]) hz atA0 (by simp) rfl hr (flat_len intE l) (scal_sl (fun _ => rfl) l) (by simp; omega) (by omega) hlim,setT0,setT]
  simp
section
variable {b : Bk} {o w s : AV}
theorem knV_ok {c n : Nat} (hn : n ≠ 0) : (knV c n = 1 ↔ c = n) ∧ (knV c n = 2 ↔ c = 0) ∧ (knV c n = 1 ∨ knV c n = 2 ∨ knV c n = 3):=by
 unfold knV
 by_cases h0 : (c : Int) = 0
 ·rw [if_pos h0]
  refine ⟨⟨fun h => absurd h (by decide),fun h => by omega⟩,⟨fun _ => by omega,fun _ => rfl⟩,.inr (.inl rfl)⟩
 ·rw [if_neg h0]
  by_cases h1 : (c : Int) = n
  ·rw [if_pos h1]
   exact ⟨⟨fun _ => by omega,fun _ => rfl⟩,⟨fun h => absurd h (by decide),fun h => by omega⟩,.inl rfl⟩
  ·rw [if_neg h1]
   exact ⟨⟨fun h => absurd h (by decide),fun h => by omega⟩,⟨fun h => absurd h (by decide),fun h => by omega⟩,.inr (.inr rfl)⟩
theorem mem_mus {x : Int} : x ∈ b.mus ↔ (0 ≤ x ∧ x < b.t.T) ∧ agr (inG x) b.sts = 1:=by
 unfold Bk.mus
 simp only [List.mem_map,List.mem_filter,List.mem_range,decide_eq_true_eq]
 constructor
 ·rintro ⟨i,⟨h1,h2⟩,rfl⟩; exact ⟨by omega,h2⟩
 ·rintro ⟨h1,h2⟩
  have e : ((x.toNat : Nat) : Int) = x:=Int.toNat_of_nonneg h1.1
  exact ⟨x.toNat,⟨by omega,by rw [e]; exact h2⟩,e⟩
theorem mus_len' : b.mus.length ≤ b.t.T:=by
 have h1:=List.length_filter_le (fun (t : Nat) => decide (agr (inG ((t : Nat) : Int)) b.sts = 1)) (List.range b.t.T)
 unfold Bk.mus
 rw [List.length_map]
 rw [List.length_range] at h1
 exact h1
theorem drunk_in {g : List Int} (hg : g ∈ b.sts) (x : Int) : (agr (inG x) b.sts = 1 → hasI g x = true) ∧ (agr (inG x) b.sts = 2 → hasI g x = false) ∧ (agr (inG x) b.sts = 1 ∨ agr (inG x) b.sts = 2 ∨ agr (inG x) b.sts = 3):=by
 have hs : b.sts ≠ []:=fun h => by rw [h] at hg; simp at hg
 have pos : b.sts.length ≠ 0:=fun h => hs (List.eq_nil_of_length_eq_zero h)
 obtain ⟨k1,k2,k3⟩:=knV_ok (c:=cntN b.sts x) pos
 rw [agr_cnt hs x]
 exact ⟨fun h => cnt_all.1 (k1.1 h) g hg,fun h => cnt_zero.1 (k2.1 h) g hg,k3⟩
theorem least_le {g : List Int} (hg : g ∈ b.sts) : b.sts.getD 0 [] ∈ b.sts ∧ (b.sts.getD 0 []).length ≤ g.length ∧ ((b.sts.getD 0 []).length = g.length → ear g (b.sts.getD 0 []) = false):=by
 have so:=(alls_sorted (k:=b.t.T)).filter b.st
 have e : b.sts = (alls b.t.T).filter b.st:=rfl
 rw [← e] at so
 cases hz : b.sts with
 | nil => rw [hz] at hg; simp at hg
 |
  cons L R =>
  rw [hz] at hg so
  refine ⟨by simp,?_,?_⟩
  ·show L.length ≤ g.length
   rcases List.mem_cons.1 hg with rfl | h
   ·exact Nat.le_refl _
   ·rcases (List.pairwise_cons.1 so).1 g h with h | h <;> omega
  ·intro hl
   have hl : L.length = g.length:=hl
   show ear g L = false
   rcases List.mem_cons.1 hg with rfl | h
   ·cases h : ear g g
    ·rfl
    ·have:=ear_asym h; rw [h] at this; cases this
   ·rcases (List.pairwise_cons.1 so).1 g h with h | h
    ·omega
    ·exact ear_asym h.2
theorem sts_good (hv : b.valid = true) {g : List Int} : g ∈ b.sts ↔ b.good g = true:=by
 unfold Bk.good
 rw [Bool.and_eq_true,bk_ris hv]
 unfold Bk.sts
 rw [List.mem_filter,mem_alls]
theorem good_more (hv : b.valid = true) {g m : List Int} (hg : g ∈ b.sts) (hm : ∀ x ∈ g,x ∈ m) : b.good m = (risL m (b.t.tm - 1) && b.can m):=by
 obtain ⟨_,_,x,hx⟩:=mem_sts.1 hg
 have : solB (b.t.kp (qG b.t m)) = true:=by
  rw [solB_iff]
  refine ⟨x,?_⟩
  rw [tr_kp] at hx ⊢
  refine ⟨hx.1,fun i hi hq => hx.2 i hi ?_⟩
  unfold qG at hq ⊢
  cases hh : hasI g (b.t.ws.getD i default).time
  ·rfl
  ·rw [hasI_iff.2 (hm _ (hasI_iff.1 hh))] at hq; cases hq
 unfold Bk.good Bk.st
 rw [this,Bool.and_true]
set_option maxHeartbeats 16000000 in
theorem l4 (H0 : BkIn b o w s) {g : List Int} {gv : AV} (hg : IsSl 1 intL g gv) (t : Int) : Iso E 4 [bkV b o w s,gv,I t] false = some (Bo true):=by
 have c15:=fun st => w15 H0 st
 obtain ⟨r,hr⟩ : ∃ r,r = (!b.far && b.valid):=⟨_,rfl⟩
 rw [← hr] at c15
 cases r
 ·refine Iso_of (es _ _ _ _) e4 ?_
  simp only [f4,bkV] at c15 ⊢
  simp (disch:=first|assumption|omega|(simp only[az];done)) only [ru,eq_self,if_true,AO.row?,loadV,Am.rowAt,Am.part,Nat.reduceAdd,Nat.reduceSub,view_sl H0.t.o,view_sl H0.t.w,view_sl H0.s,pure_sl H0.t.o,pure_sl H0.t.w,pure_sl H0.s,c15,w17]
 obtain ⟨hf,hv⟩ : b.far = false ∧ b.valid = true:=by simpa using hr.symm
 by_cases h40 : (g.length : Int) > 40
 ·refine Iso_of (es _ _ _ _) e4 ?_
  simp only [f4,bkV] at c15 ⊢
  simp (disch:=first|assumption|omega|(simp only[az];done)) only [ru,eq_self,if_true,if_false,binI,AO.row?,loadV,Am.rowAt,Am.part,Nat.reduceAdd,Nat.reduceSub,view_sl H0.t.o,view_sl H0.t.w,view_sl H0.s,pure_sl H0.t.o,pure_sl H0.t.w,pure_sl H0.s,lenV_sl hg,c15,h40,w17]
 have H:=H0.ok (far_huge hf)
 have V:=valid_trb (bk_t hv)
 obtain ⟨T1,T2,T3⟩:=tm5 (bk_t hv)
 have c26:=w26 H hv hg (by omega)
 cases hgo : b.good g <;> rw [hgo] at c26
 ·refine Iso_of (es _ _ _ _) e4 ?_
  simp only [f4,bkV] at c15 c26 ⊢
  simp (disch:=first|assumption|omega|(simp only[az];done)) only [ru,eq_self,if_true,if_false,binI,AO.row?,loadV,Am.rowAt,Am.part,Nat.reduceAdd,Nat.reduceSub,view_sl H.t.o,view_sl H.t.w,view_sl H.s,pure_sl H.t.o,pure_sl H.t.w,pure_sl H.s,lenV_sl hg,view_sl hg,pure_sl hg,c15,h40,c26,w17]
 have hgs:=(sts_good hv).2 hgo
 have hs : b.sts ≠ []:=fun h => by rw [h] at hgs; simp at hgs
 obtain ⟨v2,l2,e2,c27,i2,A2⟩:=w27 H
 have h2:=A2.yes hv hs
 obtain ⟨rfl,rfl⟩ : l2 = b.mus ∧ e2 = 0:=by simpa using h2
 obtain ⟨v1,l1,e1,c28,i1,A1⟩:=w28 H
 have h1:=A1.yes hv hs
 obtain ⟨rfl,rfl⟩ : l1 = b.sts.getD 0 [] ∧ e1 = 0:=by simpa using h1
 obtain ⟨m1,m2,m3⟩:=least_le hgs
 have gl:=(sts_good hv).1 m1
 obtain ⟨L0,hL0⟩ : ∃ L0,L0 = b.sts.getD 0 []:=⟨_,rfl⟩
 rw [← hL0] at i1 m2 m3 gl
 have k26:=w26 H hv i1 (by omega)
 rw [gl] at k26
 have ml:=mus_len' (b:=b)
 have p1 : ¬ (b.mus.length : Int) > b.t.tm:=by omega
 have p2 : ¬ (L0.length : Int) > g.length:=by omega
 have c29:=fun st => w29 hg i1 (by omega) st
 have din:=fun x => drunk_in hgs x
 have mu : ∀ x ∈ b.mus,hasI g x = true:=fun x hx => (din x).1 (mem_mus.1 hx).2
 have c40:=fun x st => s40 hg (by omega) x st
 have d40:=fun x st => s40 i2 (by omega) x st
 have c30 : ∀ i : Nat,i < b.t.T → Iso E 30 [bkV b o w s,I i] false = some (.tup [I (agr (inG i) b.sts),I 0]):=fun i hi => by
  have v0:=V.t0
  obtain ⟨k,ek,c30,A2⟩:=w30 H i
  have h2 : (k,ek) = (agr (inG i) b.sts,0):=by
   cases A2 with
   | bad h => rw [hv] at h; cases h
   | arg _ h =>
          rw [wr64 (by omega) (by omega)] at h; have : inR i 0 (b.t.tm - 1) = true:=by rw [inR_iff]; omega
          rw [this] at h; cases h
   | none _ _ h => exact absurd h hs
   | ok _ _ _ hp => exact hp
  obtain ⟨rfl,rfl⟩ : k = agr (inG i) b.sts ∧ ek = 0:=by simpa using h2
  exact c30
 refine Iso_of (es _ _ _ _) e4 ?_
 simp only [f4,bkV] at c15 c26 c27 c28 k26 c30 ⊢
 obtain ⟨D,hD⟩ : ∃ D,decide ((L0.length : Int) = g.length) = D:=⟨_,rfl⟩
 obtain ⟨z,hz⟩ : ∃ z,ear g L0 = z:=⟨_,rfl⟩
 rw [hz] at c29
 have dz : D = false ∨ (D = true ∧ z = false):=by
  by_cases h : (L0.length : Int) = g.length
  ·exact .inr ⟨by rw [← hD]; exact decide_eq_true h,by rw [← hz]; exact m3 (by omega)⟩
  ·exact .inl (by rw [← hD]; exact decide_eq_false h)
 rcases dz with rfl | ⟨rfl,rfl⟩
 all_goals
  simp (disch:=first|assumption|omega|(simp only[az];done)) only [ru,eq_self,if_true,if_false,binI,AO.row?,loadV,Am.rowAt,Am.part,addOff,Nat.reduceAdd,Nat.reduceSub,view_sl H.t.o,view_sl H.t.w,view_sl H.s,pure_sl H.t.o,pure_sl H.t.w,pure_sl H.s,lenV_sl hg,view_sl hg,pure_sl hg,c15,h40,c26,c27,c28,lenV_sl i2,lenV_sl i1,view_sl i1,pure_sl i1,k26,p1,p2,hD,c29]
  refine G_loop_ind (fun m ts hk mk => ∃ (i : Nat),i ≤ b.mus.length ∧ m = b.mus.length - i ∧ hk = [.cells [I b.t.ch,I b.t.tm,o,w,I b.dr,I b.rn,s] false] ∧
    ts.length = 182 ∧ ts.getD 1 .undef = gv ∧ ts.getD 2 .undef = I t ∧ ts.getD 3 .undef = .ptr 0 0 ∧ ts.getD 7 .undef = v2 ∧ ts.getD 11 .undef = I i ∧ mk = []) ?_ _ _ _ _
   ⟨0,Nat.zero_le _,rfl,rfl,rfl,rfl,rfl,rfl,rfl,rfl,rfl⟩
  rintro m ts hk mk ih ⟨i,hi,rfl,rfl,hl',q1,q2,q3,q7,q11,rfl⟩
  rw [lit_all hl']
  simp only [lit0,litS,Nat.reduceAdd,q1,q2,q3,q7,q11]
  simp (disch:=first|assumption|omega|(simp only[az];done)) only [ru,eq_self,if_true,binI,lenV_sl i2]
  by_cases hlt : (i : Int) < b.mus.length
  case pos =>
   have hi2 : i < b.mus.length:=by omega
   obtain ⟨x,hx⟩ : ∃ x,x = b.mus.getD i default:=⟨_,rfl⟩
   have hm:=mu x (by rw [hx]; exact getD_mem hi2)
   have c40:=fun st => c40 x st
   rw [hm] at c40
   simp (disch:=first|assumption|omega|(simp only[az];done)) only [ru,eq_self,if_true,if_false,binI,loadV,Am.part,view_sl hg,pure_sl hg,elem_sl intE i2,hlt,Int.toNat_natCast,← hx,c40]
   exact ih (b.mus.length - (i + 1)) _ _ _ (by omega) ⟨i + 1,by omega,rfl,rfl,rfl,rfl,rfl,rfl,rfl,rfl,rfl⟩
  simp (disch:=first|assumption|omega|(simp only[az];done)) only [ru,hlt]
  clear ih hlt q1 q2 q3 q7 q11 hl' hi
  refine G_loop_ind (fun m ts hk mk => ∃ (i : Nat),i ≤ b.t.T ∧ m = b.t.T - i ∧ hk = [.cells [I b.t.ch,I b.t.tm,o,w,I b.dr,I b.rn,s] false] ∧
    ts.length = 182 ∧ ts.getD 1 .undef = gv ∧ ts.getD 2 .undef = I t ∧ ts.getD 3 .undef = .ptr 0 0 ∧ ts.getD 7 .undef = v2 ∧ ts.getD 12 .undef = I i ∧ mk = []) ?_ _ _ _ _
   ⟨0,Nat.zero_le _,rfl,rfl,rfl,rfl,rfl,rfl,rfl,rfl,rfl⟩
  rintro m ts hk mk ih ⟨i,hi,rfl,rfl,hl',q1,q2,q3,q7,q12,rfl⟩
  rw [lit_all hl']
  simp only [lit0,litS,Nat.reduceAdd,q1,q2,q3,q7,q12]
  simp (disch:=first|assumption|omega|(simp only[az];done)) only [ru,eq_self,if_true,if_false,binI,AO.row?,loadV,Am.rowAt,Am.part,addOff]
  by_cases hlt : (i : Int) < b.t.tm
  case pos =>
   have hi2 : i < b.t.T:=by omega
   have c30:=c30 i hi2
   have c40:=fun st => c40 (i : Int) st
   have d40:=fun st => d40 (i : Int) st
   obtain ⟨d1,d2,d3⟩:=din (i : Int)
   have dm : hasI b.mus (i : Int) = decide (agr (inG i) b.sts = 1):=by
    rw [Bool.eq_iff_iff,hasI_iff,mem_mus,decide_eq_true_eq]
    exact ⟨fun h => h.2,fun h => ⟨by omega,h⟩⟩
   rw [dm] at d40
   obtain ⟨kk,hk1⟩ : ∃ kk,kk = agr (inG i) b.sts:=⟨_,rfl⟩
   rw [← hk1] at c30 d1 d2 d3 d40
   obtain ⟨y,hy⟩ : ∃ y,y = hasI g (i : Int):=⟨_,rfl⟩
   rw [← hy] at c40 d1 d2
   have cs : (kk = 1 ∧ y = true) ∨ (kk = 2 ∧ y = false) ∨ (kk = 3 ∧ y = true) ∨ (kk = 3 ∧ y = false):=by
    rcases d3 with h | h | h
    ·exact .inl ⟨h,d1 h⟩
    ·exact .inr (.inl ⟨h,d2 h⟩)
    ·cases y
     ·exact .inr (.inr (.inr ⟨h,rfl⟩))
     ·exact .inr (.inr (.inl ⟨h,rfl⟩))
   have w1:=fun n st => s30 n 1 3 st
   clear hk1
   rcases cs with ⟨rfl,rfl⟩ | ⟨rfl,rfl⟩ | ⟨rfl,rfl⟩ | ⟨rfl,rfl⟩ <;>
    (
     simp (disch:=first|assumption|omega|(simp only[az];done)) only [ru,eq_self,if_true,if_false,BEq.rfl,binI,AO.row?,loadV,Am.rowAt,Am.part,Nat.reduceAdd,Int.reduceEq,Int.reduceLE,view_sl H.t.o,view_sl H.t.w,view_sl H.s,pure_sl H.t.o,pure_sl H.t.w,pure_sl H.s,view_sl hg,pure_sl hg,view_sl i2,pure_sl i2,hlt,c30,c40,d40,w1,inR]
     exact ih (b.t.T - (i + 1)) _ _ _ (by omega) ⟨i + 1,by omega,rfl,rfl,rfl,rfl,rfl,rfl,rfl,rfl,rfl⟩)
  simp (disch:=first|assumption|omega|(simp only[az];done)) only [ru,hlt]
  clear ih hlt q1 q2 q3 q7 q12 hl' hi
  refine G_loop_ind (fun m ts hk mk => ∃ (k : Nat) (v : AV),k ≤ b.t.T ∧ m = b.t.T - k ∧ hk[0]? = some (.cells [I b.t.ch,I b.t.tm,o,w,I b.dr,I b.rn,s] false) ∧ 1 ≤ hk.length ∧ OutE intL 1 1 hk v (Bk.soA ⟨b.t,b.dr,b.rn,g⟩ t k) ∧
    ts.length = 182 ∧ ts.getD 1 .undef = gv ∧ ts.getD 2 .undef = I t ∧ ts.getD 3 .undef = .ptr 0 0 ∧ ts.getD 16 .undef = v ∧ ts.getD 17 .undef = I k ∧ mk = []) ?_ _ _ _ _
   ⟨0,.nils,Nat.zero_le _,rfl,rfl,by simp,.inl ⟨rfl,rfl⟩,rfl,rfl,rfl,rfl,rfl,rfl,rfl⟩
  rintro m ts hk mk ih ⟨k,v,hk1,rfl,e0,n1,ho,hl',q1,q2,q3,q16,q17,rfl⟩
  rw [lit_all hl']
  simp only [lit0,litS,Nat.reduceAdd,q1,q2,q3,q16,q17]
  simp (disch:=first|assumption|omega|(simp only[az];done)) only [ru,eq_self,if_true,if_false,binI,AO.row?,loadV,Am.rowAt,Am.part,addOff,e0]
  by_cases hlt : (k : Int) < b.t.tm
  case pos =>
   have c40:=fun st => c40 (k : Int) st
   have sl:=soA_len (b:=⟨b.t,b.dr,b.rn,g⟩) (t:=t) (n:=k)
   obtain ⟨v',h',ha,ho',hb',hk'⟩:=outE_ap (lim:=0) (eb:=8) intE (fun _ => rfl) (by omega) (by omega) (by omega) ho n1 (by omega) (by omega) (k : Int)
   have a0 : h'[0]? = some (.cells [I b.t.ch,I b.t.tm,o,w,I b.dr,I b.rn,s] false):=by rw [hk' 0 (by omega)]; exact e0
   have sy:=soA_yes (b:=⟨b.t,b.dr,b.rn,g⟩) (t:=t) (n:=k)
   have sn:=soA_no (b:=⟨b.t,b.dr,b.rn,g⟩) (t:=t) (n:=k)
   simp only at sy sn
   by_cases e : (k : Int) = t
   ·have h : (decide ((k : Int) = t) || hasI g k) = true:=by simp [e]
    have sy:=sy h
    clear sn h
    subst e
    simp (disch:=first|assumption|omega|(simp only[az];done)) only [ru,eq_self,if_true,BEq.rfl,binI,splice,fillL,zeros,Nat.reduceMul,Nat.reduceLeDiff,hlt,ha]
    exact ih (b.t.T - (k + 1)) _ _ _ (by omega) ⟨k + 1,v',by omega,rfl,a0,hb',by rw [sy]; exact ho',rfl,rfl,rfl,rfl,rfl,rfl,rfl⟩
   ·cases hh : hasI g k <;> simp only [hh] at c40
    ·have h : (decide ((k : Int) = t) || hasI g k) = false:=by simp [e,hh]
     have sn:=sn h
     simp (disch:=first|assumption|omega|(simp only[az];done)) only [ru,eq_self,if_true,if_false,binI,view_sl hg,pure_sl hg,hlt,e,c40]
     exact ih (b.t.T - (k + 1)) _ _ _ (by omega) ⟨k + 1,v,by omega,rfl,e0,n1,by rw [sn]; exact ho,rfl,rfl,rfl,rfl,rfl,rfl,rfl⟩
    ·have h : (decide ((k : Int) = t) || hasI g k) = true:=by simp [e,hh]
     have sy:=sy h
     simp (disch:=first|assumption|omega|(simp only[az];done)) only [ru,eq_self,if_true,if_false,binI,splice,fillL,zeros,Nat.reduceMul,Nat.reduceLeDiff,view_sl hg,pure_sl hg,hlt,e,c40,ha]
     exact ih (b.t.T - (k + 1)) _ _ _ (by omega) ⟨k + 1,v',by omega,rfl,a0,hb',by rw [sy]; exact ho',rfl,rfl,rfl,rfl,rfl,rfl,rfl⟩
  obtain rfl : k = b.t.T:=by omega
  have sl:=soA_len (b:=⟨b.t,b.dr,b.rn,g⟩) (t:=t) (n:=b.t.T)
  have sg : ∀ x ∈ g,x ∈ Bk.soA ⟨b.t,b.dr,b.rn,g⟩ t b.t.T:=fun x hx => mem_soA.2 ⟨(mem_sts.1 hgs).1.1 x hx,.inr hx⟩
  have gm:=good_more hv hgs sg
  obtain ⟨M,hM⟩ : ∃ M,M = Bk.soA ⟨b.t,b.dr,b.rn,g⟩ t b.t.T:=⟨_,rfl⟩
  rw [← hM] at ho sl gm
  have c18:=fun st => w18 H (slV_is : IsSl 1 intL M (slV 1 intL M)) (by omega) st
  rw [gm,hv,Bool.true_and,show chkB b = 0 by unfold chkB; rw [hv]; rfl] at c18
  have c31:=fun st => w31 H hv (resL_is M) (by omega) st
  obtain ⟨Y,hY⟩ : ∃ Y,Y = (risL M (b.t.tm - 1) && b.can M):=⟨_,rfl⟩
  rw [← hY] at c18 c31
  obtain ⟨q,x0,x1,hq,A,hx⟩:=cpyE (lim:=0) ho (by omega) (Nat.zero_le _)
  have a00 : ∀ J : List AO,(hk ++ J)[0]? = some (.cells [I b.t.ch,I b.t.tm,o,w,I b.dr,I b.rn,s] false):=fun J => by rw [List.getElem?_append_left (by omega)]; exact e0
  have hc : (hk ++ x0 :: x1 :: [])[hk.length + q]? = some (.cells (M.flatMap intL) false):=by
   rw [List.getElem?_append_right (by omega),Nat.add_sub_cancel_left]; exact hx
  have vx:=fun st => RdC.view (enc:=intL) (esz:=1) (l:=M) (h:=hk ++ x0 :: x1 :: []) (w:=.ms 1 (hk.length + q) 0 M.length) ⟨hk.length + q,rfl,hc⟩ intE intIv (st:=st) (k:=7)
  have vy:=fun st => (ho.fr (Fr.app hk (x0 :: x1 :: []))).viewL (st:=st) (k:=7)
  simp only [bkV] at c18 c31
  simp (disch:=first|assumption|omega|(simp only[az];done)) only [ru,eq_self,if_true,if_false,BEq.rfl,binI,AO.row?,fillL,loadV,zeros,Am.rowAt,Am.part,Nat.reduceAdd,view_sl H.t.o,view_sl H.t.w,view_sl H.s,pure_sl H.t.o,pure_sl H.t.w,pure_sl H.s,hlt,GO_mapp,hide,unhN,a00,A,vx,vy,c18,c31]
  cases Y
  ·simp (disch:=first|assumption|omega|(simp only[az];done)) only [ru,eq_self,if_true,w17]
  ·simp (disch:=first|assumption|omega|(simp only[az];done)) only [ru,eq_self,if_true,w17]
end
end Go.Proofs.YtfknojncfbahpaaGreat.S
