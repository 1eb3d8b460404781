/-
The specification: times of words, traps without words, Blame, False.
-/
import Derived.Test.YtfknojncfbahpaaGreatWk
import Derived.Test.YtfknojncfbahpaaGreatS2
namespace Go.Proofs.YtfknojncfbahpaaGreat.S
open Go Go.Am Go.Proofs.YtfknojncfbahpaaGreat.T
set_option maxRecDepth 100000
set_option linter.unusedSimpArgs false
set_option linter.unusedVariables false
section
variable {b : Bk} {o w s : AV}
set_option maxHeartbeats 4000000 in
theorem w88 {t : Trap} (H : TrOk t o w) {g : List Int} {gv : AV} (hg : IsSl 1 intL g gv) (hl : g.length ≤ 1000000) : Iso E 88 [trV t o w,gv] false = some (cpW t (qL g)):=by
 have sw:=H.sw
 have c41:=fun st => s41 H st
 have oi : IsSl 1 Ls.e (cpL t.op) (cpO t.op):=cpO_is
 obtain ⟨co,hco⟩ : ∃ co,co = cpO t.op:=⟨_,rfl⟩
 have wi : IsSl 4 Wd.e t.ws (slV 4 Wd.e t.ws):=slV_is
 have HW:=H.w
 have HO:=H.o
 unfold cpW
 simp only [cpV,trV,← hco] at c41 oi ⊢
 refine Iso_of (es _ _ _ _) e88 ?_
 simp only [f88]
 simp (disch:=first|assumption|omega|(simp only[az];done)) only [ru,eq_self,if_true,AO.row?,splice,loadV,storeV,Am.rowAt,Am.part,addOff,Nat.reduceAdd,Nat.reduceLeDiff,Nat.reduceSub,view_sl HW,pure_sl HW,view_sl HO,pure_sl HO,c41,scalar_sl oi,scalar_sl wi]
 refine G_loop_ind (fun m ts hk mk => ∃ (i : Nat) (wv : AV),i ≤ t.ws.length ∧ m = t.ws.length - i ∧ hk[0]? = some (.cells [I t.ch,I t.tm,o,w] false) ∧ hk[1]? = some (.cells [I 0,I 0,.nils,.nils] false) ∧ hk[2]? = some (.cells [I t.ch,I t.tm,co,wv] false) ∧ OutE Wd.e 4 3 hk wv (kpL t.ws (qL g) i) ∧ 3 ≤ hk.length ∧
   ts.length = 32 ∧ ts.getD 1 .undef = gv ∧ ts.getD 2 .undef = .ptr 0 0 ∧ ts.getD 4 .undef = .ptr 1 0 ∧ ts.getD 5 .undef = .ptr 2 0 ∧ ts.getD 6 .undef = I i ∧ mk = []) ?_ _ _ _ _
  ⟨0,.nils,Nat.zero_le _,rfl,rfl,rfl,rfl,.inl ⟨rfl,rfl⟩,by simp,rfl,rfl,rfl,rfl,rfl,rfl,rfl⟩
 rintro m ts hk mk ih ⟨i,wv,hi,rfl,e0,e1,e2,ho,hle,hl',q1,q2,q4,q5,q6,rfl⟩
 rw [lit_all hl']
 simp only [lit0,litS,Nat.reduceAdd,q1,q2,q4,q5,q6]
 simp (disch:=first|assumption|omega|(simp only[az];done)) only [ru,eq_self,if_true,if_false,binI,AO.row?,loadV,Am.rowAt,Am.part,addOff,lenV_sl HW,e0]
 by_cases hlt : (i : Int) < t.ws.length
 case neg =>
  obtain rfl : i = t.ws.length:=by omega
  have n1 : 1 < hk.length:=by omega
  have vw:=fun x : AO => (ho.set (j:=1) (x:=x) (by omega)).viewW (st:=false) (k:=6)
  simp (disch:=first|assumption|omega|(simp only[az];done)) only [ru,eq_self,if_true,AO.row?,splice,loadV,storeV,Am.rowAt,Am.part,Nat.reduceAdd,Nat.reduceLeDiff,hlt,e1,e2,view_sl oi,scalar_sl oi,ho.sc.2,finC,getRes,List.getElem?_set_self n1,Option.some.injEq,exists_eq_left',vw]
 have hi2 : i < t.ws.length:=by omega
 obtain ⟨y,hy⟩ : ∃ y,y = t.ws.getD i default:=⟨_,rfl⟩
 have eW:=elem_sl Wd.el HW i (by omega) hlt
 rw [Int.toNat_natCast,← hy] at eW
 have c40:=fun st => s40 hg hl (i : Int) st
 have eq : qL g i = hasI g (i : Int):=rfl
 cases hh : hasI g (i : Int) <;> rw [hh] at c40 eq
 ·have ho' : OutE Wd.e 4 3 (hk ++ [.tomb]) wv (kpL t.ws (qL g) i):=ho.fr (Fr.app hk _)
  obtain ⟨h',A2,l2,hp,k2⟩:=outE_apG (eb:=32) (p:=hk.length) (lim:=0) Wd.el Wd.sc (by omega) (by omega) ho' (by simp) hle (by omega) (by have:=@kpL_len t.ws (qL g) i; omega) y
  simp only [Wd.e] at A2
  have m0 : 0 < hk.length:=by omega
  have m2 : 2 < hk.length:=by omega
  have d2 : h'[2]? = some (.cells [I t.ch,I t.tm,co,wv] false):=by rw [k2 _ (by omega),at_apT m2]; exact e2
  have a0 : (hk ++ [AO.tomb])[0]? = some (.cells [I t.ch,I t.tm,o,w] false):=by rw [at_apT m0]; exact e0
  have a2 : (hk ++ [AO.tomb])[2]? = some (.cells [I t.ch,I t.tm,co,wv] false):=by rw [at_apT m2]; exact e2
  simp (disch:=first|assumption|omega|(simp only[az];done)) only [ru,eq_self,if_true,if_false,binI,AO.row?,splice,fillL,loadV,storeV,zeros,Am.rowAt,Am.part,addOff,Nat.reduceAdd,Nat.reduceMul,Nat.reduceLeDiff,eW,view_sl hg,pure_sl hg,hlt,Wd.e,c40,GO_mapp,hide,unhN,a0,a2,AV.pureV.go,AV.pureV,A2,d2]
  refine ih (t.ws.length - (i + 1)) _ _ _ (by omega) ⟨i + 1,.ms 4 hk.length 0 ((kpL t.ws (qL g) i).length + 1),by omega,rfl,?_,?_,?_,?_,by simp [l2]; omega,rfl,rfl,rfl,rfl,rfl,rfl,rfl⟩
  ·rw [List.getElem?_set_ne (by omega),k2 _ (by omega)]; exact a0
  ·rw [List.getElem?_set_ne (by omega),k2 _ (by omega),at_apT (by omega)]; exact e1
  ·rw [List.getElem?_set_self (by rw [l2]; simp; omega)]
  ·rw [kpL_no eq,← hy]
   exact .inr ⟨by simp,hk.length,by omega,by simp,by rw [List.getElem?_set_ne (by omega),hp]⟩
 ·simp (disch:=first|assumption|omega|(simp only[az];done)) only [ru,eq_self,if_true,binI,view_sl hg,pure_sl hg,hlt,c40]
  exact ih (t.ws.length - (i + 1)) _ _ _ (by omega) ⟨i + 1,wv,by omega,rfl,e0,e1,e2,by rw [kpL_yes eq]; exact ho,hle,rfl,rfl,rfl,rfl,rfl,rfl,rfl⟩
set_option maxHeartbeats 4000000 in
theorem w87 (H : BkOk b o w s) (hv : b.valid = true) {W : List Int} {lv : AV} (hl : IsSl 1 intL W lv) (hW : ris b.t.ws.length W) : Iso E 87 [bkV b o w s,lv] false = some (resL (tims b.t W)):=by
 have V:=valid_trb (bk_t hv)
 have w8:=valid_w8 (bk_t hv)
 obtain ⟨T1,T2,T3⟩:=tm5 (bk_t hv)
 have Wl:=ris_len hW
 have sw:=H.t.sw
 obtain ⟨P,hP⟩ : ∃ P : Nat → Nat → Bool,P = fun (k i : Nat) => (W.take i).any fun n => (b.t.ws.getD n.toNat default).time == (k : Int):=⟨_,rfl⟩
 have P0 : ∀ k,P k 0 = false:=fun k => by rw [hP]; rfl
 have Ps : ∀ k i,i < W.length → P k (i + 1) = (P k i || (b.t.ws.getD (W.getD i 0).toNat default).time == (k : Int)):=fun k i hi => by
  rw [hP]
  simp only
  rw [List.take_succ_eq_append_getElem hi,List.any_append]
  simp [List.getD_eq_getElem?_getD,hi]
 obtain ⟨F,hF⟩ : ∃ F : Nat → List Int,F = fun n => ((List.range n).filter fun (k : Nat) => P k W.length).map fun (k : Nat) => (k : Int):=⟨_,rfl⟩
 have hm : tims b.t W = F b.t.T:=by rw [hF,hP]; simp only [List.take_length]; rfl
 have F0 : F 0 = []:=by rw [hF]; rfl
 have Fy : ∀ k : Nat,P k W.length = true → F (k + 1) = F k ++ [(k : Int)]:=fun k h => by simp [hF,List.range_succ,h]
 have Fn : ∀ k : Nat,P k W.length = false → F (k + 1) = F k:=fun k h => by simp [hF,List.range_succ,h]
 have Fl : ∀ k,(F k).length ≤ k:=fun k => by
  have:=List.length_filter_le (fun (t : Nat) => P t W.length) (List.range k)
  simpa [hF] using this
 rw [hm]
 clear hF hP hm
 refine Iso_of (es _ _ _ _) e87 ?_
 simp only [f87,bkV]
 simp (disch:=first|assumption|omega|(simp only[az];done)) only [ru,Nat.reduceAdd,Nat.reduceSub]
 refine G_loop_ind (fun m ts hk mk => ∃ (k : Nat) (v : AV),k ≤ b.t.T ∧ m = b.t.T - k ∧ hk[0]? = some (.cells [I b.t.ch,I b.t.tm,o,w,I b.dr,I b.rn,s] false) ∧ 1 ≤ hk.length ∧ OutE intL 1 1 hk v (F k) ∧
   ts.length = 43 ∧ ts.getD 1 .undef = lv ∧ ts.getD 2 .undef = .ptr 0 0 ∧ ts.getD 5 .undef = v ∧ ts.getD 6 .undef = I k ∧ mk = []) ?_ _ _ _ _
  ⟨0,.nils,Nat.zero_le _,rfl,rfl,by simp,.inl ⟨F0,rfl⟩,rfl,rfl,rfl,rfl,rfl,rfl⟩
 rintro m ts hk mk ihK ⟨k,v,hk1,rfl,e0,n1,ho,hl',q1,q2,q5,q6,rfl⟩
 rw [lit_all hl']
 simp only [lit0,litS,Nat.reduceAdd,q1,q2,q5,q6]
 simp (disch:=first|assumption|omega|(simp only[az];done)) only [ru,eq_self,if_true,if_false,binI,AO.row?,loadV,Am.rowAt,Am.part,addOff,e0]
 by_cases hlt : (k : Int) < b.t.tm
 case neg =>
  obtain rfl : k = b.t.T:=by omega
  have vw:=ho.viewL (st:=false) (k:=7)
  simp (disch:=first|assumption|omega|(simp only[az];done)) only [ru,eq_self,hlt,vw]
 simp (disch:=first|assumption|omega|(simp only[az];done)) only [ru,hlt]
 clear hl' q1 q2 q5 q6
 refine G_loop_ind (fun m ts hk' mk => ∃ (i : Nat),i ≤ W.length ∧ m = W.length - i ∧ hk' = hk ∧
   ts.length = 43 ∧ ts.getD 1 .undef = lv ∧ ts.getD 2 .undef = .ptr 0 0 ∧ ts.getD 5 .undef = v ∧ ts.getD 6 .undef = I k ∧ ts.getD 7 .undef = Bo (P k i) ∧ ts.getD 8 .undef = I i ∧ mk = []) ?_ _ _ _ _
  ⟨0,Nat.zero_le _,rfl,rfl,rfl,rfl,rfl,rfl,rfl,by rw [P0]; rfl,rfl,rfl⟩
 rintro m ts hk' mk ihI ⟨i,hi,rfl,rfl,hl',q1,q2,q5,q6,q7,q8,rfl⟩
 rw [lit_all hl']
 simp only [lit0,litS,Nat.reduceAdd,q1,q2,q5,q6,q7,q8]
 simp (disch:=first|assumption|omega|(simp only[az];done)) only [ru,eq_self,if_true,binI,lenV_sl hl]
 by_cases hlti : (i : Int) < W.length
 case neg =>
  obtain rfl : i = W.length:=by omega
  cases hp : P k W.length
  ·simp (disch:=first|assumption|omega|(simp only[az];done)) only [ru,eq_self,if_true,binI,hlti]
   exact ihK (b.t.T - (k + 1)) _ _ _ (by omega) ⟨k + 1,v,by omega,rfl,e0,n1,by rw [Fn k hp]; exact ho,rfl,rfl,rfl,rfl,rfl,rfl⟩
  ·obtain ⟨v',h',ha,ho',hb',hk''⟩:=outE_ap (lim:=0) (eb:=8) intE (fun _ => rfl) (by omega) (by omega) (by omega) ho n1 (by omega) (by have:=Fl k; omega) (k : Int)
   simp (disch:=first|assumption|omega|(simp only[az];done)) only [ru,eq_self,if_true,binI,splice,fillL,zeros,Nat.reduceMul,Nat.reduceLeDiff,hlti,ha]
   exact ihK (b.t.T - (k + 1)) _ _ _ (by omega) ⟨k + 1,v',by omega,rfl,by rw [hk'' 0 (by omega)]; exact e0,hb',by rw [Fy k hp]; exact ho',rfl,rfl,rfl,rfl,rfl,rfl⟩
 have hi2 : i < W.length:=by omega
 have su:=Ps k i hi2
 obtain ⟨x,hx⟩ : ∃ x,x = W.getD i default:=⟨_,rfl⟩
 have hx' : W.getD i 0 = x:=hx.symm
 have hxb:=hW.1 x (by rw [hx]; exact getD_mem hi2)
 rw [hx'] at su
 obtain ⟨y,hy⟩ : ∃ y,y = b.t.ws.getD x.toNat default:=⟨_,rfl⟩
 rw [← hy] at su
 have x1:=hxb.1
 have x2:=hxb.2
 cases hp : P k i
 ·rw [hp,Bool.false_or] at su
  cases hz : (y.time == (k : Int)) <;> rw [hz] at su
  ·have hz':=hz
   simp only [beq_eq_false_iff_ne,ne_eq] at hz'
   simp (disch:=first|assumption|omega|(simp only[az];done)) only [ru,eq_self,if_true,if_false,binI,AO.row?,loadV,Am.rowAt,Am.part,addOff,elem_sl Wd.el H.t.w,Int.toNat_natCast,elem_sl intE hl,hlti,e0,← hx,← hy,Wd.e,hz]
   exact ihI (W.length - (i + 1)) _ _ _ (by omega) ⟨i + 1,by omega,rfl,rfl,rfl,rfl,rfl,rfl,rfl,by rw [su]; rfl,rfl,rfl⟩
  ·have hz':=hz
   simp only [beq_iff_eq] at hz'
   simp (disch:=first|assumption|omega|(simp only[az];done)) only [ru,eq_self,if_true,if_false,BEq.rfl,binI,AO.row?,loadV,Am.rowAt,Am.part,addOff,elem_sl Wd.el H.t.w,Int.toNat_natCast,elem_sl intE hl,hlti,e0,← hx,← hy,Wd.e,hz']
   exact ihI (W.length - (i + 1)) _ _ _ (by omega) ⟨i + 1,by omega,rfl,rfl,rfl,rfl,rfl,rfl,rfl,by rw [su]; rfl,rfl,rfl⟩
 ·rw [hp,Bool.true_or] at su
  simp (disch:=first|assumption|omega|(simp only[az];done)) only [ru,eq_self,if_true,binI,hlti]
  exact ihI (W.length - (i + 1)) _ _ _ (by omega) ⟨i + 1,by omega,rfl,rfl,rfl,rfl,rfl,rfl,rfl,by rw [su]; rfl,rfl,rfl⟩
theorem w43 (H : BkOk b o w s) (hv : b.valid = true) {W : List Int} {lv : AV} (hl : IsSl 1 intL W lv) (hW : ris b.t.ws.length W) : Iso E 43 [bkV b o w s,lv] false = some (Bo (b.fal W)):=by
 have V:=valid_trb (bk_t hv)
 obtain ⟨T1,T2,T3⟩:=tm5 (bk_t hv)
 have w8:=valid_w8 (bk_t hv)
 have Wl:=ris_len hW
 have c87:=w87 H hv hl hW
 have tr:=tims_ris V (W:=W)
 have ti:=resL_is (tims b.t W)
 have tl:=ris_len tr
 have c31:=fun st => w31 H hv ti (by omega) st
 rw [(bk_ris hv).2 tr,Bool.true_and] at c31
 have c88:=w88 H.t hl (by omega)
 have c32:=fun st => w32 H.t (bk_t hv) (qL W) st
 have ef : b.fal W = (b.can (tims b.t W) && solB (b.t.kp (qL W))):=rfl
 rw [ef]
 have wi:=resW_is (kpL b.t.ws (qL W) b.t.ws.length)
 have oi : IsSl 1 Ls.e (cpL b.t.op) (cpO b.t.op):=cpO_is
 obtain ⟨co,hco⟩ : ∃ co,co = cpO b.t.op:=⟨_,rfl⟩
 obtain ⟨cw,hcw⟩ : ∃ cw,cw = resW (kpL b.t.ws (qL W) b.t.ws.length):=⟨_,rfl⟩
 obtain ⟨tv,htv⟩ : ∃ tv,tv = resL (tims b.t W):=⟨_,rfl⟩
 simp only [bkV,trV,cpW,← hco,← hcw,← htv] at c87 c31 c88 c32 wi oi ti
 obtain ⟨C,hC⟩ : ∃ C,C = b.can (tims b.t W):=⟨_,rfl⟩
 rw [← hC] at c31 ⊢
 refine Iso_of (es _ _ _ _) e43 ?_
 simp only [f43,bkV]
 cases C
 ·simp (disch:=first|assumption|omega|(simp only[az];done)) only [ru,eq_self,if_true,if_false,AO.row?,loadV,Am.rowAt,Am.part,Nat.reduceAdd,Nat.reduceSub,view_sl H.t.o,view_sl H.t.w,view_sl H.s,pure_sl H.t.o,pure_sl H.t.w,pure_sl H.s,view_sl hl,pure_sl hl,c87,view_sl ti,pure_sl ti,c31]
 ·simp (disch:=first|assumption|omega|(simp only[az];done)) only [ru,eq_self,if_true,AO.row?,loadV,Am.rowAt,Am.part,addOff,Nat.reduceAdd,Nat.reduceSub,view_sl H.t.o,view_sl H.t.w,view_sl H.s,pure_sl H.t.o,pure_sl H.t.w,pure_sl H.s,view_sl hl,pure_sl hl,c87,view_sl ti,pure_sl ti,c31,c88,view_sl wi,pure_sl wi,view_sl oi,pure_sl oi,c32]
theorem fal_ex (hv : b.valid = true) (hs : b.sts ≠ []) : ∃ W,ris b.t.ws.length W ∧ b.fal W = true:=by
 obtain ⟨g,hg⟩ : ∃ g,g ∈ b.sts:=by
  cases h : b.sts with
  | nil => exact absurd h hs
  | cons g _ => exact ⟨g,by simp⟩
 obtain ⟨hr,hc,x,hx⟩:=mem_sts.1 hg
 have V:=valid_trb (bk_t hv)
 obtain ⟨T1,T2,T3⟩:=tm5 (bk_t hv)
 obtain ⟨W,hW⟩ : ∃ W : List Int,W = ((List.range b.t.ws.length).filter fun i => qG b.t g i).map fun (i : Nat) => (i : Int):=⟨_,rfl⟩
 have mW : ∀ x : Int,x ∈ W ↔ ∃ i : Nat,i < b.t.ws.length ∧ qG b.t g i = true ∧ (i : Int) = x:=fun x => by
  rw [hW]; simp only [List.mem_map,List.mem_filter,List.mem_range,and_assoc]
 have rW : ris b.t.ws.length W:=by
  refine ⟨fun x hx => ?_,?_⟩
  ·obtain ⟨i,h1,_,rfl⟩:=(mW x).1 hx; omega
  ·rw [hW,List.pairwise_map]
   exact ((List.pairwise_lt_range (n:=b.t.ws.length)).filter _).imp fun h => by omega
 have qe : ∀ i,i < b.t.ws.length → qL W i = qG b.t g i:=fun i hi => by
  rw [Bool.eq_iff_iff]
  unfold qL
  rw [hasI_iff,mW]
  exact ⟨fun ⟨j,_,h2,h3⟩ => by
                  obtain rfl : j = i:=by omega
                  exact h2,fun h => ⟨i,hi,h,rfl⟩⟩
 have ke : b.t.kp (qL W) = b.t.kp (qG b.t g):=by
  unfold Trap.kp; rw [kpL_congr qe]
 refine ⟨W,rW,?_⟩
 unfold Bk.fal
 rw [Bool.and_eq_true,ke,solB_iff]
 refine ⟨can_sub (by omega) hr (tims_ris V) (fun y hy => ?_) hc,x,hx⟩
 obtain ⟨n,hn,rfl⟩:=(mem_tims V rW).1 hy
 obtain ⟨i,hi,hq,rfl⟩:=(mW n).1 hn
 unfold qG at hq
 rw [Int.toNat_natCast]
 exact hasI_iff.1 hq
end
end Go.Proofs.YtfknojncfbahpaaGreat.S
