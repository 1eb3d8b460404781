/-
The law of the answer.
-/
import Derived.Test.YtfknojncfbahpaaGreatWy
namespace Go.Proofs.YtfknojncfbahpaaGreat.S
open Go Go.Am Go.Proofs.YtfknojncfbahpaaGreat.T
set_option maxRecDepth 100000
set_option linter.unusedSimpArgs false
set_option linter.unusedVariables false
theorem bes_min {f : Int → Int} : ∀ k,(1 ≤ k → bes f k < k) ∧ (∀ t : Nat,t < k → f (bes f k : Nat) ≤ f t) ∧ (∀ t : Nat,t < bes f k → f (bes f k : Nat) < f t)
 | 0 => ⟨fun h => absurd h (by omega),fun t h => absurd h (by omega),fun t h => absurd h (by simp [bes])⟩
 |
  k + 1 => by
  obtain ⟨i1,i2,i3⟩:=bes_min (f:=f) k
  simp only [bes]
  by_cases h : f k < f (bes f k : Nat)
  ·rw [if_pos h]
   refine ⟨fun _ => by omega,fun t ht => ?_,fun t ht => ?_⟩
   ·by_cases e : t = k
    ·subst e; omega
    ·have:=i2 t (by omega); omega
   ·have:=i2 t ht; omega
  ·rw [if_neg h]
   refine ⟨fun _ => ?_,fun t ht => ?_,i3⟩
   ·have:=bes_lt (f:=f) k
    by_cases e : k = 0
    ·subst e; simp [bes]
    ·have:=i1 (by omega); omega
   ·by_cases e : t = k
    ·subst e; omega
    ·exact i2 t (by omega)
section
variable {b : Bk} {o w s : AV}
theorem sts_len5 (hv : b.valid = true) : b.sts.length ≤ 32:=by
 have h1:=List.length_filter_le b.st (alls b.t.T)
 have hT:=(tm5 (bk_t hv)).2.2
 have h2 : (alls b.t.T).length = 2 ^ b.t.T:=of_decide_eq_true (List.all_eq_true.1 allsN b.t.T (List.mem_range.2 (by omega)))
 have h3:=Nat.pow_le_pow_right (n:=2) (by omega) (show b.t.T ≤ 5 by omega)
 show ((alls b.t.T).filter b.st).length ≤ 32
 omega
theorem w36 (H : BkOk b o w s) (hv : b.valid = true) : Iso E 36 [bkV b o w s] false = some (I b.sts.length):=by
 have c51:=w51 H
 rw [if_pos hv,show chkB b = 0 by unfold chkB; rw [hv]; rfl] at c51
 have:=sts_len5 hv
 have h1 : ¬ (b.sts.length : Int) > 32:=by omega
 have h0 : ¬ (b.sts.length : Int) < 0:=by omega
 refine Iso_of (es _ _ _ _) e36 ?_
 simp only [f36,bkV] at c51 ⊢
 simp (disch:=first|assumption|omega|(simp only[az];done)) only [ru,eq_self,if_true,if_false,binI,AO.row?,loadV,Am.rowAt,Am.part,Nat.reduceAdd,Nat.reduceSub,Int.reduceNeg,view_sl H.t.o,view_sl H.t.w,view_sl H.s,pure_sl H.t.o,pure_sl H.t.w,pure_sl H.s,c51,h0,h1]
def Bk.soA (b : Bk) (t : Int) (n : Nat) : List Int:=((List.range n).filter fun (i : Nat) => decide ((i : Int) = t) || hasI b.so i).map fun (i : Nat) => (i : Int)
def Bk.sob (b : Bk) (t : Int) : Bk:=⟨b.t.cp,b.dr,b.rn,b.soA t b.t.T⟩
theorem mem_soA {t : Int} {n : Nat} {x : Int} : x ∈ b.soA t n ↔ (0 ≤ x ∧ x < n) ∧ (x = t ∨ x ∈ b.so):=by
 simp only [Bk.soA,List.mem_map,List.mem_filter,List.mem_range,Bool.or_eq_true,decide_eq_true_eq,hasI_iff]
 constructor
 ·rintro ⟨i,⟨h1,h2⟩,rfl⟩; exact ⟨by omega,h2⟩
 ·rintro ⟨h1,h2⟩
  have e : ((x.toNat : Nat) : Int) = x:=Int.toNat_of_nonneg h1.1
  exact ⟨x.toNat,⟨by omega,by rw [e]; exact h2⟩,e⟩
theorem soA_len {t : Int} {n : Nat} : (b.soA t n).length ≤ n:=by
 have:=List.length_filter_le (fun (i : Nat) => decide ((i : Int) = t) || hasI b.so i) (List.range n)
 simpa [Bk.soA] using this
theorem soA_ris {t : Int} {n : Nat} : ris n (b.soA t n):=by
 refine ⟨fun x hx => (mem_soA.1 hx).1,?_⟩
 unfold Bk.soA
 rw [List.pairwise_map]
 exact ((List.pairwise_lt_range (n:=n)).filter _).imp fun h => by omega
theorem soA_yes {t : Int} {n : Nat} (h : (decide ((n : Int) = t) || hasI b.so n) = true) : b.soA t (n + 1) = b.soA t n ++ [(n : Int)]:=by
 simp [Bk.soA,List.range_succ,h]
theorem soA_no {t : Int} {n : Nat} (h : (decide ((n : Int) = t) || hasI b.so n) = false) : b.soA t (n + 1) = b.soA t n:=by
 simp [Bk.soA,List.range_succ,h]
theorem sob_valid (hv : b.valid = true) {t : Int} : (b.sob t).valid = true:=by
 have V:=valid_trb (bk_t hv)
 have eT:=trT V
 have v1:=V.t0
 have e : risL (b.soA t b.t.T) (b.t.tm - 1) = true:=(bk_ris hv).2 soA_ris
 simp only [Bk.valid,Bool.and_eq_true] at hv ⊢
 exact ⟨⟨⟨cp_valid.trans hv.1.1.1,hv.1.1.2⟩,hv.1.2⟩,e⟩
theorem sob_can {g : List Int} (hg : ris b.t.T g) {t : Int} : (b.sob t).can g = (b.can g && !hasI g t):=by
 have e : (g.any fun x => hasI (b.soA t b.t.T) x) = ((g.any fun x => hasI b.so x) || hasI g t):=by
  rw [Bool.eq_iff_iff]
  simp only [List.any_eq_true,hasI_iff,mem_soA,Bool.or_eq_true]
  constructor
  ·rintro ⟨x,hx,_,rfl | h⟩
   ·exact .inr hx
   ·exact .inl ⟨x,hx,h⟩
  ·rintro (⟨x,hx,h⟩ | h)
   ·exact ⟨x,hx,hg.1 x hx,.inr h⟩
   ·exact ⟨t,h,hg.1 t h,.inl rfl⟩
 show (decide ((g.length : Int) ≤ b.dr) && decide (S.rn g ≤ b.rn) && !(g.any fun x => hasI (b.soA t b.t.T) x)) = _
 rw [e]
 unfold Bk.can
 cases (g.any fun x => hasI b.so x) <;> cases hasI g t <;> simp
theorem sob_sts {t : Int} : (b.sob t).sts = b.sts.filter fun g => !hasI g t:=by
 unfold Bk.sts
 rw [List.filter_filter,show (b.sob t).t.T = b.t.T from rfl]
 refine List.filter_congr fun g hg => ?_
 unfold Bk.st
 rw [sob_can (mem_alls.1 hg),show (b.sob t).t.kp (qG (b.sob t).t g) = (b.t.kp (qG b.t g)).cp from rfl,cpb_solB]
 cases b.can g <;> cases hasI g t <;> simp
theorem sob_len {t : Int} : ((b.sob t).sts.length : Int) = b.sts.length - cntN b.sts t:=by
 have : ∀ L : List (List Int),(L.filter fun g => !hasI g t).length + cntN L t = L.length:=by
  intro L
  induction L with
  | nil => rfl
  |
   cons g L ih =>
   rw [cnt_cons,List.filter_cons]
   cases hasI g t <;> simp <;> omega
 have:=this b.sts
 rw [sob_sts]; omega
theorem sob_ok (H : BkOk b o w s) (hv : b.valid = true) {t : Int} {sv : AV} (hs : IsSl 1 intL (b.soA t b.t.T) sv) : BkOk (b.sob t) (cpO b.t.op) (slV 4 Wd.e b.t.ws) sv :=
 ⟨H.t.cp cpO_is slV_is,hs,by
  have:=soA_len (b:=b) (t:=t) (n:=b.t.T)
  have:=(tm5 (bk_t hv)).2.2
  show (b.soA t b.t.T).length ≤ 40
  omega⟩
set_option maxHeartbeats 4000000 in
theorem w39 (H : BkOk b o w s) (hv : b.valid = true) (t : Int) : Iso E 39 [bkV b o w s,I t] false = some (bkV (b.sob t) (cpO b.t.op) (slV 4 Wd.e b.t.ws) (resL (b.soA t b.t.T))):=by
 have ss:=H.ss
 obtain ⟨T1,T2,T3⟩:=tm5 (bk_t hv)
 have c35:=w35 H
 have oi : IsSl 1 Ls.e (cpL b.t.op) (cpO b.t.op):=cpO_is
 have wi : IsSl 4 Wd.e b.t.ws (slV 4 Wd.e b.t.ws):=slV_is
 have si : IsSl 1 intL b.so (slV 1 intL b.so):=slV_is
 unfold cpB at c35
 obtain ⟨co,hco⟩ : ∃ co,co = cpO b.t.op:=⟨_,rfl⟩
 obtain ⟨cw,hcw⟩ : ∃ cw,cw = slV 4 Wd.e b.t.ws:=⟨_,rfl⟩
 obtain ⟨cs,hcs⟩ : ∃ cs,cs = slV 1 intL b.so:=⟨_,rfl⟩
 rw [← hco,← hcw,← hcs] at c35
 rw [← hco] at oi
 rw [← hcw] at wi
 rw [← hcs] at si
 rw [← hco,← hcw]
 simp only [bkV] at c35
 show Iso E 39 [AV.agg [I b.t.ch,I b.t.tm,o,w,I b.dr,I b.rn,s],I t] false = some (AV.agg [I b.t.ch,I b.t.tm,co,cw,I b.dr,I b.rn,resL (b.soA t b.t.T)])
 refine Iso_of (es _ _ _ _) e39 ?_
 simp only [f39]
 simp (disch:=first|assumption|omega|(simp only[az];done)) only [ru,eq_self,if_true,AO.row?,splice,loadV,storeV,Am.rowAt,Am.part,addOff,Nat.reduceAdd,Nat.reduceLeDiff,Nat.reduceSub,view_sl H.t.o,view_sl H.t.w,view_sl H.s,pure_sl H.t.o,pure_sl H.t.w,pure_sl H.s,c35,scalar_sl oi,scalar_sl wi,scalar_sl si]
 refine G_loop_ind (fun m ts hk mk => ∃ (k : Nat) (v : AV),k ≤ b.t.T ∧ m = b.t.T - k ∧ hk[0]? = some (.cells [I b.t.ch,I b.t.tm,o,w,I b.dr,I b.rn,s] false) ∧ hk[1]? = some (.cells [I 0,I 0,.nils,.nils,I 0,I 0,.nils] false) ∧ hk[2]? = some (.cells [I b.t.ch,I b.t.tm,co,cw,I b.dr,I b.rn,v] false) ∧ OutE intL 1 3 hk v (b.soA t k) ∧ 3 ≤ hk.length ∧
   ts.length = 33 ∧ ts.getD 1 .undef = I t ∧ ts.getD 2 .undef = .ptr 0 0 ∧ ts.getD 4 .undef = .ptr 1 0 ∧ ts.getD 5 .undef = .ptr 2 0 ∧ ts.getD 6 .undef = I k ∧ mk = []) ?_ _ _ _ _
  ⟨0,.nils,Nat.zero_le _,rfl,rfl,rfl,rfl,.inl ⟨rfl,rfl⟩,by simp,rfl,rfl,rfl,rfl,rfl,rfl,rfl⟩
 rintro m ts hk mk ih ⟨k,v,hk1,rfl,e0,e1,e2,ho,n3,hl',q1,q2,q4,q5,q6,rfl⟩
 rw [lit_all hl']
 simp only [lit0,litS,Nat.reduceAdd,q1,q2,q4,q5,q6]
 simp (disch:=first|assumption|omega|(simp only[az];done)) only [ru,eq_self,if_true,if_false,binI,AO.row?,loadV,Am.rowAt,Am.part,addOff,e0]
 by_cases hlt : (k : Int) < b.t.tm
 case neg =>
  obtain rfl : k = b.t.T:=by omega
  have n1 : 1 < hk.length:=by omega
  have vw:=fun x : AO => (ho.set (j:=1) (x:=x) (by omega)).viewL (st:=false) (k:=6)
  simp (disch:=first|assumption|omega|(simp only[az];done)) only [ru,eq_self,if_true,AO.row?,splice,loadV,storeV,Am.rowAt,Am.part,Nat.reduceAdd,Nat.reduceLeDiff,hlt,e1,e2,view_sl oi,scalar_sl oi,view_sl wi,scalar_sl wi,ho.sc.2,finC,getRes,List.getElem?_set_self n1,Option.some.injEq,exists_eq_left',vw]
 have c40:=fun st => s40 H.s (by omega) (k : Int) st
 have sl:=soA_len (b:=b) (t:=t) (n:=k)
 obtain ⟨v',h',ha,ho',hb',hk'⟩:=outE_ap (lim:=0) (eb:=8) intE (fun _ => rfl) (by omega) (by omega) (by omega) ho n3 (by omega) (by omega) (k : Int)
 have a0 : h'[0]? = some (.cells [I b.t.ch,I b.t.tm,o,w,I b.dr,I b.rn,s] false):=by rw [hk' 0 (by omega)]; exact e0
 have a1 : h'[1]? = some (.cells [I 0,I 0,.nils,.nils,I 0,I 0,.nils] false):=by rw [hk' 1 (by omega)]; exact e1
 have a2 : h'[2]? = some (.cells [I b.t.ch,I b.t.tm,co,cw,I b.dr,I b.rn,v] false):=by rw [hk' 2 (by omega)]; exact e2
 have step : (decide ((k : Int) = t) || hasI b.so k) = true → OutE intL 1 3 (h'.set 2 (.cells [I b.t.ch,I b.t.tm,co,cw,I b.dr,I b.rn,v'] false)) v' (b.soA t (k + 1)):=fun h => by
  rw [soA_yes h]
  exact OutE.set ho' (by omega)
 have s0 : (h'.set 2 (.cells [I b.t.ch,I b.t.tm,co,cw,I b.dr,I b.rn,v'] false))[0]? = some (.cells [I b.t.ch,I b.t.tm,o,w,I b.dr,I b.rn,s] false):=by rw [List.getElem?_set_ne (by omega)]; exact a0
 have s1 : (h'.set 2 (.cells [I b.t.ch,I b.t.tm,co,cw,I b.dr,I b.rn,v'] false))[1]? = some (.cells [I 0,I 0,.nils,.nils,I 0,I 0,.nils] false):=by rw [List.getElem?_set_ne (by omega)]; exact a1
 have s2 : (h'.set 2 (.cells [I b.t.ch,I b.t.tm,co,cw,I b.dr,I b.rn,v'] false))[2]? = some (.cells [I b.t.ch,I b.t.tm,co,cw,I b.dr,I b.rn,v'] false):=List.getElem?_set_self (by omega)
 have s3 : 3 ≤ (h'.set 2 (.cells [I b.t.ch,I b.t.tm,co,cw,I b.dr,I b.rn,v'] false)).length:=by rw [List.length_set]; exact hb'
 by_cases e : (k : Int) = t
 ·have h : (decide ((k : Int) = t) || hasI b.so k) = true:=by simp [e]
  subst e
  simp (disch:=first|assumption|omega|(simp only[az];done)) only [ru,eq_self,if_true,if_false,BEq.rfl,binI,AO.row?,splice,fillL,loadV,storeV,zeros,Am.rowAt,Am.part,addOff,Nat.reduceAdd,Nat.reduceMul,Nat.reduceLeDiff,hlt,e2,ho'.sc.1,ho'.sc.2,ha,a2]
  exact ih (b.t.T - (k + 1)) _ _ _ (by omega) ⟨k + 1,v',by omega,rfl,s0,s1,s2,step h,s3,rfl,rfl,rfl,rfl,rfl,rfl,rfl⟩
 ·cases hh : hasI b.so k
  ·have h : (decide ((k : Int) = t) || hasI b.so k) = false:=by simp [e,hh]
   simp (disch:=first|assumption|omega|(simp only[az];done)) only [ru,eq_self,if_true,if_false,binI,AO.row?,loadV,Am.rowAt,Am.part,addOff,view_sl H.s,pure_sl H.s,hlt,e0,e,c40,hh]
   exact ih (b.t.T - (k + 1)) _ _ _ (by omega) ⟨k + 1,v,by omega,rfl,e0,e1,e2,by rw [soA_no h]; exact ho,n3,rfl,rfl,rfl,rfl,rfl,rfl,rfl⟩
  ·have h : (decide ((k : Int) = t) || hasI b.so k) = true:=by simp [e,hh]
   simp (disch:=first|assumption|omega|(simp only[az];done)) only [ru,eq_self,if_true,if_false,binI,AO.row?,splice,fillL,loadV,storeV,zeros,Am.rowAt,Am.part,addOff,Nat.reduceAdd,Nat.reduceMul,Nat.reduceLeDiff,view_sl H.s,pure_sl H.s,hlt,e0,e2,e,ho'.sc.1,ho'.sc.2,c40,hh,ha,a2]
   exact ih (b.t.T - (k + 1)) _ _ _ (by omega) ⟨k + 1,v',by omega,rfl,s0,s1,s2,step h,s3,rfl,rfl,rfl,rfl,rfl,rfl,rfl⟩
theorem l8_stories (H : BkOk b o w s) (hv : b.valid = true) (t : Int) : ∃ B co cw sv,Iso E 39 [bkV b o w s,I t] false = some (AV.agg [I b.t.ch,I b.t.tm,co,cw,I b.dr,I b.rn,sv]) ∧ B = AV.agg [I b.t.ch,I b.t.tm,co,cw,I b.dr,I b.rn,sv] ∧ Iso E 36 [B] false = some (I ((b.sts.length : Int) - cntN b.sts t)) ∧ IsSl 1 Ls.e (cpL b.t.op) co ∧ IsSl 4 Wd.e b.t.ws cw ∧ IsSl 1 intL (b.soA t b.t.T) sv:=by
 have c36:=w36 (sob_ok H hv (t:=t) (resL_is (b.soA t b.t.T))) (sob_valid hv)
 rw [sob_len] at c36
 exact ⟨_,_,_,_,w39 H hv t,rfl,c36,cpO_is,slV_is,resL_is _⟩
set_option maxHeartbeats 8000000 in
theorem l8 (H0 : BkIn b o w s) (t : Int) : Iso E 8 [bkV b o w s,I t] false = some (Bo true):=by
 have c15:=fun st => w15 H0 st
 obtain ⟨r,hr⟩ : ∃ r,r = (!b.far && b.valid):=⟨_,rfl⟩
 rw [← hr] at c15
 cases r
 ·refine Iso_of (es _ _ _ _) e8 ?_
  simp only [f8,bkV] at c15 ⊢
  simp (disch:=first|assumption|omega|(simp only[az];done)) only [ru,eq_self,if_true,AO.row?,loadV,Am.rowAt,Am.part,Nat.reduceAdd,Nat.reduceSub,view_sl H0.t.o,view_sl H0.t.w,view_sl H0.s,pure_sl H0.t.o,pure_sl H0.t.w,pure_sl H0.s,c15,w17]
 obtain ⟨hf,hv⟩ : b.far = false ∧ b.valid = true:=by simpa using hr.symm
 have H:=H0.ok (far_huge hf)
 have V:=valid_trb (bk_t hv)
 obtain ⟨T1,T2,T3⟩:=tm5 (bk_t hv)
 have v0:=V.t0
 have c38:=fun x st => w38 H x st
 rw [wr64 (by omega) (by omega)] at c38
 cases ht : inR t 0 (b.t.tm - 1)
 ·have c38:=fun st => c38 t st
  rw [ht] at c38
  refine Iso_of (es _ _ _ _) e8 ?_
  simp only [f8,bkV] at c15 c38 ⊢
  simp (disch:=first|assumption|omega|(simp only[az];done)) only [ru,eq_self,if_true,if_false,AO.row?,loadV,Am.rowAt,Am.part,Nat.reduceAdd,Nat.reduceSub,view_sl H.t.o,view_sl H.t.w,view_sl H.s,pure_sl H.t.o,pure_sl H.t.w,pure_sl H.s,c15,c38,w17]
 have d38:=fun st => c38 t st
 rw [ht] at d38
 have hb:=inR_iff.1 ht
 have c36:=w36 H hv
 have sl:=sts_len5 hv
 obtain ⟨B1,o1,w1,s1,c39,hB1,k36,io1,iw1,is1⟩:=l8_stories H hv t
 subst hB1
 obtain ⟨a,e,c40,A⟩:=w40 H
 have cl:=@cntN_le b.sts t
 obtain ⟨z,hz⟩ : ∃ z : Int,z = cntN b.sts t:=⟨_,rfl⟩
 obtain ⟨n,hn⟩ : ∃ n : Int,n = b.sts.length:=⟨_,rfl⟩
 rw [← hz,← hn] at k36
 rw [← hn] at c36
 have g1 : ¬ n < 0:=by omega
 have g2 : ¬ n - z < 0:=by omega
 have g3 : ¬ n - z > n:=by omega
 by_cases hs : b.sts = []
 ·have h1:=A.no hv hs
  obtain ⟨rfl,rfl⟩ : a = 0 ∧ e = 3:=by simpa using h1
  have n0 : n = 0:=by rw [hn,hs]; rfl
  have z0 : z = 0:=by omega
  subst n0 z0
  refine Iso_of (es _ _ _ _) e8 ?_
  simp only [f8,bkV] at c15 d38 c36 c39 k36 c40 ⊢
  simp (disch:=first|assumption|omega|(simp only[az];done)) only [ru,eq_self,if_true,if_false,BEq.rfl,binI,AO.row?,loadV,Am.rowAt,Am.part,Nat.reduceAdd,Nat.reduceSub,Int.reduceEq,Int.reduceLT,Int.reduceGT,Int.reduceSub,view_sl H.t.o,view_sl H.t.w,view_sl H.s,pure_sl H.t.o,pure_sl H.t.w,pure_sl H.s,c15,d38,c36,c39,k36,c40,view_sl iw1,pure_sl iw1,view_sl io1,pure_sl io1,view_sl is1,pure_sl is1,w34b,w17]
 have pos : 0 < b.sts.length:=List.length_pos_iff.2 hs
 have n0 : ¬ n = 0:=by omega
 have h1:=A.yes hv hs
 obtain ⟨k,ek,c30,A2⟩:=w30 H t
 have h2 : (k,ek) = (agr (inG t) b.sts,0):=by
  cases A2 with
  | bad h => rw [hv] at h; cases h
  | arg _ h => rw [wr64 (by omega) (by omega),ht] at h; cases h
  | none _ _ h => exact absurd h hs
  | ok _ _ _ hp => exact hp
 obtain ⟨rfl,rfl⟩ : k = agr (inG t) b.sts ∧ ek = 0:=by simpa using h2
 rw [agr_cnt hs t,← hz,← hn] at c30
 have ez : n - (n - z) = z:=by omega
 have c41:=fun st => w41 z n st
 obtain ⟨kk,hkk⟩ : ∃ kk,kk = knV z n:=⟨_,rfl⟩
 rw [← hkk] at c30 c41
 by_cases l1 : b.sts.length = 1
 ·rw [if_pos l1,if_pos l1] at h1
  obtain ⟨rfl,rfl⟩ : a = 0 ∧ e = 3:=by simpa using h1
  have n1 : n = 1:=by omega
  subst n1
  refine Iso_of (es _ _ _ _) e8 ?_
  simp only [f8,bkV] at c15 d38 c36 c39 k36 c40 c30 ⊢
  simp (disch:=first|assumption|omega|(simp only[az];done)) only [ru,eq_self,if_true,if_false,BEq.rfl,binI,AO.row?,loadV,Am.rowAt,Am.part,Nat.reduceAdd,Nat.reduceSub,Int.reduceEq,Int.reduceGT,view_sl H.t.o,view_sl H.t.w,view_sl H.s,pure_sl H.t.o,pure_sl H.t.w,pure_sl H.s,c15,d38,c36,c39,k36,c40,c30,c41,ez,g1,g2,g3,view_sl iw1,pure_sl iw1,view_sl io1,pure_sl io1,view_sl is1,pure_sl is1,w34b,w17]
 rw [if_neg l1,if_neg l1] at h1
 obtain ⟨rfl,rfl⟩ : a = ((bes (lfN b.sts) b.t.T : Nat) : Int) ∧ e = 0:=by simpa using h1
 have n1 : n > 1:=by omega
 obtain ⟨b1,b2,b3⟩:=bes_min (f:=lfN b.sts) b.t.T
 have b1:=b1 (by omega)
 obtain ⟨q,hq⟩ : ∃ q : Int,q = ((bes (lfN b.sts) b.t.T : Nat) : Int):=⟨_,rfl⟩
 have hqb : inR q 0 (b.t.tm - 1) = true:=by rw [inR_iff]; omega
 have q38:=fun st => c38 q st
 rw [hqb] at q38
 have bm : lfN b.sts q ≤ lfN b.sts t:=by
  have:=b2 t.toNat (by omega)
  rwa [← hq,Int.toNat_of_nonneg hb.1] at this
 have bf : t < q → lfN b.sts q < lfN b.sts t:=fun h => by
  have:=b3 t.toNat (by omega)
  rwa [← hq,Int.toNat_of_nonneg hb.1] at this
 rw [← hq] at c40
 obtain ⟨B2,o2,w2,s2,q39,hB2,q36,io2,iw2,is2⟩:=l8_stories H hv q
 subst hB2
 have cq:=@cntN_le b.sts q
 unfold lfN at bm bf
 obtain ⟨y,hy⟩ : ∃ y : Int,y = cntN b.sts q:=⟨_,rfl⟩
 rw [← hz,← hy,← hn] at bm bf
 rw [← hy,← hn] at q36
 have g4 : ¬ n - y < 0:=by omega
 have g5 : ¬ n - y > n:=by omega
 have ey : n - (n - y) = y:=by omega
 have mc : ∀ u v : Int,mmx true u v = mmx true v u:=fun u v => by
  unfold mmx; simp only [if_true]; split <;> split <;> omega
 rw [mc y,mc z] at bm bf
 obtain ⟨m1,hm1⟩ : ∃ m1,m1 = mmx true (n - y) y:=⟨_,rfl⟩
 obtain ⟨m2,hm2⟩ : ∃ m2,m2 = mmx true (n - z) z:=⟨_,rfl⟩
 rw [← hm1,← hm2] at bm bf
 by_cases lt : m1 < m2
 ·refine Iso_of (es _ _ _ _) e8 ?_
  simp only [f8,bkV] at c15 d38 c36 c39 k36 c40 c30 q38 q39 q36 ⊢
  simp (disch:=first|assumption|omega|(simp only[az];done)) only [ru,eq_self,if_true,if_false,BEq.rfl,binI,AO.row?,mmAll,loadV,Am.rowAt,Am.part,Nat.reduceAdd,Nat.reduceSub,view_sl H.t.o,view_sl H.t.w,view_sl H.s,pure_sl H.t.o,pure_sl H.t.w,pure_sl H.s,c15,d38,c36,c39,k36,c40,c30,c41,q38,q39,q36,ez,ey,g1,g2,g3,g4,g5,n0,n1,← hm1,← hm2,bm,lt,view_sl iw1,pure_sl iw1,view_sl io1,pure_sl io1,view_sl is1,pure_sl is1,view_sl iw2,pure_sl iw2,view_sl io2,pure_sl io2,view_sl is2,pure_sl is2,w34a,w17]
 ·have le : q ≤ t:=by
   apply Classical.byContradiction
   intro h
   exact lt (bf (by omega))
  refine Iso_of (es _ _ _ _) e8 ?_
  simp only [f8,bkV] at c15 d38 c36 c39 k36 c40 c30 q38 q39 q36 ⊢
  simp (disch:=first|assumption|omega|(simp only[az];done)) only [ru,eq_self,if_true,if_false,BEq.rfl,binI,AO.row?,mmAll,loadV,Am.rowAt,Am.part,Nat.reduceAdd,Nat.reduceSub,view_sl H.t.o,view_sl H.t.w,view_sl H.s,pure_sl H.t.o,pure_sl H.t.w,pure_sl H.s,c15,d38,c36,c39,k36,c40,c30,c41,q38,q39,q36,ez,ey,g1,g2,g3,g4,g5,n0,n1,← hm1,← hm2,bm,lt,le,view_sl iw1,pure_sl iw1,view_sl io1,pure_sl io1,view_sl is1,pure_sl is1,view_sl iw2,pure_sl iw2,view_sl io2,pure_sl io2,view_sl is2,pure_sl is2,w34a,w17]
end
end Go.Proofs.YtfknojncfbahpaaGreat.S
